/-
  The program's buckets are as is asked of them.
-/
import Derived.Test.YtkijbphbibcnoaaLinPi
namespace Go.Proofs.Ytkijbphbibcnoaa
open Go.RowKit Go.Deep Go.Maps Go.WideShapes

theorem linOk : LinOk LbP where
  kept := fun h ho hT => h.kept ho hT
  lt := fun h => h.lt
  new := newP_any
  newNot := newP_not
  add := fun w p least S B x id h hF hx => addP_any w p least S B x id h hF hx
  remove := fun w p least S B x id h hF hx => removeP_any w p least S B x id h hF hx
  chain := fun w p least S B x h hF hx => chainP_any w p least S B x h hF hx
  at_ := fun w p least S B n h hF => atP_any w p least S B n h hF
  len := fun w p least S B h _ => lenP_any w p least S B h
  count := fun w p least S B h _ => countP_any w p least S B h
  wants := fun w p least S B h hF => wantsP_any w p least S B h hF
  split := fun w p least S B h hF => splitP_any w p least S B h hF
  join := fun w p least S B h hF hl => by
    by_cases e : least < B.length
    · rw [if_pos e, if_pos e]
      exact joinP_any w p least S B h hF hl e
    · rw [if_neg e, if_neg e]
      exact (joinP_not w p least S B h hF e).mono fun _ w' ⟨h1, h2⟩ => ⟨h1, by rw [← h2]; exact StL.same h⟩
end Go.Proofs.Ytkijbphbibcnoaa
