/-
  Plain facts about clocks: the order is a partial order, Join and Meet are bounds. Without any program.
-/
import Derived.Test.YtdppccipajfamaaClk
namespace Go.Proofs.Ytdppccipajfamaa

section
variable {a b c : Ck} (ha : VL a) (hb : VL b) (hc : VL c)
include ha hb
theorem latUpA : leB a (joinC a b) = true := (leIff ha (vlJoin a b)).2 fun x => by rw [cntJoin ha hb]; omega
theorem latUpB : leB b (joinC a b) = true := (leIff hb (vlJoin a b)).2 fun x => by rw [cntJoin ha hb]; omega
theorem latDownA : leB (meetC a b) a = true := (leIff (vlMeet a b) ha).2 fun x => by rw [cntMeet ha hb]; omega
theorem latDownB : leB (meetC a b) b = true := (leIff (vlMeet a b) hb).2 fun x => by rw [cntMeet ha hb]; omega
theorem latUpEq (h : leB a b = true) : joinC a b = b := vlExt (vlJoin a b) hb fun x => by rw [cntJoin ha hb]; have := (leIff ha hb).1 h x; omega
theorem latDownEq (h : leB a b = true) : meetC a b = a := vlExt (vlMeet a b) ha fun x => by rw [cntMeet ha hb]; have := (leIff ha hb).1 h x; omega
theorem latAnti (h : leB a b = true) (h' : leB b a = true) : a = b := vlExt ha hb fun x => by have := (leIff ha hb).1 h x; have := (leIff hb ha).1 h' x; omega
theorem latAbs1 : joinC a (meetC a b) = a := vlExt (vlJoin _ _) ha fun x => by rw [cntJoin ha (vlMeet a b), cntMeet ha hb]; omega
theorem latAbs2 : meetC a (joinC a b) = a := vlExt (vlMeet _ _) ha fun x => by rw [cntMeet ha (vlJoin a b), cntJoin ha hb]; omega
include hc
theorem latLub (h : leB a c = true) : leB b c = leB (joinC a b) c := by
  rw [Bool.eq_iff_iff, leIff hb hc, leIff (vlJoin a b) hc]
  have h' := (leIff ha hc).1 h
  constructor
  · intro g x; rw [cntJoin ha hb]; have := g x; have := h' x; omega
  · intro g x; have := g x; rw [cntJoin ha hb] at this; omega
theorem latGlb (h : leB c a = true) : leB c b = leB c (meetC a b) := by
  rw [Bool.eq_iff_iff, leIff hc hb, leIff hc (vlMeet a b)]
  have h' := (leIff hc ha).1 h
  constructor
  · intro g x; rw [cntMeet ha hb]; have := g x; have := h' x; omega
  · intro g x; have := g x; rw [cntMeet ha hb] at this; omega
theorem latTrans (h : leB a b = true) (h' : leB b c = true) : leB a c = true := (leIff ha hc).2 fun x => by have := (leIff ha hb).1 h x; have := (leIff hb hc).1 h' x; omega
end
theorem latRefl {a : Ck} (ha : VL a) : leB a a = true := (leIff ha ha).2 fun _ => Int.le_refl _
end Go.Proofs.Ytdppccipajfamaa
