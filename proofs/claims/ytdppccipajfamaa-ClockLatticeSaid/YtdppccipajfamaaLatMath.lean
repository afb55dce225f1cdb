/-
  Plain facts about clocks: what the order, Join and Meet are to each other. Without any program.
-/
import Derived.Test.YtdppccipajfamaaClk
namespace Go.Proofs.Ytdppccipajfamaa

theorem latUpA {a b : Ck} (ha : VL a) (hb : VL b) : leB a (joinC a b) = true := (leIff ha (vlJoin a b)).2 fun x => by rw [cntJoin ha hb]; omega
theorem latUpB {a b : Ck} (ha : VL a) (hb : VL b) : leB b (joinC a b) = true := (leIff hb (vlJoin a b)).2 fun x => by rw [cntJoin ha hb]; omega
theorem latDownA {a b : Ck} (ha : VL a) (hb : VL b) : leB (meetC a b) a = true := (leIff (vlMeet a b) ha).2 fun x => by rw [cntMeet ha hb]; omega
theorem latDownB {a b : Ck} (ha : VL a) (hb : VL b) : leB (meetC a b) b = true := (leIff (vlMeet a b) hb).2 fun x => by rw [cntMeet ha hb]; omega
theorem latUpEq {a b : Ck} (ha : VL a) (hb : VL b) (h : leB a b = true) : joinC a b = b := vlExt (vlJoin a b) hb fun x => by rw [cntJoin ha hb]; have := (leIff ha hb).1 h x; omega
theorem latDownEq {a b : Ck} (ha : VL a) (hb : VL b) (h : leB a b = true) : meetC a b = a := vlExt (vlMeet a b) ha fun x => by rw [cntMeet ha hb]; have := (leIff ha hb).1 h x; omega
theorem latAnti {a b : Ck} (ha : VL a) (hb : VL b) (h : leB a b = true) (h' : leB b a = true) : a = b := vlExt ha hb fun x => by have := (leIff ha hb).1 h x; have := (leIff hb ha).1 h' x; omega
theorem latAbs1 {a b : Ck} (ha : VL a) (hb : VL b) : joinC a (meetC a b) = a := vlExt (vlJoin _ _) ha fun x => by rw [cntJoin ha (vlMeet a b), cntMeet ha hb]; omega
theorem latAbs2 {a b : Ck} (ha : VL a) (hb : VL b) : meetC a (joinC a b) = a := vlExt (vlMeet _ _) ha fun x => by rw [cntMeet ha (vlJoin a b), cntJoin ha hb]; omega
theorem latLub {a b c : Ck} (ha : VL a) (hb : VL b) (hc : VL c) (h : leB a c = true) : leB b c = leB (joinC a b) c := by
  rw [Bool.eq_iff_iff, leIff hb hc, leIff (vlJoin a b) hc]
  have h' := (leIff ha hc).1 h
  constructor
  · intro g x; rw [cntJoin ha hb]; have := g x; have := h' x; omega
  · intro g x; have := g x; rw [cntJoin ha hb] at this; omega
theorem latGlb {a b c : Ck} (ha : VL a) (hb : VL b) (hc : VL c) (h : leB c a = true) : leB c b = leB c (meetC a b) := by
  rw [Bool.eq_iff_iff, leIff hc hb, leIff hc (vlMeet a b)]
  have h' := (leIff hc ha).1 h
  constructor
  · intro g x; rw [cntMeet ha hb]; have := g x; have := h' x; omega
  · intro g x; have := g x; rw [cntMeet ha hb] at this; omega
theorem latTrans {a b c : Ck} (ha : VL a) (hb : VL b) (hc : VL c) (h : leB a b = true) (h' : leB b c = true) : leB a c = true := (leIff ha hc).2 fun x => by have := (leIff ha hb).1 h x; have := (leIff hb hc).1 h' x; omega
theorem latRefl {a : Ck} (ha : VL a) : leB a a = true := (leIff ha ha).2 fun _ => Int.le_refl _
end Go.Proofs.Ytdppccipajfamaa
