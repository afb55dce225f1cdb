/-
  Plain facts about the reference's way to merge clocks: the agents of both in increasing order, a tick for each. Without any program.
-/
import Derived.Test.YtdppccipajfamaaClk
namespace Go.Proofs.Ytdppccipajfamaa

/-- The agents of two clocks, in increasing order. -/
def ags : Ck → Ck → List Int
  | [], [] => []
  | p :: a, [] => p.1 :: ags a []
  | [], q :: b => q.1 :: ags [] b
  | p :: a, q :: b => if p.1 < q.1 then p.1 :: ags a (q :: b) else if p.1 = q.1 then q.1 :: ags a b else q.1 :: ags (p :: a) b
termination_by a b => a.length + b.length
theorem agsNil : ags [] [] = [] := by rw [ags]
theorem agsA {p : Int × Int} {a : Ck} : ags (p :: a) [] = p.1 :: ags a [] := by rw [ags]
theorem agsB {q : Int × Int} {b : Ck} : ags [] (q :: b) = q.1 :: ags [] b := by rw [ags]
theorem agsLt {p q : Int × Int} {a b : Ck} (h : p.1 < q.1) : ags (p :: a) (q :: b) = p.1 :: ags a (q :: b) := by rw [ags, if_pos h]
theorem agsEq {p q : Int × Int} {a b : Ck} (h : p.1 = q.1) : ags (p :: a) (q :: b) = q.1 :: ags a b := by rw [ags, if_neg (by omega), if_pos h]
theorem agsGt {p q : Int × Int} {a b : Ck} (h : q.1 < p.1) : ags (p :: a) (q :: b) = q.1 :: ags (p :: a) b := by rw [ags, if_neg (by omega), if_neg (by omega)]
theorem agsMem (x : Int) : ∀ a b : Ck, x ∈ ags a b ↔ (∃ t ∈ a, t.1 = x) ∨ ∃ t ∈ b, t.1 = x := by
  intro a b
  induction a, b using ags.induct with
  | case1 => rw [agsNil]; simp
  | case2 p a ih => rw [agsA, List.mem_cons, ih]; simp; grind
  | case3 q b ih => rw [agsB, List.mem_cons, ih]; simp; grind
  | case4 p a q b h ih => rw [agsLt h, List.mem_cons, ih]; simp; grind
  | case5 p a q b h1 h ih => rw [agsEq h, List.mem_cons, ih]; simp; grind
  | case6 p a q b h1 h2 ih => rw [agsGt (by omega), List.mem_cons, ih]; simp; grind
theorem lenAgs : ∀ a b : Ck, (ags a b).length ≤ a.length + b.length := by
  intro a b
  induction a, b using ags.induct with
  | case1 => rw [agsNil]; simp
  | case2 p a ih => rw [agsA]; simp only [List.length_cons] at *; omega
  | case3 q b ih => rw [agsB]; simp only [List.length_cons] at *; omega
  | case4 p a q b h ih => rw [agsLt h]; simp only [List.length_cons] at *; omega
  | case5 p a q b h1 h ih => rw [agsEq h]; simp only [List.length_cons] at *; omega
  | case6 p a q b h1 h2 ih => rw [agsGt (by omega)]; simp only [List.length_cons] at *; omega
theorem agsAbv {x : Int} {a b : Ck} (ha : Abv x a) (hb : Abv x b) : ∀ y ∈ ags a b, x < y := fun y hy => by
  rcases (agsMem y a b).1 hy with ⟨t, ht, rfl⟩ | ⟨t, ht, rfl⟩
  · exact ha t ht
  · exact hb t ht
theorem agsSrt : ∀ {a b : Ck}, VL a → VL b → (ags a b).Pairwise (· < ·) := by
  intro a b
  induction a, b using ags.induct with
  | case1 => intro _ _; rw [agsNil]; exact List.Pairwise.nil
  | case2 p a ih => intro ha hb; rw [agsA]; exact List.pairwise_cons.2 ⟨agsAbv (vlCons.1 ha).2.1 (by intro t ht; cases ht), ih (vlTail ha) hb⟩
  | case3 q b ih => intro ha hb; rw [agsB]; exact List.pairwise_cons.2 ⟨agsAbv (by intro t ht; cases ht) (vlCons.1 hb).2.1, ih ha (vlTail hb)⟩
  | case4 p a q b h ih => intro ha hb; rw [agsLt h]; exact List.pairwise_cons.2 ⟨agsAbv (vlCons.1 ha).2.1 (abvCons h (vlCons.1 hb).2.1), ih (vlTail ha) hb⟩
  | case5 p a q b h1 h ih => intro ha hb; rw [agsEq h]; exact List.pairwise_cons.2 ⟨agsAbv (abvLe (vlCons.1 ha).2.1 (by omega)) (vlCons.1 hb).2.1, ih (vlTail ha) (vlTail hb)⟩
  | case6 p a q b h1 h2 ih => intro ha hb; rw [agsGt (by omega)]; exact List.pairwise_cons.2 ⟨agsAbv (abvCons (by omega) (vlCons.1 ha).2.1) (vlCons.1 hb).2.1, ih ha (vlTail hb)⟩

/-- A tick for each agent whose count is positive. -/
def gen (g : Int → Int) : List Int → Ck
  | [] => []
  | x :: L => kp x (g x) ++ gen g L
theorem genMem (g : Int → Int) : ∀ {L : List Int} {t : Int × Int}, t ∈ gen g L → t.1 ∈ L
  | [], _, h => by cases h
  | x :: L, t, h => by
    rw [gen, List.mem_append] at h
    rcases h with h | h
    · unfold kp at h; split at h <;> simp at h; subst h; simp
    · exact List.mem_cons_of_mem _ (genMem g h)
theorem genSays (g : Int → Int) (hg : ∀ x, 0 ≤ g x ∧ g x ≤ 2147483647) : ∀ {L : List Int}, L.Pairwise (· < ·) → VL (gen g L) ∧ ∀ y, cnt (gen g L) y = if y ∈ L then g y else 0
  | [], _ => ⟨vlNil, fun y => by simp [gen, cnt]⟩
  | x :: L, h => by
    obtain ⟨h1, h2⟩ := List.pairwise_cons.1 h
    obtain ⟨i1, i2⟩ := genSays g hg h2
    have hab : Abv x (gen g L) := fun t ht => h1 _ (genMem g ht)
    refine ⟨vlKp (hg x).2 i1 hab, fun y => ?_⟩
    rw [gen, cntKp (hg x).1 hab, i2]
    by_cases e : x = y
    · subst e; simp
    · rw [if_neg e]
      by_cases hy : y ∈ L
      · rw [if_pos hy, if_pos (List.mem_cons_of_mem _ hy)]
      · rw [if_neg hy, if_neg (fun h => by rcases List.mem_cons.1 h with h | h; exact e h.symm; exact hy h)]
theorem mapGen (g : Int → Int) : ∀ {L : List Int}, (∀ x ∈ L, 0 < g x) → L.map (fun x => (x, g x)) = gen g L
  | [], _ => rfl
  | x :: L, h => by
    rw [List.map_cons, gen, mapGen g fun y hy => h y (List.mem_cons_of_mem _ hy), kp, if_pos (h x (by simp))]
    rfl
theorem memCnt {c : Ck} (hc : VL c) {x : Int} (h : ¬ ∃ t ∈ c, t.1 = x) : cnt c x = 0 := by
  have := cntBd hc x
  have := mt (cntPos hc (x := x)).1 h
  omega
theorem joinGen {a b : Ck} (ha : VL a) (hb : VL b) : (ags a b).map (fun x => (x, max (cnt a x) (cnt b x))) = joinC a b := by
  have hbd : ∀ x, 0 ≤ max (cnt a x) (cnt b x) ∧ max (cnt a x) (cnt b x) ≤ 2147483647 := fun x => by have := cntBd ha x; have := cntBd hb x; omega
  rw [mapGen (fun x => max (cnt a x) (cnt b x)) fun x hx => ?_]
  · obtain ⟨h1, h2⟩ := genSays _ hbd (agsSrt ha hb)
    refine vlExt h1 (vlJoin a b) fun x => ?_
    rw [h2, cntJoin ha hb]
    split
    · rfl
    · rename_i hx
      rw [agsMem, not_or] at hx
      rw [memCnt ha hx.1, memCnt hb hx.2]; rfl
  · have := cntBd ha x
    have := cntBd hb x
    rcases (agsMem x a b).1 hx with h | h
    · have := (cntPos ha).2 h; omega
    · have := (cntPos hb).2 h; omega
theorem meetGen {a b : Ck} (ha : VL a) (hb : VL b) : gen (fun x => min (cnt a x) (cnt b x)) (ags a b) = meetC a b := by
  have hbd : ∀ x, 0 ≤ min (cnt a x) (cnt b x) ∧ min (cnt a x) (cnt b x) ≤ 2147483647 := fun x => by have := cntBd ha x; have := cntBd hb x; omega
  obtain ⟨h1, h2⟩ := genSays _ hbd (agsSrt ha hb)
  refine vlExt h1 (vlMeet a b) fun x => ?_
  rw [h2, cntMeet ha hb]
  split
  · rfl
  · rename_i hx
    rw [agsMem, not_or] at hx
    rw [memCnt ha hx.1, memCnt hb hx.2]; rfl
theorem advGen {c : Ck} {x : Int} (hc : VL c) (h : cnt c x ≠ 2147483647) : (ags c [(x, 1)]).map (fun y => (y, cnt c y + if y = x then 1 else 0)) = advC c x := by
  have h1 : VL [(x, (1 : Int))] := vlOne.2 (by omega)
  have hx := cntBd hc x
  obtain ⟨k1, k2⟩ := advSays hc (x := x) (by omega)
  have hbd : ∀ y, 0 ≤ cnt c y + (if y = x then 1 else 0) ∧ cnt c y + (if y = x then 1 else 0) ≤ 2147483647 := fun y => by
    have := cntBd hc y
    split
    · rename_i e; subst e; omega
    · omega
  rw [mapGen (fun y => cnt c y + if y = x then 1 else 0) fun y hy => ?_]
  · obtain ⟨i1, i2⟩ := genSays _ hbd (agsSrt hc h1)
    refine vlExt i1 k1 fun y => ?_
    rw [i2, k2]
    split
    · by_cases e : y = x
      · rw [if_pos e, if_pos e.symm]
      · rw [if_neg e, if_neg (Ne.symm e)]
    · rename_i hy
      rw [agsMem, not_or] at hy
      rw [memCnt hc hy.1, if_neg (fun e => hy.2 ⟨(x, 1), by simp, e⟩)]; rfl
  · have := cntBd hc y
    rcases (agsMem y c [(x, 1)]).1 hy with h | h
    · have := (cntPos hc).2 h; split <;> omega
    · obtain ⟨t, ht, e⟩ := h
      obtain rfl : t = (x, 1) := by simpa using ht
      rw [if_pos e.symm]; omega
theorem advNone {c : Ck} {x : Int} (h : ¬ (VL c ∧ cnt c x ≠ 2147483647)) : advC c x = [] := by
  unfold advC joinC mrgC
  rw [if_neg]
  rintro ⟨hc, h1⟩
  refine h ⟨hc, fun e => ?_⟩
  rw [vlOne, getC, if_pos hc, e] at h1
  omega
/-- The order, tick by tick. -/
theorem leTicks {a b : Ck} (ha : VL a) (hb : VL b) : leB a b = true ↔ ∀ t ∈ a, t.2 ≤ cnt b t.1 := by
  rw [leIff ha hb]
  constructor
  · intro h t ht
    have := h t.1
    rwa [cntMem ha ht] at this
  · intro h x
    by_cases hx : ∃ t ∈ a, t.1 = x
    · obtain ⟨t, ht, rfl⟩ := hx
      rw [cntMem ha ht]; exact h t ht
    · rw [memCnt ha hx]; exact (cntBd hb x).1
/-! The loops. -/
theorem dropAgsBoth {a b : Ck} {i k : Nat} (hi : i < a.length) (hk : k < b.length) : a.drop i = a[i] :: a.drop (i + 1) ∧ b.drop k = b[k] :: b.drop (k + 1) := ⟨List.drop_eq_getElem_cons hi, List.drop_eq_getElem_cons hk⟩
theorem agStepA {a b : Ck} {i k : Nat} (hi : i < a.length) (hk : b.length ≤ k) : ags (a.drop i) (b.drop k) = a[i].1 :: ags (a.drop (i + 1)) (b.drop k) := by rw [List.drop_eq_getElem_cons hi, List.drop_eq_nil_of_le hk, agsA]
theorem agStepB {a b : Ck} {i k : Nat} (hi : a.length ≤ i) (hk : k < b.length) : ags (a.drop i) (b.drop k) = b[k].1 :: ags (a.drop i) (b.drop (k + 1)) := by rw [List.drop_eq_getElem_cons hk, List.drop_eq_nil_of_le hi, agsB]
theorem agStepLt {a b : Ck} {i k : Nat} (hi : i < a.length) (hk : k < b.length) (h : a[i].1 < b[k].1) : ags (a.drop i) (b.drop k) = a[i].1 :: ags (a.drop (i + 1)) (b.drop k) := by rw [List.drop_eq_getElem_cons hi, List.drop_eq_getElem_cons hk, agsLt h]
theorem agStepEq {a b : Ck} {i k : Nat} (hi : i < a.length) (hk : k < b.length) (h : a[i].1 = b[k].1) : ags (a.drop i) (b.drop k) = b[k].1 :: ags (a.drop (i + 1)) (b.drop (k + 1)) := by rw [List.drop_eq_getElem_cons hi, List.drop_eq_getElem_cons hk, agsEq h]
theorem agStepGt {a b : Ck} {i k : Nat} (hi : i < a.length) (hk : k < b.length) (h : b[k].1 < a[i].1) : ags (a.drop i) (b.drop k) = b[k].1 :: ags (a.drop i) (b.drop (k + 1)) := by
  have e1 := List.drop_eq_getElem_cons hi
  rw [List.drop_eq_getElem_cons hk, e1, agsGt h, ← e1]
theorem agEnd {a b : Ck} {i k : Nat} (hi : a.length ≤ i) (hk : b.length ≤ k) : ags (a.drop i) (b.drop k) = [] := by rw [List.drop_eq_nil_of_le hi, List.drop_eq_nil_of_le hk, agsNil]
theorem agNext {s t u r : List Int} {x : Int} (h : s ++ t = r) (e : t = x :: u) : s ++ [x] ++ u = r := by rw [← h, e]; simp
end Go.Proofs.Ytdppccipajfamaa
