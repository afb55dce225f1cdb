/-
  Plain facts about vector clocks as lists of pairs (agent, count), without any program: validity, counts, merging, the order.
-/
namespace Go.Proofs.Ytdppccipajfamaa

/-- A clock: pairs of an agent and its count. -/
abbrev Ck := List (Int × Int)
/-- Is the clock valid? -/
def VL (l : Ck) : Prop := (∀ t ∈ l, 1 ≤ t.2 ∧ t.2 ≤ 2147483647) ∧ l.Pairwise (fun s t => s.1 < t.1)
instance (l : Ck) : Decidable (VL l) := inferInstanceAs (Decidable (_ ∧ _))
def vldB (l : Ck) : Bool := decide (VL l)
/-- The count of an agent. -/
def cnt : Ck → Int → Int
  | [], _ => 0
  | t :: l, x => if t.1 = x then t.2 else cnt l x

theorem vlNil : VL [] := ⟨by simp, List.Pairwise.nil⟩
theorem vlCons {t : Int × Int} {l : Ck} : VL (t :: l) ↔ (1 ≤ t.2 ∧ t.2 ≤ 2147483647) ∧ (∀ s ∈ l, t.1 < s.1) ∧ VL l := by
  unfold VL
  rw [List.pairwise_cons]
  simp only [List.mem_cons, forall_eq_or_imp]
  constructor
  · rintro ⟨⟨a, b⟩, c, d⟩; exact ⟨a, c, b, d⟩
  · rintro ⟨a, c, b, d⟩; exact ⟨⟨a, b⟩, c, d⟩
theorem vlTail {t : Int × Int} {l : Ck} (h : VL (t :: l)) : VL l := (vlCons.1 h).2.2
theorem cntNone {l : Ck} {x : Int} (h : ∀ t ∈ l, t.1 ≠ x) : cnt l x = 0 := by
  induction l with
  | nil => rfl
  | cons t l ih =>
    rw [cnt, if_neg (h t (by simp))]
    exact ih fun s hs => h s (by simp [hs])
theorem cntBd {l : Ck} (h : VL l) (x : Int) : 0 ≤ cnt l x ∧ cnt l x ≤ 2147483647 := by
  induction l with
  | nil => simp [cnt]
  | cons t l ih =>
    obtain ⟨h1, _, h3⟩ := vlCons.1 h
    rw [cnt]
    split
    · omega
    · exact ih h3
theorem cntMem {l : Ck} (h : VL l) {t : Int × Int} (ht : t ∈ l) : cnt l t.1 = t.2 := by
  induction l with
  | nil => cases ht
  | cons s l ih =>
    obtain ⟨_, h2, h3⟩ := vlCons.1 h
    rw [cnt]
    rcases List.mem_cons.1 ht with rfl | ht
    · rw [if_pos rfl]
    · have := h2 t ht
      rw [if_neg (by omega)]
      exact ih h3 ht
theorem cntPos {l : Ck} (h : VL l) {x : Int} : 0 < cnt l x ↔ ∃ t ∈ l, t.1 = x := by
  constructor
  · intro hp
    by_cases hn : ∀ t ∈ l, t.1 ≠ x
    · rw [cntNone hn] at hp; omega
    · simpa using hn
  · rintro ⟨t, ht, rfl⟩
    rw [cntMem h ht]
    have := h.1 t ht
    omega
theorem vlExt : ∀ {a b : Ck}, VL a → VL b → (∀ x, cnt a x = cnt b x) → a = b
  | [], [], _, _, _ => rfl
  | [], t :: b, _, hb, h => by
    have := (cntPos hb (x := t.1)).2 ⟨t, by simp, rfl⟩
    rw [← h] at this
    simp [cnt] at this
  | t :: a, [], ha, _, h => by
    have := (cntPos ha (x := t.1)).2 ⟨t, by simp, rfl⟩
    rw [h] at this
    simp [cnt] at this
  | s :: a, t :: b, ha, hb, h => by
    obtain ⟨h1, h2, h3⟩ := vlCons.1 ha
    obtain ⟨k1, k2, k3⟩ := vlCons.1 hb
    have hs : cnt (s :: a) s.1 = s.2 := cntMem ha (by simp)
    have ht : cnt (t :: b) t.1 = t.2 := cntMem hb (by simp)
    have e : s.1 = t.1 := by
      obtain ⟨u, hu, eu⟩ := (cntPos hb (x := s.1)).1 (by rw [← h]; rw [hs]; omega)
      obtain ⟨v, hv, ev⟩ := (cntPos ha (x := t.1)).1 (by rw [h]; rw [ht]; omega)
      rcases List.mem_cons.1 hu with rfl | hu
      · exact eu.symm
      · rcases List.mem_cons.1 hv with rfl | hv
        · exact ev
        · have := k2 u hu; have := h2 v hv; omega
    have e2 : s.2 = t.2 := by rw [← hs, ← ht, h, e]
    have es : s = t := Prod.ext e e2
    subst es
    rw [vlExt h3 k3 fun x => ?_]
    have hx := h x
    rw [cnt, cnt] at hx
    by_cases hxs : s.1 = x
    · subst hxs
      rw [cntNone fun u hu => by have := h2 u hu; omega, cntNone fun u hu => by have := k2 u hu; omega]
    · rwa [if_neg hxs, if_neg hxs] at hx

theorem cntCons (t : Int × Int) (l : Ck) (x : Int) : cnt (t :: l) x = if t.1 = x then t.2 else cnt l x := rfl
/-- A tick, unless its count is 0. -/
def kp (x n : Int) : Ck := if 0 < n then [(x, n)] else []
def mrg (f : Int → Int → Int) : Ck → Ck → Ck
  | [], [] => []
  | p :: a, [] => kp p.1 (f p.2 0) ++ mrg f a []
  | [], q :: b => kp q.1 (f 0 q.2) ++ mrg f [] b
  | p :: a, q :: b => if p.1 < q.1 then kp p.1 (f p.2 0) ++ mrg f a (q :: b) else if q.1 < p.1 then kp q.1 (f 0 q.2) ++ mrg f (p :: a) b else kp p.1 (f p.2 q.2) ++ mrg f a b
termination_by a b => a.length + b.length

theorem mrgLt (f : Int → Int → Int) {p q : Int × Int} {a b : Ck} (h : p.1 < q.1) : mrg f (p :: a) (q :: b) = kp p.1 (f p.2 0) ++ mrg f a (q :: b) := by rw [mrg, if_pos h]
theorem mrgGt (f : Int → Int → Int) {p q : Int × Int} {a b : Ck} (h : q.1 < p.1) : mrg f (p :: a) (q :: b) = kp q.1 (f 0 q.2) ++ mrg f (p :: a) b := by rw [mrg, if_neg (by omega), if_pos h]
theorem mrgEq (f : Int → Int → Int) {p q : Int × Int} {a b : Ck} (h : p.1 = q.1) : mrg f (p :: a) (q :: b) = kp p.1 (f p.2 q.2) ++ mrg f a b := by rw [mrg, if_neg (by omega), if_neg (by omega)]
theorem mrgA (f : Int → Int → Int) {p : Int × Int} {a : Ck} : mrg f (p :: a) [] = kp p.1 (f p.2 0) ++ mrg f a [] := by rw [mrg]
theorem mrgB (f : Int → Int → Int) {q : Int × Int} {b : Ck} : mrg f [] (q :: b) = kp q.1 (f 0 q.2) ++ mrg f [] b := by rw [mrg]

/-- Every agent of the clock lies above y. -/
def Abv (y : Int) (l : Ck) : Prop := ∀ t ∈ l, y < t.1
theorem abvKp {y x n : Int} (h : y < x) : Abv y (kp x n) := by
  intro t ht; unfold kp at ht; split at ht <;> simp at ht; subst ht; exact h
theorem abvApp {y : Int} {a b : Ck} (ha : Abv y a) (hb : Abv y b) : Abv y (a ++ b) := fun t ht => by
  rcases List.mem_append.1 ht with h | h
  · exact ha t h
  · exact hb t h
theorem abvMrg (f : Int → Int → Int) (y : Int) : ∀ {a b : Ck}, Abv y a → Abv y b → Abv y (mrg f a b) := by
  intro a b
  induction a, b using mrg.induct with
  | case1 => intro _ _; rw [mrg]; intro t ht; cases ht
  | case2 p a ih => intro ha hb; rw [mrgA]; exact abvApp (abvKp (ha p (by simp))) (ih (fun t ht => ha t (by simp [ht])) hb)
  | case3 q b ih => intro ha hb; rw [mrgB]; exact abvApp (abvKp (hb q (by simp))) (ih ha (fun t ht => hb t (by simp [ht])))
  | case4 p a q b h ih => intro ha hb; rw [mrgLt f h]; exact abvApp (abvKp (ha p (by simp))) (ih (fun t ht => ha t (by simp [ht])) hb)
  | case5 p a q b h1 h ih => intro ha hb; rw [mrgGt f h]; exact abvApp (abvKp (hb q (by simp))) (ih ha (fun t ht => hb t (by simp [ht])))
  | case6 p a q b h1 h2 ih => intro ha hb; rw [mrgEq f (by omega)]; exact abvApp (abvKp (ha p (by simp))) (ih (fun t ht => ha t (by simp [ht])) (fun t ht => hb t (by simp [ht])))
theorem vlKp {x n : Int} {l : Ck} (hn : n ≤ 2147483647) (hl : VL l) (ha : Abv x l) : VL (kp x n ++ l) := by
  unfold kp
  split
  · exact vlCons.2 ⟨⟨by show 1 ≤ n; omega, hn⟩, ha, hl⟩
  · simpa using hl
theorem cntKp {x n : Int} {l : Ck} (hn : 0 ≤ n) (ha : Abv x l) (y : Int) : cnt (kp x n ++ l) y = if x = y then n else cnt l y := by
  unfold kp
  split
  · rfl
  · rw [List.nil_append]
    split
    · rename_i h; subst h
      rw [cntNone fun t ht => by have := ha t ht; omega]
      omega
    · rfl

/-- What a merge may do with two counts. -/
structure Fit (f : Int → Int → Int) : Prop where
  bd : ∀ m n, 0 ≤ m → m ≤ 2147483647 → 0 ≤ n → n ≤ 2147483647 → 0 ≤ f m n ∧ f m n ≤ 2147483647
  zero : f 0 0 = 0
theorem fitMax : Fit max := ⟨fun m n _ _ _ _ => by omega, by decide⟩
theorem fitMin : Fit min := ⟨fun m n _ _ _ _ => by omega, by decide⟩
theorem abvLe {x y : Int} {l : Ck} (h : Abv x l) (hy : y ≤ x) : Abv y l := fun t ht => by have := h t ht; omega
theorem abvCons {x : Int} {p : Int × Int} {l : Ck} (h1 : x < p.1) (h : Abv p.1 l) : Abv x (p :: l) := fun t ht => by
  rcases List.mem_cons.1 ht with rfl | ht
  · exact h1
  · have := h t ht; omega
theorem cntAbv {x y : Int} {l : Ck} (h : Abv x l) (hy : y ≤ x) : cnt l y = 0 := cntNone fun t ht => by have := h t ht; omega
theorem mrgSays {f : Int → Int → Int} (hf : Fit f) : ∀ {a b : Ck}, VL a → VL b → VL (mrg f a b) ∧ ∀ x, cnt (mrg f a b) x = f (cnt a x) (cnt b x) := by
  intro a b
  induction a, b using mrg.induct with
  | case1 => intro _ _; rw [mrg]; exact ⟨vlNil, fun x => by simp [cnt, hf.zero]⟩
  | case2 p a ih =>
    intro ha hb
    obtain ⟨h1, h2, h3⟩ := vlCons.1 ha
    obtain ⟨i1, i2⟩ := ih h3 hb
    have hab : Abv p.1 (mrg f a []) := abvMrg f p.1 h2 (by intro t ht; cases ht)
    have hbd := hf.bd p.2 0 (by omega) (by omega) (by omega) (by omega)
    rw [mrgA]
    refine ⟨vlKp hbd.2 i1 hab, fun x => ?_⟩
    rw [cntKp hbd.1 hab, i2, cntCons p]
    split
    · simp [cnt]
    · rfl
  | case3 p a ih =>
    intro ha hb
    obtain ⟨h1, h2, h3⟩ := vlCons.1 hb
    obtain ⟨i1, i2⟩ := ih ha h3
    have hab : Abv p.1 (mrg f [] a) := abvMrg f p.1 (by intro t ht; cases ht) h2
    have hbd := hf.bd 0 p.2 (by omega) (by omega) (by omega) (by omega)
    rw [mrgB]
    refine ⟨vlKp hbd.2 i1 hab, fun x => ?_⟩
    rw [cntKp hbd.1 hab, i2, cntCons p]
    split
    · simp [cnt]
    · rfl
  | case4 p a q b h ih =>
    intro ha hb
    obtain ⟨h1, h2, h3⟩ := vlCons.1 ha
    obtain ⟨k1, k2, k3⟩ := vlCons.1 hb
    obtain ⟨i1, i2⟩ := ih h3 hb
    have hab : Abv p.1 (mrg f a (q :: b)) := abvMrg f p.1 h2 (abvCons h k2)
    have hbd := hf.bd p.2 0 (by omega) (by omega) (by omega) (by omega)
    rw [mrgLt f h]
    refine ⟨vlKp hbd.2 i1 hab, fun x => ?_⟩
    rw [cntKp hbd.1 hab, i2, cntCons p]
    split
    · rename_i e; subst e
      rw [cntAbv (abvCons h k2) (Int.le_refl _)]
    · rfl
  | case5 p a q b h0 h ih =>
    intro ha hb
    obtain ⟨h1, h2, h3⟩ := vlCons.1 ha
    obtain ⟨k1, k2, k3⟩ := vlCons.1 hb
    obtain ⟨i1, i2⟩ := ih ha k3
    have hab : Abv q.1 (mrg f (p :: a) b) := abvMrg f q.1 (abvCons h h2) k2
    have hbd := hf.bd 0 q.2 (by omega) (by omega) (by omega) (by omega)
    rw [mrgGt f h]
    refine ⟨vlKp hbd.2 i1 hab, fun x => ?_⟩
    rw [cntKp hbd.1 hab, i2, cntCons q]
    split
    · rename_i e; subst e
      rw [cntAbv (abvCons h h2) (Int.le_refl _)]
    · rfl
  | case6 p a q b h0 h ih =>
    intro ha hb
    obtain ⟨h1, h2, h3⟩ := vlCons.1 ha
    obtain ⟨k1, k2, k3⟩ := vlCons.1 hb
    obtain ⟨i1, i2⟩ := ih h3 k3
    have e : p.1 = q.1 := by omega
    have hab : Abv p.1 (mrg f a b) := abvMrg f p.1 h2 (abvLe k2 (by omega))
    have hbd := hf.bd p.2 q.2 (by omega) (by omega) (by omega) (by omega)
    rw [mrgEq f e]
    refine ⟨vlKp hbd.2 i1 hab, fun x => ?_⟩
    rw [cntKp hbd.1 hab, i2, cntCons p, cntCons q, ← e]
    split <;> rfl
theorem lenKp (x n : Int) : (kp x n).length ≤ 1 := by unfold kp; split <;> simp
theorem lenMrg (f : Int → Int → Int) : ∀ (a b : Ck), (mrg f a b).length ≤ a.length + b.length := by
  intro a b
  induction a, b using mrg.induct with
  | case1 => rw [mrg]; simp
  | case2 p a ih => rw [mrgA, List.length_append, List.length_cons]; have := lenKp p.1 (f p.2 0); omega
  | case3 q b ih => rw [mrgB, List.length_append, List.length_cons]; have := lenKp q.1 (f 0 q.2); omega
  | case4 p a q b h ih => rw [mrgLt f h, List.length_append]; simp only [List.length_cons] at *; have := lenKp p.1 (f p.2 0); omega
  | case5 p a q b h1 h ih => rw [mrgGt f h, List.length_append]; simp only [List.length_cons] at *; have := lenKp q.1 (f 0 q.2); omega
  | case6 p a q b h1 h2 ih => rw [mrgEq f (by omega), List.length_append]; simp only [List.length_cons] at *; have := lenKp p.1 (f p.2 q.2); omega

/-- What merge, Join, Meet, Advance and LessEq return. -/
def mrgC (f : Int → Int → Int) (a b : Ck) : Ck := if VL a ∧ VL b then mrg f a b else []
def joinC (a b : Ck) : Ck := mrgC max a b
def meetC (a b : Ck) : Ck := mrgC min a b
def getC (c : Ck) (x : Int) : Int := if VL c then cnt c x else 0
def advC (c : Ck) (x : Int) : Ck := joinC c [(x, getC c x + 1)]
def leB (a b : Ck) : Bool := decide (VL a ∧ VL b ∧ joinC a b = b)
def conB (a b : Ck) : Bool := decide (VL a ∧ VL b) && !leB a b && !leB b a
theorem lenMrgC (f : Int → Int → Int) (a b : Ck) : (mrgC f a b).length ≤ a.length + b.length := by
  unfold mrgC; split
  · exact lenMrg f a b
  · simp
theorem vlMrgC {f : Int → Int → Int} (hf : Fit f) (a b : Ck) : VL (mrgC f a b) := by
  unfold mrgC; split
  · rename_i h; exact (mrgSays hf h.1 h.2).1
  · exact vlNil
theorem cntMrgC {f : Int → Int → Int} (hf : Fit f) {a b : Ck} (ha : VL a) (hb : VL b) (x : Int) : cnt (mrgC f a b) x = f (cnt a x) (cnt b x) := by
  unfold mrgC; rw [if_pos ⟨ha, hb⟩]; exact (mrgSays hf ha hb).2 x
theorem vlJoin (a b : Ck) : VL (joinC a b) := vlMrgC fitMax a b
theorem vlMeet (a b : Ck) : VL (meetC a b) := vlMrgC fitMin a b
theorem cntJoin {a b : Ck} (ha : VL a) (hb : VL b) (x : Int) : cnt (joinC a b) x = max (cnt a x) (cnt b x) := cntMrgC fitMax ha hb x
theorem cntMeet {a b : Ck} (ha : VL a) (hb : VL b) (x : Int) : cnt (meetC a b) x = min (cnt a x) (cnt b x) := cntMrgC fitMin ha hb x
theorem leIff {a b : Ck} (ha : VL a) (hb : VL b) : leB a b = true ↔ ∀ x, cnt a x ≤ cnt b x := by
  unfold leB
  rw [decide_eq_true_iff]
  constructor
  · rintro ⟨_, _, e⟩ x
    have := cntJoin ha hb x
    rw [e] at this
    omega
  · intro h
    exact ⟨ha, hb, vlExt (vlJoin a b) hb fun x => by rw [cntJoin ha hb]; have := h x; omega⟩
theorem vlOne {x n : Int} : VL [(x, n)] ↔ 1 ≤ n ∧ n ≤ 2147483647 := by
  rw [vlCons]; exact ⟨fun h => h.1, fun h => ⟨h, by simp, vlNil⟩⟩
theorem cntOne (x n y : Int) : cnt [(x, n)] y = if x = y then n else 0 := rfl
theorem advSays {c : Ck} (hc : VL c) {x : Int} (h : cnt c x < 2147483647) : VL (advC c x) ∧ ∀ y, cnt (advC c x) y = cnt c y + if x = y then 1 else 0 := by
  have hb := cntBd hc x
  have h1 : VL [(x, getC c x + 1)] := vlOne.2 (by unfold getC; rw [if_pos hc]; omega)
  refine ⟨vlJoin _ _, fun y => ?_⟩
  unfold advC
  rw [cntJoin hc h1, cntOne]
  have hy := cntBd hc y
  unfold getC
  rw [if_pos hc]
  split
  · rename_i e; subst e; omega
  · omega

/-! The loops that read a clock. -/
theorem vlTake {l : Ck} (h : VL l) (k : Nat) : VL (l.take k) := ⟨fun t ht => h.1 t (List.mem_of_mem_take ht), h.2.sublist (List.take_sublist k l)⟩
theorem vlSucc {l : Ck} {k : Nat} (hk : k < l.length) (h : VL (l.take k)) (h1 : 1 ≤ l[k].2) (h2 : l[k].2 ≤ 2147483647) (h3 : ∀ h : 0 < k, l[k - 1].1 < l[k].1) : VL (l.take (k + 1)) := by
  rw [List.take_succ_eq_append_getElem hk]
  refine ⟨fun t ht => ?_, List.pairwise_append.2 ⟨h.2, by simp, fun s hs t ht => ?_⟩⟩
  · rcases List.mem_append.1 ht with ht | ht
    · exact h.1 t ht
    · obtain rfl : t = l[k] := by simpa using ht
      exact ⟨h1, h2⟩
  · obtain rfl : t = l[k] := by simpa using ht
    obtain ⟨i, hi, rfl⟩ := List.mem_take_iff_getElem.1 hs
    have h0 := h3 (by omega)
    by_cases e : i = k - 1
    · subst e; exact h0
    · have := List.pairwise_iff_getElem.1 h.2 i (k - 1) (by simp; omega) (by simp; omega) (by omega)
      simp only [List.getElem_take] at this
      omega
theorem vldYes {l : Ck} (h : VL l) : vldB l = true := decide_eq_true h
theorem vldAll {l : Ck} {k : Nat} (h : VL (l.take k)) (hk : l.length ≤ k) : vldB l = true := vldYes (by rwa [List.take_of_length_le hk] at h)
theorem vldLow {l : Ck} {k : Nat} (hk : k < l.length) (h : l[k].2 < 1) : vldB l = false := decide_eq_false fun hv => by have := hv.1 l[k] (List.getElem_mem hk); omega
theorem vldHigh {l : Ck} {k : Nat} (hk : k < l.length) (h : 2147483647 < l[k].2) : vldB l = false := decide_eq_false fun hv => by have := hv.1 l[k] (List.getElem_mem hk); omega
theorem vldOrd {l : Ck} {k : Nat} (hk : k < l.length) (h0 : 0 < k) (h : l[k].1 ≤ l[k - 1].1) : vldB l = false := decide_eq_false fun hv => by have := List.pairwise_iff_getElem.1 hv.2 (k - 1) k (by omega) hk (by omega); omega
theorem vldIff {l : Ck} : vldB l = true ↔ VL l := decide_eq_true_iff
theorem vldNo {l : Ck} : vldB l = false ↔ ¬ VL l := decide_eq_false_iff_not
theorem cntHit {l : Ck} {k : Nat} {x : Int} (hk : k < l.length) (e : l[k].1 = x) : cnt (l.drop k) x = l[k].2 := by rw [List.drop_eq_getElem_cons hk, cntCons, if_pos e]
theorem cntMiss {l : Ck} {k : Nat} {x : Int} (hk : k < l.length) (e : l[k].1 ≠ x) : cnt (l.drop k) x = cnt (l.drop (k + 1)) x := by rw [List.drop_eq_getElem_cons hk, cntCons, if_neg e]
theorem cntEnd {l : Ck} {k : Nat} {x : Int} (hk : l.length ≤ k) : cnt (l.drop k) x = 0 := by rw [List.drop_eq_nil_of_le hk]; rfl
/-- Are the two clocks the same? -/
def eqC (l m : Ck) : Bool := decide (l = m)
theorem eqC_yes {l m : Ck} (h : l = m) : eqC l m = true := decide_eq_true h
theorem eqC_len {l m : Ck} (h : l.length ≠ m.length) : eqC l m = false := decide_eq_false fun e => h (by rw [e])
theorem eqC_at {l m : Ck} {k : Nat} (h1 : k < l.length) (h2 : k < m.length) (h : l[k].1 ≠ m[k].1 ∨ l[k].2 ≠ m[k].2) : eqC l m = false := decide_eq_false fun e => by subst e; simp at h
theorem eqC_all {l m : Ck} {k : Nat} (hl : l.length = m.length) (hk : l.length ≤ k) (h : l.take k = m.take k) : eqC l m = true := by
  rw [List.take_of_length_le hk, List.take_of_length_le (by omega)] at h
  exact eqC_yes h
theorem takeEqSucc {l m : Ck} {k : Nat} (h1 : k < l.length) (h2 : k < m.length) (h : l.take k = m.take k) (e1 : l[k].1 = m[k].1) (e2 : l[k].2 = m[k].2) : l.take (k + 1) = m.take (k + 1) := by
  rw [List.take_succ_eq_append_getElem h1, List.take_succ_eq_append_getElem h2, h, Prod.ext e1 e2]
/-- The agent with which a merge goes on. -/
def fstA : Ck → Ck → Int
  | [], [] => 0
  | [], q :: _ => q.1
  | p :: _, [] => p.1
  | p :: _, q :: _ => min p.1 q.1
/-- The count that take returns, and the clock. -/
def tkN : Ck → Int → Int
  | [], _ => 0
  | p :: _, x => if p.1 = x then p.2 else 0
def tkR : Ck → Int → Ck
  | [], _ => []
  | p :: l, x => if p.1 = x then l else p :: l
theorem lenTk (l : Ck) (x : Int) : (tkR l x).length ≤ l.length := by
  cases l with
  | nil => simp [tkR]
  | cons p l => rw [tkR]; split <;> simp
theorem mrgStep (f : Int → Int → Int) (a b : Ck) (h : 0 < a.length ∨ 0 < b.length) :
    mrg f a b = kp (fstA a b) (f (tkN a (fstA a b)) (tkN b (fstA a b))) ++ mrg f (tkR a (fstA a b)) (tkR b (fstA a b)) ∧ (tkR a (fstA a b)).length + (tkR b (fstA a b)).length < a.length + b.length := by
  rcases a with _ | ⟨p, a⟩ <;> rcases b with _ | ⟨q, b⟩
  · simp at h
  · simp [fstA, tkN, tkR, mrgB]
  · simp [fstA, tkN, tkR, mrgA]
  · rcases Int.lt_trichotomy p.1 q.1 with e | e | e
    · have h1 : min p.1 q.1 = p.1 := by omega
      have h2 : ¬ q.1 = p.1 := by omega
      simp [fstA, tkN, tkR, h1, h2, mrgLt f e]
    · simp [fstA, tkN, tkR, ← e, mrgEq f e]; omega
    · have h1 : min p.1 q.1 = q.1 := by omega
      have h2 : ¬ p.1 = q.1 := by omega
      simp [fstA, tkN, tkR, h1, h2, mrgGt f e]
end Go.Proofs.Ytdppccipajfamaa
