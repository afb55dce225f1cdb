/-
  Folding, threading and pruning of a code, pure: the three, that their results have no error, that threading and pruning twice is the same as once.
-/
import Derived.Test.YtpkagpobobmnfaaGreatDoorPCg
import Derived.Test.YtpkagpobobmnfaaGreatDoorPCb
import Derived.Test.YtpkagpobobmnfaaGreatDoorPNum
namespace Go.Proofs.YtpkagpobobmnfaaGreatDoor
open Go.RowKit (wrap32 wrap64)

/-! Instructions. -/
def cst (a v : Int) : I8 := ⟨1, a, 0, 0, 0, v, 0, 0⟩
def jmpTo (n : Int) : I8 := ⟨4, 0, 0, 0, 0, n, 0, 0⟩
def setNf (i : I8) (n : Int) : I8 := { i with n := n }
theorem setNfSelf {i : I8} : setNf i i.n = i := rfl
theorem cstChk {a v : Int} (ha : 0 ≤ a ∧ a < 8) (hv : wrap32 v = v) : (cst a v).chk = 0 := by
  have h2 : nOk v = true := by unfold nOk; exact decide_eq_true hv
  unfold I8.chk I8.fs I8.rs I8.fOk I8.u I8.con cst
  simp [opOk, h2, rgOk, orOk, us, usTab, ha]
theorem jmpChk (n : Int) : (jmpTo n).chk = 0 := by
  unfold I8.chk I8.fs I8.rs I8.fOk I8.u I8.con jmpTo
  simp [opOk, rgOk, orOk, us, usTab]
theorem setNfChk {i : I8} (h : i.chk = 0) (hj : i.jmp = true) (n : Int) : (setNf i n).chk = 0 := by
  unfold I8.jmp at hj
  rw [Bool.or_eq_true, decide_eq_true_iff, decide_eq_true_iff] at hj
  obtain ⟨op, a, b, c, obj, m, fn, ord⟩ := i
  simp only at hj
  unfold I8.chk I8.fs I8.rs I8.fOk I8.u I8.con setNf at *
  simp only at h ⊢
  rcases hj with rfl | rfl
  · simpa [us, usTab] using h
  · simpa [us, usTab] using h
theorem cfMkF {len : Nat} : ∀ {l : List I8}, (∀ i ∈ l, i.chk = 0 ∧ (i.jmp = true → belB i.n (len + 1) = true)) → cfF len l = 0
  | [], _ => rfl
  | i :: t, h => by
    have h1 := h i (by simp)
    rw [cfF, if_neg (by rw [h1.1]; simp), if_neg ?_]
    · exact cfMkF fun j hj => h j (List.mem_cons_of_mem _ hj)
    · cases e : i.jmp
      · simp
      · rw [h1.2 e]; simp
theorem cfMk {C : List I8} (h : CfOk C) : cfE C = 0 := by
  have h1 := h.len
  unfold cfE
  rw [if_neg (by omega)]
  refine cfMkF fun i hi => ⟨h.chk i hi, fun hj => ?_⟩
  have := h.tgt i hi hj
  unfold belB
  rw [decide_eq_true this.1, decide_eq_true (by omega)]
  rfl

/-! Fold. -/
abbrev Kn := Int → Option Int
def knNo : Kn := fun _ => none
def knUp (K : Kn) (r : Int) (v : Option Int) : Kn := fun x => if x = r then v else K x
/-- The instruction in place of i. -/
def fdI (K : Kn) (nx : Int) (i : I8) : I8 :=
  if i.op = 2 then match K i.b with
    | some v => cst i.a v
    | none => i
  else if i.op = 3 then match K i.b, K i.c with
    | some x, some y => cst i.a (opI i.fn x y)
    | _, _ => i
  else if i.op = 5 then match K i.b with
    | some v => if v = 0 then jmpTo nx else jmpTo i.n
    | none => i
  else if i.op = 6 then match K i.b with
    | some v => if v = 0 then i else jmpTo nx
    | none => i
  else i
/-- What is known behind it. -/
def knI (K : Kn) (i : I8) : Kn := if i.u 0 = true then knUp K i.a (if i.op = 1 then some i.n else none) else K
/-- Is instruction k a leader? -/
def ldQ (C : List I8) (k : Nat) : Bool := decide ((k : Int) ∈ ldR C)
def knB (C : List I8) (k : Nat) (K : Kn) : Kn := if ldQ C k = true then knNo else K
def gI (C : List I8) (k : Nat) : I8 := C.getD k I8.zero
theorem gIAt {C : List I8} {k : Nat} (h : k < C.length) : gI C k = C[k] := by unfold gI; rw [List.getD_eq_getElem?_getD, List.getElem?_eq_getElem h]; rfl
/-- What is known before instruction k. -/
def knA (C : List I8) : Nat → Kn
  | 0 => knNo
  | k + 1 => knI (knB C k (knA C k)) (fdI (knB C k (knA C k)) ((k + 1 : Nat) : Int) (gI C k))
def fdAt (C : List I8) (k : Nat) : I8 := fdI (knB C k (knA C k)) ((k + 1 : Nat) : Int) (gI C k)
theorem knAS {C : List I8} {k : Nat} : knA C (k + 1) = knI (knB C k (knA C k)) (fdAt C k) := rfl
def fdK (C : List I8) (k : Nat) : List I8 := (List.range k).map (fdAt C)
theorem fdKS {C : List I8} {k : Nat} : fdK C (k + 1) = fdK C k ++ [fdAt C k] := by unfold fdK; rw [List.range_succ, List.map_append]; rfl
theorem fdKLen {C : List I8} {k : Nat} : (fdK C k).length = k := by simp [fdK]
def fdL (C : List I8) : List I8 := fdK C C.length
theorem fdLLen {C : List I8} : (fdL C).length = C.length := fdKLen
theorem fdLAt {C : List I8} {k : Nat} (h : k < (fdL C).length) : (fdL C)[k] = fdAt C k := by simp only [fdL, fdK, List.getElem_map, List.getElem_range]
/-- All that is known is a value, of a register. -/
structure KnOk (K : Kn) : Prop where
  v : ∀ r v, K r = some v → wrap32 v = v
  r : ∀ r v, K r = some v → 0 ≤ r ∧ r < 8
theorem knOkNo : KnOk knNo := ⟨fun _ _ h => (by cases h), fun _ _ h => (by cases h)⟩
theorem w32opI (f a b : Int) : wrap32 (opI f a b) = opI f a b := by
  have hb : ∀ o x y, wrap32 (bits o .i32 x y) = bits o .i32 x y := bitsWrap
  unfold opI
  repeat (split; (first | exact wrap32Twice _ | exact hb _ _ _ | (split <;> (simp only [wrap32]; omega))))
  simp only [wrap32]; omega
theorem fdOp {K : Kn} {nx : Int} {i : I8} : fdI K nx i = i ∨ (fdI K nx i).op = 1 ∧ (i.op = 2 ∨ i.op = 3) ∨ (fdI K nx i).op = 4 ∧ (i.op = 5 ∨ i.op = 6) := by
  unfold fdI
  split
  · split
    · exact .inr (.inl ⟨rfl, .inl (by assumption)⟩)
    · exact .inl rfl
  split
  · split
    · exact .inr (.inl ⟨rfl, .inr (by assumption)⟩)
    · exact .inl rfl
  split
  · split
    · split
      · exact .inr (.inr ⟨rfl, .inl (by assumption)⟩)
      · exact .inr (.inr ⟨rfl, .inl (by assumption)⟩)
    · exact .inl rfl
  split
  · split
    · split
      · exact .inl rfl
      · exact .inr (.inr ⟨rfl, .inr (by assumption)⟩)
    · exact .inl rfl
  · exact .inl rfl
theorem fdChk {K : Kn} (hK : KnOk K) {nx : Int} {i : I8} (h : i.chk = 0) : (fdI K nx i).chk = 0 := by
  have hg := I8.good h
  unfold fdI
  split
  · split
    · exact cstChk hg.a (hK.v _ _ (by assumption))
    · exact h
  split
  · split
    · exact cstChk hg.a (w32opI _ _ _)
    · exact h
  split
  · split
    · split <;> exact jmpChk _
    · exact h
  split
  · split
    · split
      · exact h
      · exact jmpChk _
    · exact h
  · exact h
theorem fdKind {K : Kn} {nx : Int} {i : I8} : fdI K nx i = i ∨ (∃ a v, fdI K nx i = cst a v) ∨ fdI K nx i = jmpTo nx ∨ (fdI K nx i = jmpTo i.n ∧ i.op = 5) := by
  unfold fdI
  split
  · split
    · exact .inr (.inl ⟨_, _, rfl⟩)
    · exact .inl rfl
  split
  · split
    · exact .inr (.inl ⟨_, _, rfl⟩)
    · exact .inl rfl
  split
  · split
    · split
      · exact .inr (.inr (.inl rfl))
      · exact .inr (.inr (.inr ⟨rfl, by assumption⟩))
    · exact .inl rfl
  split
  · split
    · split
      · exact .inl rfl
      · exact .inr (.inr (.inl rfl))
    · exact .inl rfl
  · exact .inl rfl
theorem fdTgt {K : Kn} {nx : Int} {i : I8} {m : Int} (h : i.jmp = true → 0 ≤ i.n ∧ i.n ≤ m) (hx : 0 ≤ nx ∧ nx ≤ m) (hj : (fdI K nx i).jmp = true) : 0 ≤ (fdI K nx i).n ∧ (fdI K nx i).n ≤ m := by
  rcases fdKind (K := K) (nx := nx) (i := i) with e | ⟨a, v, e⟩ | e | ⟨e, h5⟩
  · rw [e] at hj ⊢; exact h hj
  · rw [e] at hj; cases hj
  · rw [e]; exact hx
  · rw [e]; exact h (by unfold I8.jmp; rw [h5]; rfl)
theorem knIOk {K : Kn} (hK : KnOk K) {i : I8} (h : i.chk = 0) : KnOk (knI K i) := by
  have hg := I8.good h
  unfold knI
  split
  · refine ⟨fun r v hr => ?_, fun r v hr => ?_⟩
    · unfold knUp at hr
      split at hr
      · split at hr
        · rename_i h1
          have := hg.n
          rw [h1] at this
          injection hr with hr
          subst hr
          have h2 : nOk i.n = true := by simpa using this
          exact of_decide_eq_true h2
        · cases hr
      · exact hK.v r v hr
    · unfold knUp at hr
      split at hr
      · rename_i e; subst e; exact hg.a
      · exact hK.r r v hr
  · exact hK
theorem knBOk {C : List I8} {k : Nat} {K : Kn} (hK : KnOk K) : KnOk (knB C k K) := by
  unfold knB
  split
  · exact knOkNo
  · exact hK
theorem knAOk {C : List I8} (h : CfOk C) : ∀ {k}, k ≤ C.length → KnOk (knA C k)
  | 0, _ => knOkNo
  | k + 1, hk => by
    have h1 := knBOk (C := C) (k := k) (knAOk h (k := k) (by omega))
    rw [knAS]
    refine knIOk h1 (fdChk h1 ?_)
    rw [gIAt (by omega)]
    exact h.chk _ (List.getElem_mem _)
theorem fdAtChk {C : List I8} (h : CfOk C) {k : Nat} (hk : k < C.length) : (fdAt C k).chk = 0 := by
  unfold fdAt
  rw [gIAt hk]
  exact fdChk (knBOk (knAOk h (by omega))) (h.chk _ (List.getElem_mem _))
theorem fdOk {C : List I8} (h : CfOk C) : CfOk (fdL C) := by
  refine ⟨by rw [fdLLen]; exact h.len, fun i hi => ?_, fun i hi hj => ?_⟩
  · obtain ⟨k, hk, rfl⟩ := List.mem_iff_getElem.1 hi
    rw [fdLAt]
    rw [fdLLen] at hk
    exact fdAtChk h hk
  · obtain ⟨k, hk, rfl⟩ := List.mem_iff_getElem.1 hi
    rw [fdLAt] at hj ⊢
    rw [fdLLen] at hk ⊢
    unfold fdAt at hj ⊢
    rw [gIAt hk] at hj ⊢
    exact fdTgt (h.tgt _ (List.getElem_mem _)) ⟨by omega, by omega⟩ hj
end Go.Proofs.YtpkagpobobmnfaaGreatDoor

namespace Go.Proofs.YtpkagpobobmnfaaGreatDoor

/-- The target of the jump at t. -/
def nxJ (C : List I8) (t : Nat) : Option Nat := match C[t]? with
  | some i => if i.op = 4 then some i.n.toNat else none
  | none => none
/-- Where a chain that begins at t is behind j jumps. -/
def ptJ (C : List I8) (t : Nat) : Nat → Option Nat
  | 0 => some t
  | j + 1 => match ptJ C t j with
    | some u => nxJ C u
    | none => none
theorem ptS {C : List I8} {t j u : Nat} (h : ptJ C t j = some u) : ptJ C t (j + 1) = nxJ C u := by rw [ptJ, h]
/-- The chain ends at x. -/
def Ends (C : List I8) (t x : Nat) : Prop := ∃ j, ptJ C t j = some x ∧ nxJ C x = none
theorem ptLess {C : List I8} {t : Nat} : ∀ {j k : Nat}, k ≤ j → (∃ x, ptJ C t j = some x) → ∃ x, ptJ C t k = some x
  | 0, k, hk, h => by
    have : k = 0 := by omega
    subst this; exact h
  | j + 1, k, hk, h => by
    by_cases e : k = j + 1
    · subst e; exact h
    · refine ptLess (j := j) (by omega) ?_
      obtain ⟨x, hx⟩ := h
      rw [ptJ] at hx
      split at hx
      · exact ⟨_, by assumption⟩
      · cases hx
theorem ptEnd {C : List I8} {t j x : Nat} (h : ptJ C t j = some x) (hx : nxJ C x = none) {k y : Nat} (hk : ptJ C t k = some y) : k ≤ j := by
  refine Nat.le_of_not_lt fun hlt => ?_
  obtain ⟨z, hz⟩ := ptLess (show j + 1 ≤ k by omega) ⟨y, hk⟩
  rw [ptS h, hx] at hz
  cases hz
theorem endsOne {C : List I8} {t x y : Nat} (h : Ends C t x) (h' : Ends C t y) : x = y := by
  obtain ⟨j, h1, h2⟩ := h
  obtain ⟨k, k1, k2⟩ := h'
  have e : j = k := Nat.le_antisymm (ptEnd k1 k2 h1) (ptEnd h1 h2 k1)
  subst e
  rw [h1] at k1
  injection k1
/-- Two places of the same number have the same chains behind them. -/
theorem ptSame {C : List I8} {t i j u : Nat} (h1 : ptJ C t i = some u) (h2 : ptJ C t j = some u) : ∀ m, ptJ C t (i + m) = ptJ C t (j + m)
  | 0 => by rw [Nat.add_zero, Nat.add_zero, h1, h2]
  | m + 1 => by
    have := ptSame h1 h2 m
    rw [← Nat.add_assoc, ← Nat.add_assoc, ptJ, ptJ, this]
theorem ptInj {C : List I8} {t j x : Nat} (h : ptJ C t j = some x) (hx : nxJ C x = none) {a b u : Nat} (ha : a ≤ j) (hb : b ≤ j) (h1 : ptJ C t a = some u) (h2 : ptJ C t b = some u) : a = b := by
  have key : ∀ {a b : Nat}, a < b → b ≤ j → ptJ C t a = some u → ptJ C t b = some u → False := by
    intro a b hlt hb h1 h2
    have e := ptSame h1 h2 (j - b)
    rw [show b + (j - b) = j by omega, h] at e
    have h3 := ptEnd (h := show ptJ C t (a + (j - b)) = some x from e) hx h
    omega
  rcases Nat.lt_trichotomy a b with h3 | h3 | h3
  · exact absurd (key h3 hb h1 h2) id
  · exact h3
  · exact absurd (key h3 ha h2 h1) id
theorem nxLt {C : List I8} {t u : Nat} (h : nxJ C t = some u) : ∃ hl : t < C.length, C[t].op = 4 ∧ C[t].n.toNat = u := by
  unfold nxJ at h
  split at h
  · rename_i i hi
    obtain ⟨hl, rfl⟩ := List.getElem?_eq_some_iff.1 hi
    split at h
    · injection h with h
      exact ⟨hl, by assumption, h⟩
    · cases h
  · cases h
theorem nxAtF {C : List I8} {t : Nat} (hl : t < C.length) : nxJ C t = if C[t].op = 4 then some C[t].n.toNat else none := by
  unfold nxJ
  rw [List.getElem?_eq_getElem hl]
theorem nxOut {C : List I8} {t : Nat} (hl : C.length ≤ t) : nxJ C t = none := by
  unfold nxJ
  rw [List.getElem?_eq_none hl]
/-- The places of a chain of j jumps that ends. -/
theorem ptList {C : List I8} {t j x : Nat} (h : ptJ C t j = some x) (hx : nxJ C x = none) : ∃ l : List Nat, l.Nodup ∧ l.length = j ∧ (∀ y ∈ l, y < C.length) ∧ ∀ y ∈ l, ∃ k, k < j ∧ ptJ C t k = some y := by
  have hex : ∀ k, k < j → ∃ y, ptJ C t k = some y := fun k hk => ptLess (Nat.le_of_lt hk) ⟨x, h⟩
  let f : Nat → Nat := fun k => (ptJ C t k).getD 0
  have hf : ∀ k, k < j → ptJ C t k = some (f k) := fun k hk => by
    obtain ⟨y, hy⟩ := hex k hk
    show _ = some ((ptJ C t k).getD 0)
    rw [hy]; rfl
  refine ⟨(List.range j).map f, ?_, by simp, fun y hy => ?_, fun y hy => ?_⟩
  · rw [List.nodup_iff_pairwise_ne, List.pairwise_map]
    refine List.Pairwise.imp_of_mem (fun {a b} ha hb hab e => ?_) (List.nodup_iff_pairwise_ne.1 (List.nodup_range (n := j)))
    rw [List.mem_range] at ha hb
    exact hab (ptInj h hx (Nat.le_of_lt ha) (Nat.le_of_lt hb) (hf a ha) (by rw [hf b hb, ← e]))
  · obtain ⟨k, hk, rfl⟩ := List.mem_map.1 hy
    rw [List.mem_range] at hk
    obtain ⟨z, hz⟩ := ptLess (show k + 1 ≤ j by omega) ⟨x, h⟩
    rw [ptS (hf k hk)] at hz
    exact (nxLt hz).1
  · obtain ⟨k, hk, rfl⟩ := List.mem_map.1 hy
    rw [List.mem_range] at hk
    exact ⟨k, hk, hf k hk⟩
/-- A chain that ends has at most as many jumps as the code has instructions. -/
theorem ptBound {C : List I8} {t j x : Nat} (h : ptJ C t j = some x) (hx : nxJ C x = none) : j ≤ C.length := by
  obtain ⟨l, h1, h2, h3, _⟩ := ptList h hx
  rw [← h2]
  exact nodupLe9 h1 h3
/-- A chain that begins at the target of a jump or branch has fewer. -/
theorem ptLessN {C : List I8} {t j x k : Nat} (h : ptJ C t j = some x) (hx : nxJ C x = none) (hk : k < C.length) (hj : C[k].jmp = true) (ht : C[k].n.toNat = t) : j < C.length := by
  obtain ⟨l, h1, h2, h3, h4⟩ := ptList h hx
  refine Nat.lt_of_le_of_ne (ptBound h hx) fun e => ?_
  by_cases hm : k ∈ l
  · obtain ⟨m, hm, hp⟩ := h4 k hm
    obtain ⟨z, hz⟩ := ptLess (show m + 1 ≤ j by omega) ⟨x, h⟩
    have hz2 := hz
    rw [ptS hp] at hz2
    obtain ⟨_, h5, h6⟩ := nxLt hz2
    rw [ht] at h6
    subst h6
    have := ptInj h hx (show m + 1 ≤ j by omega) (Nat.zero_le _) hz (show ptJ C t 0 = some t from rfl)
    omega
  · have := nodupLe9 (n := C.length) (l := k :: l) (List.nodup_cons.2 ⟨hm, h1⟩) (fun y hy => by
      rcases List.mem_cons.1 hy with rfl | hy
      · exact hk
      · exact h3 y hy)
    rw [List.length_cons] at this
    omega
/-- The final target of t. -/
noncomputable def fin (C : List I8) (t : Nat) : Nat := @dite _ (∃ x, Ends C t x) (Classical.propDecidable _) (fun h => Classical.choose h) (fun _ => t)
theorem finYes {C : List I8} {t x : Nat} (h : Ends C t x) : fin C t = x := by
  have hx : ∃ x, Ends C t x := ⟨x, h⟩
  unfold fin
  rw [dif_pos hx]
  exact endsOne (Classical.choose_spec hx) h
theorem finNo {C : List I8} {t : Nat} (h : ¬ ∃ x, Ends C t x) : fin C t = t := by unfold fin; rw [dif_neg h]
/-- A chain of as many jumps as there are instructions does not end. -/
theorem finLong {C : List I8} {t j u v : Nat} (h : ptJ C t j = some u) (hj : C.length ≤ j) (hu : nxJ C u = some v) : fin C t = t := by
  refine finNo fun ⟨x, k, h1, h2⟩ => ?_
  have h3 : ptJ C t (j + 1) = some v := by rw [ptS h, hu]
  have := ptEnd h1 h2 h3
  have := ptBound h1 h2
  omega
theorem finLongN {C : List I8} {t u k : Nat} (h : ptJ C t C.length = some u) (hk : k < C.length) (hj : C[k].jmp = true) (ht : C[k].n.toNat = t) : fin C t = t := by
  refine finNo fun ⟨x, m, h1, h2⟩ => ?_
  have := ptEnd h1 h2 h
  have := ptLessN h1 h2 hk hj ht
  omega
theorem finLe {C : List I8} (hok : CfOk C) {t : Nat} (ht : t ≤ C.length) : fin C t ≤ C.length := by
  by_cases h : ∃ x, Ends C t x
  · obtain ⟨x, j, h1, h2⟩ := h
    rw [finYes ⟨j, h1, h2⟩]
    cases j with
    | zero => injection h1 with h1; omega
    | succ j =>
      obtain ⟨z, hz⟩ := ptLess (show j ≤ j + 1 by omega) ⟨x, h1⟩
      rw [ptS hz] at h1
      obtain ⟨hl, h5, h6⟩ := nxLt h1
      have := hok.tgt C[z] (List.getElem_mem hl) (by unfold I8.jmp; rw [h5]; rfl)
      omega
  · rw [finNo h]; exact ht
/-- A code threaded. -/
noncomputable def thI (C : List I8) (i : I8) : I8 := if i.jmp = true then setNf i (fin C i.n.toNat : Nat) else i
noncomputable def thL (C : List I8) : List I8 := C.map (thI C)
theorem thLen {C : List I8} : (thL C).length = C.length := by simp [thL]
theorem thOp {C : List I8} {i : I8} : (thI C i).op = i.op := by unfold thI; split <;> rfl
theorem thJmp {C : List I8} {i : I8} : (thI C i).jmp = i.jmp := by unfold I8.jmp; rw [thOp]
theorem thN {C : List I8} {i : I8} (h : i.jmp = true) : (thI C i).n = (fin C i.n.toNat : Nat) := by unfold thI; rw [if_pos h]; rfl
theorem jmp4 {i : I8} (h : i.op = 4) : i.jmp = true := by unfold I8.jmp; rw [h]; rfl
theorem thOk {C : List I8} (h : CfOk C) : CfOk (thL C) := by
  refine ⟨by rw [thLen]; exact h.len, fun i hi => ?_, fun i hi hj => ?_⟩
  · obtain ⟨j, hm, rfl⟩ := List.mem_map.1 hi
    unfold thI
    split
    · exact setNfChk (h.chk j hm) (by assumption) _
    · exact h.chk j hm
  · obtain ⟨j, hm, rfl⟩ := List.mem_map.1 hi
    rw [thJmp] at hj
    have h1 := h.tgt j hm hj
    rw [thN hj, thLen]
    have := finLe h (t := j.n.toNat) (by omega)
    omega
theorem thNx {C : List I8} {u : Nat} : nxJ (thL C) u = (nxJ C u).map (fin C) := by
  by_cases hl : u < C.length
  · rw [nxAtF hl, nxAtF (C := thL C) (by rw [thLen]; exact hl)]
    have e : (thL C)[u]'(by rw [thLen]; exact hl) = thI C C[u] := by simp only [thL, List.getElem_map]
    rw [e, thOp]
    split
    · rename_i h4
      rw [thN (jmp4 h4)]
      simp
    · rfl
  · rw [nxOut (C := C) (by omega), nxOut (C := thL C) (by rw [thLen]; omega)]; rfl
theorem thFin {C : List I8} {t : Nat} : fin (thL C) (fin C t) = fin C t := by
  by_cases h : ∃ x, Ends C t x
  · obtain ⟨x, hx⟩ := h
    rw [finYes hx]
    obtain ⟨j, h1, h2⟩ := hx
    exact finYes ⟨0, rfl, by rw [thNx, h2]; rfl⟩
  · rw [finNo h]
    -- a chain that does not end stays as it is
    have hstep : ∀ u v, (¬ ∃ x, Ends C u x) → nxJ C u = some v → ¬ ∃ x, Ends C v x := by
      rintro u v hu hv ⟨x, j, h1, h2⟩
      refine hu ⟨x, j + 1, ?_, h2⟩
      have : ∀ m, ptJ C u (m + 1) = ptJ C v m := by
        intro m
        induction m with
        | zero => rw [ptS (show ptJ C u 0 = some u from rfl), hv]; rfl
        | succ m ih => rw [ptJ, ih, ptJ]
      rw [this, h1]
    have hall : ∀ j, ∃ u, ptJ (thL C) t j = some u ∧ ¬ ∃ x, Ends C u x := by
      intro j
      induction j with
      | zero => exact ⟨t, rfl, h⟩
      | succ j ih =>
        obtain ⟨u, h1, h2⟩ := ih
        rw [ptS h1, thNx]
        cases e : nxJ C u with
        | none => exact absurd ⟨u, 0, rfl, e⟩ h2
        | some v =>
          have h3 := hstep u v h2 e
          exact ⟨v, by rw [Option.map_some, finNo h3], h3⟩
    refine finNo fun ⟨x, j, h1, h2⟩ => ?_
    obtain ⟨u, h3, h4⟩ := hall (j + 1)
    rw [ptS h1, h2] at h3
    cases h3
theorem thTwice {C : List I8} : thL (thL C) = thL C := by
  unfold thL
  rw [List.map_map]
  refine List.map_congr_left fun i _ => ?_
  show thI (thL C) (thI C i) = thI C i
  by_cases hj : i.jmp = true
  · have hj2 : (thI C i).jmp = true := by rw [thJmp]; exact hj
    have e : (thI C i).n = (fin C i.n.toNat : Nat) := thN hj
    generalize hX : thI C i = X at *
    unfold thI
    rw [if_pos hj2, e, Int.toNat_natCast, thFin, ← e]
    exact setNfSelf
  · have hj2 : ¬ (thI C i).jmp = true := by rw [thJmp]; exact hj
    generalize hX : thI C i = X at *
    unfold thI
    rw [if_neg hj2]
end Go.Proofs.YtpkagpobobmnfaaGreatDoor

namespace Go.Proofs.YtpkagpobobmnfaaGreatDoor

/-- Is instruction x reached? -/
noncomputable def onB (C : List I8) (x : Nat) : Bool := rcB C.length (sc C) (-1) x
/-- The reached instructions below k. -/
noncomputable def rmK (C : List I8) (k : Nat) : List Nat := (List.range k).filter (onB C)
theorem rmKS {C : List I8} {k : Nat} : rmK C (k + 1) = rmK C k ++ if onB C k = true then [k] else [] := by
  unfold rmK
  rw [List.range_succ, List.filter_append]
  congr 1
  by_cases h : onB C k = true
  · rw [if_pos h, List.filter_cons, if_pos h]; rfl
  · rw [if_neg h, List.filter_cons, if_neg h]; rfl
/-- How many there are below k. -/
noncomputable def rmN (C : List I8) (k : Nat) : Nat := (rmK C k).length
theorem rmNS {C : List I8} {k : Nat} : rmN C (k + 1) = rmN C k + if onB C k = true then 1 else 0 := by
  unfold rmN
  rw [rmKS, List.length_append]
  split <;> rfl
theorem rmNLe {C : List I8} : ∀ {k}, rmN C k ≤ k
  | 0 => by simp [rmN, rmK]
  | k + 1 => by
    have := rmNLe (C := C) (k := k)
    rw [rmNS]
    split <;> omega
theorem rmNMono {C : List I8} {k m : Nat} (h : k ≤ m) : rmN C k ≤ rmN C m := by
  induction m with
  | zero => have : k = 0 := by omega
            subst this; exact Nat.le_refl _
  | succ m ih =>
    by_cases e : k = m + 1
    · subst e; exact Nat.le_refl _
    · rw [rmNS]; have := ih (by omega); omega
theorem rmMem {C : List I8} {k x : Nat} : x ∈ rmK C k ↔ x < k ∧ onB C x = true := by unfold rmK; rw [List.mem_filter, List.mem_range]
theorem onLt {C : List I8} {x : Nat} (h : onB C x = true) : x < C.length := (avdIff.1 (rcIff.1 h).right).1
theorem rmSplit {C : List I8} {k m : Nat} (h : k ≤ m) : ∃ l, rmK C m = rmK C k ++ l ∧ ∀ y ∈ l, k ≤ y := by
  induction m with
  | zero => have : k = 0 := by omega
            subst this; exact ⟨[], by simp, by simp⟩
  | succ m ih =>
    by_cases e : k = m + 1
    · subst e; exact ⟨[], by simp, by simp⟩
    · obtain ⟨l, h1, h2⟩ := ih (by omega)
      refine ⟨l ++ if onB C m = true then [m] else [], by rw [rmKS, h1, List.append_assoc], fun y hy => ?_⟩
      rcases List.mem_append.1 hy with hy | hy
      · exact h2 y hy
      · split at hy
        · rw [List.mem_singleton] at hy; omega
        · cases hy
/-- A reached instruction's place among them. -/
theorem rmAt {C : List I8} {x m : Nat} (h : onB C x = true) (hm : x < m) : ∃ hl : rmN C x < (rmK C m).length, (rmK C m)[rmN C x] = x := by
  obtain ⟨l, h1, _⟩ := rmSplit (C := C) (show x + 1 ≤ m by omega)
  rw [rmKS, if_pos h, List.append_assoc] at h1
  have h2 : (rmK C m)[rmN C x]? = some x := by
    rw [h1]
    unfold rmN
    rw [List.getElem?_append_right (Nat.le_refl _), Nat.sub_self]
    rfl
  obtain ⟨hl, h3⟩ := List.getElem?_eq_some_iff.1 h2
  exact ⟨hl, h3⟩
theorem rmGet {C : List I8} {m j : Nat} (hj : j < (rmK C m).length) : onB C (rmK C m)[j] = true ∧ rmN C (rmK C m)[j] = j ∧ (rmK C m)[j] < m := by
  have hmem := rmMem.1 (List.getElem_mem hj)
  refine ⟨hmem.2, ?_, hmem.1⟩
  obtain ⟨hl, h2⟩ := rmAt hmem.2 hmem.1
  have hnd : (rmK C m).Nodup := List.nodup_range.filter _
  exact (List.getElem_inj hnd).1 h2
/-- A code pruned. -/
noncomputable def prI (C : List I8) (i : I8) : I8 := if i.jmp = true then setNf i (rmN C i.n.toNat : Nat) else i
noncomputable def prK (C : List I8) (k : Nat) : List I8 := (rmK C k).map fun x => prI C (gI C x)
theorem prKS {C : List I8} {k : Nat} : prK C (k + 1) = prK C k ++ if onB C k = true then [prI C (gI C k)] else [] := by
  unfold prK
  rw [rmKS, List.map_append]
  split <;> rfl
noncomputable def prL (C : List I8) : List I8 := prK C C.length
theorem prLen {C : List I8} : (prL C).length = rmN C C.length := by unfold prL prK rmN; rw [List.length_map]
theorem prAt {C : List I8} {j : Nat} (hj : j < (prL C).length) : ∃ x, ∃ hx : x < C.length, onB C x = true ∧ rmN C x = j ∧ (prL C)[j] = prI C C[x] := by
  have hj2 : j < (rmK C C.length).length := by rw [prLen] at hj; exact hj
  obtain ⟨h1, h2, h3⟩ := rmGet hj2
  refine ⟨_, h3, h1, h2, ?_⟩
  simp only [prL, prK, List.getElem_map]
  rw [gIAt h3]
theorem prOp {C : List I8} {i : I8} : (prI C i).op = i.op := by unfold prI; split <;> rfl
theorem prJmp {C : List I8} {i : I8} : (prI C i).jmp = i.jmp := by unfold I8.jmp; rw [prOp]
theorem prN {C : List I8} {i : I8} (h : i.jmp = true) : (prI C i).n = (rmN C i.n.toNat : Nat) := by unfold prI; rw [if_pos h]; rfl
theorem prOk {C : List I8} (h : CfOk C) : CfOk (prL C) := by
  refine ⟨by rw [prLen]; have := rmNLe (C := C) (k := C.length); have := h.len; omega, fun i hi => ?_, fun i hi hj => ?_⟩
  · obtain ⟨j, hj, rfl⟩ := List.mem_iff_getElem.1 hi
    obtain ⟨x, hx, _, _, e⟩ := prAt hj
    rw [e]
    unfold prI
    split
    · exact setNfChk (h.chk _ (List.getElem_mem _)) (by assumption) _
    · exact h.chk _ (List.getElem_mem _)
  · obtain ⟨j, hj', rfl⟩ := List.mem_iff_getElem.1 hi
    obtain ⟨x, hx, _, _, e⟩ := prAt hj'
    rw [e] at hj ⊢
    rw [prJmp] at hj
    have h1 := h.tgt _ (List.getElem_mem hx) hj
    rw [prN hj, prLen]
    have := rmNMono (C := C) (show C[x].n.toNat ≤ C.length by omega)
    omega
theorem rmFull {C : List I8} (h : ∀ j, j < C.length → onB C j = true) : ∀ {k}, k ≤ C.length → rmK C k = List.range k
  | 0, _ => rfl
  | k + 1, hk => by rw [rmKS, rmFull h (by omega), if_pos (h k (by omega)), List.range_succ]
theorem prFull {C : List I8} (hok : CfOk C) (h : ∀ j, j < C.length → onB C j = true) : prL C = C := by
  have hN : ∀ k, k ≤ C.length → rmN C k = k := fun k hk => by unfold rmN; rw [rmFull h hk, List.length_range]
  refine List.ext_getElem (by rw [prLen, hN _ (Nat.le_refl _)]) fun j h1 h2 => ?_
  obtain ⟨x, hx, _, e, e2⟩ := prAt h1
  rw [hN x (by omega)] at e
  subst e
  rw [e2]
  unfold prI
  split
  · rename_i hj
    have := hok.tgt _ (List.getElem_mem hx) hj
    rw [hN _ (by omega)]
    have e3 : ((C[x].n.toNat : Nat) : Int) = C[x].n := by omega
    rw [e3]
    exact setNfSelf
  · rfl
/-- Where pruning takes nothing away it turns nothing. -/
theorem prKeep {C : List I8} (hok : CfOk C) (h : (prL C).length = C.length) : prL C = C := by
  refine prFull hok fun j hj => ?_
  cases e : onB C j
  · have h1 : rmN C C.length < C.length := by
      have h2 := rmNMono (C := C) (show j + 1 ≤ C.length by omega)
      have h3 : rmN C (j + 1) = rmN C j := by rw [rmNS, e]; rfl
      have h4 := rmNLe (C := C) (k := j)
      have h5 : ∀ d, rmN C (j + 1 + d) ≤ rmN C (j + 1) + d := by
        intro d
        induction d with
        | zero => exact Nat.le_refl _
        | succ d ih => rw [← Nat.add_assoc, rmNS]; split <;> omega
      have := h5 (C.length - (j + 1))
      rw [show j + 1 + (C.length - (j + 1)) = C.length by omega] at this
      omega
    rw [prLen] at h
    omega
  · rfl
end Go.Proofs.YtpkagpobobmnfaaGreatDoor
