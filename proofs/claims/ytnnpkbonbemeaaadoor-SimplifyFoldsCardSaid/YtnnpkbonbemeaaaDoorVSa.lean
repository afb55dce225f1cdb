/-
  Folding, threading and pruning of a code, pure: the three, that their results have no error, that threading and pruning twice is the same as once.
-/
import Derived.Test.YtnnpkbonbemeaaaDoorVCd
import Derived.Test.YtnnpkbonbemeaaaDoorVCb
import Derived.Test.YtnnpkbonbemeaaaDoorVNum
namespace Go.Proofs.YtnnpkbonbemeaaaDoor
open Go.RowKit (wrap32 wrap64)

/-! Instructions. -/
def cst (a v : Int) : I8 := ⟨1, a, 0, 0, 0, v, 0, 0⟩
def jmpTo (n : Int) : I8 := ⟨4, 0, 0, 0, 0, n, 0, 0⟩
def setNf (i : I8) (n : Int) : I8 := { i with n := n }
theorem cstChk {a v : Int} (ha : 0 ≤ a ∧ a < 8) (hv : wrap32 v = v) : (cst a v).chk = 0 := by
  have h2 : nOk v = true := by unfold nOk; exact decide_eq_true hv
  unfold I8.chk I8.fs I8.rs I8.fOk I8.u I8.con cst
  simp [opOk, h2, rgOk, orOk, us, usTab, ha]
theorem jmpChk (n : Int) : (jmpTo n).chk = 0 := by
  unfold I8.chk I8.fs I8.rs I8.fOk I8.u I8.con jmpTo
  simp [opOk, rgOk, orOk, us, usTab]
theorem cfMkF {len : Nat} : ∀ {l : List I8}, (∀ i ∈ l, i.chk = 0 ∧ (i.jmp = true → belB i.n (len + 1) = true)) → cfF len l = 0
  | [], _ => rfl
  | i :: t, h => by
    have h1 := h i (by simp)
    rw [cfF, if_neg (by rw [h1.1]; simp), if_neg ?_]
    · exact cfMkF fun j hj => h j (List.mem_cons_of_mem _ hj)
    · cases e : i.jmp
      · simp
      · rw [h1.2 e]; simp
theorem cfMk {C : List I8} (h : CfOk C) : cfE C = 0 := by
  have h1 := h.len
  unfold cfE
  rw [if_neg (by omega)]
  refine cfMkF fun i hi => ⟨h.chk i hi, fun hj => ?_⟩
  have := h.tgt i hi hj
  unfold belB
  rw [decide_eq_true this.1, decide_eq_true (by omega)]
  rfl

/-! Fold. -/
abbrev Kn := Int → Option Int
def knNo : Kn := fun _ => none
def knUp (K : Kn) (r : Int) (v : Option Int) : Kn := fun x => if x = r then v else K x
/-- The instruction in place of i. -/
def fdI (K : Kn) (nx : Int) (i : I8) : I8 :=
  if i.op = 2 then match K i.b with
    | some v => cst i.a v
    | none => i
  else if i.op = 3 then match K i.b, K i.c with
    | some x, some y => cst i.a (opI i.fn x y)
    | _, _ => i
  else if i.op = 5 then match K i.b with
    | some v => if v = 0 then jmpTo nx else jmpTo i.n
    | none => i
  else if i.op = 6 then match K i.b with
    | some v => if v = 0 then i else jmpTo nx
    | none => i
  else i
/-- What is known behind it. -/
def knI (K : Kn) (i : I8) : Kn := if i.u 0 = true then knUp K i.a (if i.op = 1 then some i.n else none) else K
/-- Is instruction k a leader? -/
def ldQ (C : List I8) (k : Nat) : Bool := decide ((k : Int) ∈ ldR C)
def knB (C : List I8) (k : Nat) (K : Kn) : Kn := if ldQ C k = true then knNo else K
def gI (C : List I8) (k : Nat) : I8 := C.getD k I8.zero
theorem gIAt {C : List I8} {k : Nat} (h : k < C.length) : gI C k = C[k] := by unfold gI; rw [List.getD_eq_getElem?_getD, List.getElem?_eq_getElem h]; rfl
/-- What is known before instruction k. -/
def knA (C : List I8) : Nat → Kn
  | 0 => knNo
  | k + 1 => knI (knB C k (knA C k)) (fdI (knB C k (knA C k)) ((k + 1 : Nat) : Int) (gI C k))
def fdAt (C : List I8) (k : Nat) : I8 := fdI (knB C k (knA C k)) ((k + 1 : Nat) : Int) (gI C k)
theorem knAS {C : List I8} {k : Nat} : knA C (k + 1) = knI (knB C k (knA C k)) (fdAt C k) := rfl
def fdK (C : List I8) (k : Nat) : List I8 := (List.range k).map (fdAt C)
theorem fdKS {C : List I8} {k : Nat} : fdK C (k + 1) = fdK C k ++ [fdAt C k] := by unfold fdK; rw [List.range_succ, List.map_append]; rfl
theorem fdKLen {C : List I8} {k : Nat} : (fdK C k).length = k := by simp [fdK]
def fdL (C : List I8) : List I8 := fdK C C.length
theorem fdLLen {C : List I8} : (fdL C).length = C.length := fdKLen
/-- All that is known is a value, of a register. -/
structure KnOk (K : Kn) : Prop where
  v : ∀ r v, K r = some v → wrap32 v = v
  r : ∀ r v, K r = some v → 0 ≤ r ∧ r < 8
theorem knOkNo : KnOk knNo := ⟨fun _ _ h => (by cases h), fun _ _ h => (by cases h)⟩
theorem w32opI (f a b : Int) : wrap32 (opI f a b) = opI f a b := by
  have hb : ∀ o x y, wrap32 (bits o .i32 x y) = bits o .i32 x y := bitsWrap
  unfold opI
  repeat (split; (first | exact wrap32Twice _ | exact hb _ _ _ | (split <;> (simp only [wrap32]; omega))))
  simp only [wrap32]; omega
theorem fdChk {K : Kn} (hK : KnOk K) {nx : Int} {i : I8} (h : i.chk = 0) : (fdI K nx i).chk = 0 := by
  have hg := I8.good h
  unfold fdI
  split
  · split
    · exact cstChk hg.a (hK.v _ _ (by assumption))
    · exact h
  split
  · split
    · exact cstChk hg.a (w32opI _ _ _)
    · exact h
  split
  · split
    · split <;> exact jmpChk _
    · exact h
  split
  · split
    · split
      · exact h
      · exact jmpChk _
    · exact h
  · exact h
theorem knIOk {K : Kn} (hK : KnOk K) {i : I8} (h : i.chk = 0) : KnOk (knI K i) := by
  have hg := I8.good h
  unfold knI
  split
  · refine ⟨fun r v hr => ?_, fun r v hr => ?_⟩
    · unfold knUp at hr
      split at hr
      · split at hr
        · rename_i h1
          have := hg.n
          rw [h1] at this
          injection hr with hr
          subst hr
          have h2 : nOk i.n = true := by simpa using this
          exact of_decide_eq_true h2
        · cases hr
      · exact hK.v r v hr
    · unfold knUp at hr
      split at hr
      · rename_i e; subst e; exact hg.a
      · exact hK.r r v hr
  · exact hK
theorem knBOk {C : List I8} {k : Nat} {K : Kn} (hK : KnOk K) : KnOk (knB C k K) := by
  unfold knB
  split
  · exact knOkNo
  · exact hK
theorem knAOk {C : List I8} (h : CfOk C) : ∀ {k}, k ≤ C.length → KnOk (knA C k)
  | 0, _ => knOkNo
  | k + 1, hk => by
    have h1 := knBOk (C := C) (k := k) (knAOk h (k := k) (by omega))
    rw [knAS]
    refine knIOk h1 (fdChk h1 ?_)
    rw [gIAt (by omega)]
    exact h.chk _ (List.getElem_mem _)
theorem fdAtChk {C : List I8} (h : CfOk C) {k : Nat} (hk : k < C.length) : (fdAt C k).chk = 0 := by
  unfold fdAt
  rw [gIAt hk]
  exact fdChk (knBOk (knAOk h (by omega))) (h.chk _ (List.getElem_mem _))
end Go.Proofs.YtnnpkbonbemeaaaDoor

namespace Go.Proofs.YtnnpkbonbemeaaaDoor

/-- Is instruction x reached? -/
noncomputable def onB (C : List I8) (x : Nat) : Bool := rcB C.length (sc C) (-1) x
/-- The reached instructions below k. -/
noncomputable def rmK (C : List I8) (k : Nat) : List Nat := (List.range k).filter (onB C)
theorem rmKS {C : List I8} {k : Nat} : rmK C (k + 1) = rmK C k ++ if onB C k = true then [k] else [] := by
  unfold rmK
  rw [List.range_succ, List.filter_append]
  congr 1
  by_cases h : onB C k = true
  · rw [if_pos h, List.filter_cons, if_pos h]; rfl
  · rw [if_neg h, List.filter_cons, if_neg h]; rfl
/-- How many there are below k. -/
noncomputable def rmN (C : List I8) (k : Nat) : Nat := (rmK C k).length
theorem rmNS {C : List I8} {k : Nat} : rmN C (k + 1) = rmN C k + if onB C k = true then 1 else 0 := by
  unfold rmN
  rw [rmKS, List.length_append]
  split <;> rfl
theorem rmNLe {C : List I8} : ∀ {k}, rmN C k ≤ k
  | 0 => by simp [rmN, rmK]
  | k + 1 => by
    have := rmNLe (C := C) (k := k)
    rw [rmNS]
    split <;> omega
theorem rmMem {C : List I8} {k x : Nat} : x ∈ rmK C k ↔ x < k ∧ onB C x = true := by unfold rmK; rw [List.mem_filter, List.mem_range]
theorem onLt {C : List I8} {x : Nat} (h : onB C x = true) : x < C.length := (avdIff.1 (rcIff.1 h).right).1
/-- A code pruned. -/
noncomputable def prI (C : List I8) (i : I8) : I8 := if i.jmp = true then setNf i (rmN C i.n.toNat : Nat) else i
noncomputable def prK (C : List I8) (k : Nat) : List I8 := (rmK C k).map fun x => prI C (gI C x)
noncomputable def prL (C : List I8) : List I8 := prK C C.length
theorem prLen {C : List I8} : (prL C).length = rmN C C.length := by unfold prL prK rmN; rw [List.length_map]
end Go.Proofs.YtnnpkbonbemeaaaDoor
