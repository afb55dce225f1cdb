/-
  The three steps again and again, pure: they come to an end.
-/
import Derived.Test.YtpkagpobobmnfaaGreatDoorPSa
import Derived.Test.YtpkagpobobmnfaaGreatDoorPAw
namespace Go.Proofs.YtpkagpobobmnfaaGreatDoor

/-- A round: fold, thread, prune. -/
noncomputable def st (C : List I8) : List I8 := prL (thL (fdL C))
theorem stOk {C : List I8} (h : CfOk C) : CfOk (st C) := prOk (thOk (fdOk h))
/-- Can folding turn it? -/
def fb (i : I8) : Bool := decide (i.op = 2 ∨ i.op = 3 ∨ i.op = 5 ∨ i.op = 6)
theorem fbIff {i : I8} : fb i = true ↔ (i.op = 2 ∨ i.op = 3 ∨ i.op = 5 ∨ i.op = 6) := by unfold fb; exact decide_eq_true_iff
theorem codeMap (C : List I8) : (List.range C.length).map (gI C) = C := by
  refine List.ext_getElem (by simp) fun j h1 h2 => ?_
  rw [List.getElem_map, List.getElem_range, gIAt h2]
theorem fbMap {f : Nat → I8} {n : Nat} : ((List.range n).map f).countP fb = ((List.range n).filter fun k => fb (f k)).length := by
  rw [List.countP_map, List.countP_eq_length_filter]; rfl
theorem fdLess {C : List I8} : fdL C = C ∨ (fdL C).countP fb < C.countP fb := by
  by_cases h : ∀ k, k < C.length → fdAt C k = gI C k
  · left
    have : fdL C = (List.range C.length).map (gI C) := by
      unfold fdL fdK
      exact List.map_congr_left fun k hk => h k (List.mem_range.1 hk)
    rw [this, codeMap]
  · right
    obtain ⟨k, hk⟩ := Classical.not_forall.1 h
    obtain ⟨hk, hne⟩ := Classical.not_imp.1 hk
    have e : C.countP fb = ((List.range C.length).filter fun k => fb (gI C k)).length := by
      rw [← fbMap, codeMap]
    rw [e]
    show ((List.range C.length).map (fdAt C)).countP fb < _
    rw [fbMap]
    have hop : ∀ k, fdAt C k = gI C k ∨ fb (gI C k) = true ∧ fb (fdAt C k) = false := fun k => by
      rcases fdOp (K := knB C k (knA C k)) (nx := ((k + 1 : Nat) : Int)) (i := gI C k) with h | ⟨h1, h2⟩ | ⟨h1, h2⟩
      · exact .inl h
      · refine .inr ⟨fbIff.2 (by omega), ?_⟩
        unfold fb fdAt
        rw [h1]; rfl
      · refine .inr ⟨fbIff.2 (by omega), ?_⟩
        unfold fb fdAt
        rw [h1]; rfl
    refine cntLt (fun x _ hx => ?_) ⟨k, List.mem_range.2 hk, ?_, ?_⟩
    · rcases hop x with h | h
      · rw [← h]; exact hx
      · exact h.1
    · rcases hop k with h | h
      · exact absurd h hne
      · exact h.1
    · rcases hop k with h | h
      · exact absurd h hne
      · exact h.2
theorem thFb {C : List I8} : (thL C).countP fb = C.countP fb := by
  unfold thL
  rw [List.countP_map]
  refine List.countP_congr fun i _ => ?_
  show fb (thI C i) = true ↔ _
  rw [fbIff, fbIff, thOp]
theorem prFb {C : List I8} : (prL C).countP fb ≤ C.countP fb := by
  have h : ∀ k, (prK C k).countP fb ≤ ((List.range k).map (gI C)).countP fb := by
    intro k
    induction k with
    | zero => simp [prK, rmK]
    | succ k ih =>
      rw [prKS, List.range_succ, List.map_append, List.countP_append, List.countP_append]
      have : (if onB C k = true then [prI C (gI C k)] else []).countP fb ≤ (List.map (gI C) [k]).countP fb := by
        split
        · rw [List.map_singleton, List.countP_singleton, List.countP_singleton]
          have e : fb (prI C (gI C k)) = fb (gI C k) := by unfold fb; rw [prOp]
          rw [e]; exact Nat.le_refl _
        · exact Nat.zero_le _
      omega
  have := h C.length
  rw [codeMap] at this
  exact this
/-- What gets less from round to round. -/
noncomputable def mz (C : List I8) : Nat := 2 * (C.length + C.countP fb) + if thL C = C then 0 else 1
theorem stLen {C : List I8} : (st C).length ≤ C.length := by
  unfold st
  rw [prLen]
  have := rmNLe (C := thL (fdL C)) (k := (thL (fdL C)).length)
  rw [thLen, fdLLen] at this
  rw [thLen, fdLLen]
  exact this
theorem stLess {C : List I8} (hok : CfOk C) : st C = C ∨ mz (st C) < mz C := by
  have h1 : (st C).length ≤ C.length := stLen
  have h2 : (st C).countP fb ≤ (fdL C).countP fb := by
    unfold st
    have := prFb (C := thL (fdL C))
    rw [thFb] at this
    exact this
  rcases fdLess (C := C) with hA | hA
  · by_cases hl : (prL (thL C)).length = (thL C).length
    · have e : st C = thL C := by
        unfold st
        rw [hA]
        exact prKeep (thOk hok) hl
      by_cases hT : thL C = C
      · left; rw [e, hT]
      · right
        rw [e]
        unfold mz
        rw [thTwice, if_pos rfl, if_neg hT, thLen, thFb]
        omega
    · right
      have h3 : (st C).length < C.length := by
        have h4 : st C = prL (thL C) := by unfold st; rw [hA]
        have h5 := rmNLe (C := thL C) (k := (thL C).length)
        rw [← prLen, ← h4] at h5
        rw [← h4] at hl
        rw [thLen] at h5 hl
        omega
      rw [hA] at h2
      unfold mz
      split <;> split <;> omega
  · right
    unfold mz
    split <;> split <;> omega
noncomputable def stN (C : List I8) : Nat → List I8
  | 0 => C
  | k + 1 => st (stN C k)
theorem stNOk {C : List I8} (h : CfOk C) : ∀ {k}, CfOk (stN C k)
  | 0 => h
  | _ + 1 => stOk (stNOk h)
theorem stNLen {C : List I8} : ∀ {k}, (stN C k).length ≤ C.length
  | 0 => Nat.le_refl _
  | _ + 1 => Nat.le_trans stLen stNLen
/-- The code that the rounds don't change any more. -/
noncomputable def smp (C : List I8) : List I8 := stN C (mz C)
theorem stStay {C : List I8} {k : Nat} (h : st (stN C k) = stN C k) : ∀ d, stN C (k + d) = stN C k
  | 0 => rfl
  | d + 1 => by rw [← Nat.add_assoc, stN, stStay h d, h]
theorem smpFix {C : List I8} (hok : CfOk C) : st (smp C) = smp C := by
  have h : ∀ k, st (stN C k) = stN C k ∨ mz (stN C k) + k ≤ mz C := by
    intro k
    induction k with
    | zero => exact .inr (Nat.le_refl _)
    | succ k ih =>
      rcases ih with h | h
      · left; show st (st (stN C k)) = st (stN C k); rw [h, h]
      · rcases stLess (stNOk hok (k := k)) with h2 | h2
        · left; show st (st (stN C k)) = st (stN C k); rw [h2, h2]
        · right
          show mz (st (stN C k)) + (k + 1) ≤ mz C
          omega
  rcases h (mz C) with h1 | h1
  · exact h1
  · rcases stLess (stNOk hok (k := mz C)) with h2 | h2
    · exact h2
    · omega
theorem smpOf {C : List I8} (hok : CfOk C) {k : Nat} (h : st (stN C k) = stN C k) : stN C k = smp C := by
  rcases Nat.le_total k (mz C) with h1 | h1
  · have := stStay h (mz C - k)
    rw [show k + (mz C - k) = mz C by omega] at this
    exact this.symm
  · have := stStay (smpFix hok) (k - mz C)
    rw [show mz C + (k - mz C) = k by omega] at this
    exact this
theorem smpOk {C : List I8} (h : CfOk C) : CfOk (smp C) := stNOk h
theorem smpLen {C : List I8} : (smp C).length ≤ C.length := stNLen
theorem smpTwice {C : List I8} (h : CfOk C) : smp (smp C) = smp C := (smpOf (smpOk h) (k := 0) (smpFix h)).symm
end Go.Proofs.YtpkagpobobmnfaaGreatDoor

namespace Go.Proofs.YtpkagpobobmnfaaGreatDoor

/-- What an instruction's objects must meet. -/
structure Okp (p : Prg) (i : I8) : Prop where
  o : ∀ c, p.objN i.op = some c → belB i.obj c = true
  m : i.op = 18 → belB i.n p.muts.length = true
theorem insTail {p : Prg} {len : Nat} {i : I8} (h0 : i.chk = 0) (h1 : ∀ c, p.objN i.op = some c → belB i.obj c = true) :
    p.insE len i = if i.op = 18 ∧ belB i.n p.muts.length = false then 11 else if (i.op = 4 ∨ i.op = 5) ∧ belB i.n (len + 1) = false then 12 else 0 := by
  unfold Prg.insE
  rw [if_neg (by rw [h0]; simp)]
  cases e : p.objN i.op with
  | none => rw [if_neg (by simp)]
  | some c => rw [if_neg (by simp [h1 c e])]
theorem okpOf {p : Prg} {len : Nat} {i : I8} (h : p.insE len i = 0) : i.chk = 0 ∧ Okp p i ∧ (i.jmp = true → belB i.n (len + 1) = true) := by
  have h0 := insZ h
  rw [insTail h0.1 h0.2] at h
  by_cases h1 : i.op = 18 ∧ belB i.n p.muts.length = false
  · rw [if_pos h1] at h
    exact absurd h (by decide)
  rw [if_neg h1] at h
  by_cases h2 : (i.op = 4 ∨ i.op = 5) ∧ belB i.n (len + 1) = false
  · rw [if_pos h2] at h
    exact absurd h (by decide)
  refine ⟨h0.1, ⟨h0.2, fun e => ?_⟩, fun e => ?_⟩
  · cases g : belB i.n p.muts.length
    · exact absurd ⟨e, g⟩ h1
    · rfl
  · have hj : i.op = 4 ∨ i.op = 5 := by
      unfold I8.jmp at e
      rw [Bool.or_eq_true, decide_eq_true_iff, decide_eq_true_iff] at e
      exact e
    cases g : belB i.n (len + 1)
    · exact absurd ⟨hj, g⟩ h2
    · rfl
theorem okpMk {p : Prg} {len : Nat} {i : I8} (h : i.chk = 0) (ho : Okp p i) (hj : i.jmp = true → 0 ≤ i.n ∧ i.n ≤ len) : p.insE len i = 0 := by
  rw [insTail h ho.o, if_neg (fun g => by rw [ho.m g.1] at g; exact absurd g.2 (by decide)), if_neg]
  intro g
  have := hj (by unfold I8.jmp; rcases g.1 with e | e <;> rw [e] <;> rfl)
  have h2 := g.2
  unfold belB at h2
  rw [decide_eq_true this.1, decide_eq_true (by omega)] at h2
  cases h2
theorem okpTriv {p : Prg} {i : I8} (h : i.op = 1 ∨ i.op = 4) : Okp p i := by
  refine ⟨fun c hc => ?_, fun e => by omega⟩
  unfold Prg.objN at hc
  rw [if_neg (by omega), if_neg (by omega), if_neg (by omega), if_neg (by omega)] at hc
  cases hc
theorem okpFd {p : Prg} {K : Kn} {nx : Int} {i : I8} (h : Okp p i) : Okp p (fdI K nx i) := by
  rcases fdOp (K := K) (nx := nx) (i := i) with e | ⟨e, _⟩ | ⟨e, _⟩
  · rw [e]; exact h
  · exact okpTriv (.inl e)
  · exact okpTriv (.inr e)
theorem okpSetN {p : Prg} {i : I8} (h : Okp p i) (hj : i.jmp = true) (n : Int) : Okp p (setNf i n) := by
  refine ⟨h.o, fun e => ?_⟩
  have e : i.op = 18 := e
  unfold I8.jmp at hj
  rw [e] at hj
  cases hj
theorem okpSt {p : Prg} {C : List I8} (h : ∀ i ∈ C, Okp p i) : ∀ i ∈ st C, Okp p i := by
  have h1 : ∀ i ∈ fdL C, Okp p i := fun i hi => by
    obtain ⟨k, hk, rfl⟩ := List.mem_iff_getElem.1 hi
    rw [fdLAt]
    rw [fdLLen] at hk
    unfold fdAt
    rw [gIAt hk]
    exact okpFd (h _ (List.getElem_mem _))
  have h2 : ∀ i ∈ thL (fdL C), Okp p i := fun i hi => by
    obtain ⟨j, hj, rfl⟩ := List.mem_map.1 hi
    unfold thI
    split
    · exact okpSetN (h1 j hj) (by assumption) _
    · exact h1 j hj
  intro i hi
  obtain ⟨j, hj, rfl⟩ := List.mem_iff_getElem.1 hi
  obtain ⟨x, hx, _, _, e⟩ := prAt hj
  show Okp p (prL (thL (fdL C)))[j]
  rw [e]
  unfold prI
  split
  · exact okpSetN (h2 _ (List.getElem_mem _)) (by assumption) _
  · exact h2 _ (List.getElem_mem _)
theorem okpSmp {p : Prg} {C : List I8} (h : ∀ i ∈ C, Okp p i) : ∀ i ∈ smp C, Okp p i := by
  have : ∀ k, ∀ i ∈ stN C k, Okp p i := by
    intro k
    induction k with
    | zero => exact h
    | succ k ih => exact okpSt ih
  exact this _
theorem okOfCd {p : Prg} {C : List I8} (h : (p.cd1 C).1 = 0) : CfOk C ∧ ∀ i ∈ C, Okp p i := by
  rw [cd1Z] at h
  refine ⟨⟨h.1, fun i hi => (okpOf (h.2 i hi)).1, fun i hi hj => ?_⟩, fun i hi => (okpOf (h.2 i hi)).2.1⟩
  have := (okpOf (h.2 i hi)).2.2 hj
  unfold belB at this
  rw [Bool.and_eq_true, decide_eq_true_iff, decide_eq_true_iff] at this
  omega
/-- A program simplified. -/
noncomputable def smpP (p : Prg) : Prg := { p with funcs := p.funcs.map fun f => (f.1, smp f.2) }
theorem fnOkOf {p : Prg} (h : p.chk.1 = 0) : ∀ f ∈ p.funcs, CfOk f.2 ∧ ∀ i ∈ f.2, Okp p i := fun f hf => by
  rw [chkZ] at h
  have h4 := h.2.2.2.1
  rw [fnFZ] at h4
  exact okOfCd (h4 f hf)
theorem smpValid {p : Prg} (h : p.chk.1 = 0) : (smpP p).chk.1 = 0 := by
  have hF := fnOkOf h
  unfold smpP
  rw [chkZ] at h ⊢
  obtain ⟨h1, h2, h3, h4, h5⟩ := h
  have hi : ∀ len i, Prg.insE { p with funcs := p.funcs.map fun f => (f.1, smp f.2) } len i = p.insE len i := fun len i => by
    unfold Prg.insE Prg.objN
    simp only [List.length_map]
  refine ⟨?_, ?_, h3, ?_, ?_⟩
  · have e : ((p.funcs.map fun f => (f.1, smp f.2)).map fun x => x.1) = p.funcs.map fun x => x.1 := by rw [List.map_map]; rfl
    unfold Prg.nmE at h1 ⊢
    simp only [e]
    exact h1
  · unfold Prg.many at h2 ⊢
    simp only [List.length_map]
    exact h2
  · rw [fnFZ]
    intro f hf
    obtain ⟨g, hg, rfl⟩ := List.mem_map.1 hf
    obtain ⟨h6, h7⟩ := hF g hg
    have h8 := smpOk h6
    rw [cd1Z]
    refine ⟨h8.len, fun i hm => ?_⟩
    rw [hi]
    exact okpMk (h8.chk i hm) (okpSmp h7 i hm) (h8.tgt i hm)
  · unfold Prg.thE at h5 ⊢
    have e : ∀ l, Prg.thF { p with funcs := p.funcs.map fun f => (f.1, smp f.2) } l = p.thF l := fun l => by
      induction l with
      | nil => rfl
      | cons s t ih => unfold Prg.thF; rw [ih]; simp only [List.length_map]
    rw [e]
    exact h5
theorem smpAgain {p : Prg} (h : p.chk.1 = 0) : smpP (smpP p) = smpP p := by
  have hF := fnOkOf h
  unfold smpP
  simp only [List.map_map]
  congr 1
  refine List.map_congr_left fun f hf => ?_
  show (f.1, smp (smp f.2)) = (f.1, smp f.2)
  rw [smpTwice (hF f hf).1]
end Go.Proofs.YtpkagpobobmnfaaGreatDoor
