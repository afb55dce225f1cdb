/-
  Spin loops, pure: what the program and the specification find.
-/
import Derived.Test.YtebpnnakcodjdaaDoorZIU
namespace Go.Proofs.YtebpnnakcodjdaaDoor

/-- The function that is not 0 where the calculation is 0, by the loaded value and the other register; 0 if there is none. -/
def awFn (l c : I8) : Int := if c.fn = 7 then 8 else if c.fn = 8 then 7 else if c.fn = 9 ∧ c.c = l.a then 10 else if c.fn = 10 ∧ c.c = l.a then 9 else 0
/-- The register that is compared with the loaded one. -/
def awCmp (l c : I8) : Int := if c.b = l.a then c.c else c.b
/-- Does a jump or a branch lead to n? -/
def entB (C : List I8) (n : Int) : Bool := C.any fun i => (i.op == 4 || i.op == 5) && i.n == n
/-- The properties of three instructions, one after another. -/
def q1 (l c b : I8) : Bool := l.op == 8 && (c.op == 3 && b.op == 5)
def q2 (l c : I8) : Bool := ((c.b == l.a) != (c.c == l.a)) && awCmp l c != c.a
def q3 (l c : I8) : Bool := awFn l c != 0
def q4 (c b : I8) (n : Nat) : Bool := b.b == c.a && b.n == (n : Int)
def q5 (C : List I8) (n : Nat) : Bool := !entB C ((n : Int) + 1) && !entB C ((n : Int) + 2)
def sp3 (C : List I8) (l c b : I8) (n : Nat) : Bool := q1 l c b && (q2 l c && (q3 l c && (q4 c b n && q5 C n)))
/-- Does a spin loop begin at instruction n? -/
def spB (C : List I8) (n : Nat) : Bool := if h : n + 2 < C.length then sp3 C C[n] C[n + 1] C[n + 2] n else false
theorem spAt {C : List I8} {n : Nat} (h : n + 2 < C.length) : spB C n = sp3 C C[n] C[n + 1] C[n + 2] n := by unfold spB; rw [dif_pos h]
theorem spOut {C : List I8} {n : Nat} (h : C.length ≤ n + 2) : spB C n = false := by unfold spB; rw [dif_neg (by omega)]
/-- The first instructions of the spin loops below k. -/
def spL (C : List I8) (k : Nat) : List Nat := (List.range k).filter (spB C)
theorem spLYes {C : List I8} {k : Nat} (h : spB C k = true) : spL C (k + 1) = spL C k ++ [k] := by unfold spL; rw [List.range_succ, List.filter_append]; simp [h]
theorem spLNo {C : List I8} {k : Nat} (h : spB C k = false) : spL C (k + 1) = spL C k := by unfold spL; rw [List.range_succ, List.filter_append]; simp [h]
theorem spLUp {C : List I8} {k : Nat} (h : C.length ≤ k + 2) : ∀ m, k ≤ m → spL C m = spL C k := by
  intro m hm
  induction m with
  | zero => rw [show k = 0 by omega]
  | succ m ih =>
    by_cases e : k = m + 1
    · rw [e]
    · rw [spLNo (spOut (by omega)), ih (by omega)]
theorem spLLen (C : List I8) (k : Nat) : (spL C k).length ≤ k := by
  unfold spL
  have := List.length_filter_le (spB C) (List.range k)
  simpa using this
theorem spLMem {C : List I8} {k n : Nat} : n ∈ spL C k ↔ n < k ∧ spB C n = true := by unfold spL; simp
theorem spLt {C : List I8} {n : Nat} (h : spB C n = true) : n + 2 < C.length := by
  rcases Nat.lt_or_ge (n + 2) C.length with g | g
  · exact g
  · rw [spOut g] at h; cases h
/-- The spin loops of the functions below k. -/
def spF (F : List (ByteArray × List I8)) : Nat → List (Nat × Nat)
  | 0 => []
  | k + 1 => spF F k ++ (spL (F.getD k (⟨#[]⟩, [])).2 (F.getD k (⟨#[]⟩, [])).2.length).map fun n => (k, n)
theorem getFn {F : List (ByteArray × List I8)} {k : Nat} (hk : k < F.length) : F.getD k (⟨#[]⟩, []) = F[k] := by simp [List.getD, hk]
theorem spFMem {F : List (ByteArray × List I8)} : ∀ {k : Nat}, k ≤ F.length → ∀ {f n : Nat}, (f, n) ∈ spF F k ↔ f < k ∧ ∃ h : f < F.length, spB F[f].2 n = true
  | 0, _, f, n => by simp [spF]
  | k + 1, hk, f, n => by
    have ih := spFMem (F := F) (k := k) (by omega) (f := f) (n := n)
    rw [spF, List.mem_append, ih, getFn (by omega)]
    simp only [List.mem_map, Prod.mk.injEq]
    constructor
    · rintro (⟨h1, h2, h3⟩ | ⟨m, hm, rfl, rfl⟩)
      · exact ⟨by omega, h2, h3⟩
      · exact ⟨by omega, by omega, (spLMem.1 hm).2⟩
    · rintro ⟨h1, h2, h3⟩
      by_cases e : f = k
      · subst e
        exact .inr ⟨n, spLMem.2 ⟨by have := spLt h3; omega, h3⟩, rfl, rfl⟩
      · exact .inl ⟨by omega, h2, h3⟩
theorem spFLen {F : List (ByteArray × List I8)} (hF : ∀ f ∈ F, f.2.length ≤ 100) : ∀ {k : Nat}, k ≤ F.length → (spF F k).length ≤ 100 * k
  | 0, _ => by simp [spF]
  | k + 1, hk => by
    have ih := spFLen hF (k := k) (by omega)
    have h1 := spLLen (F[k]'(by omega)).2 (F[k]'(by omega)).2.length
    have h2 := hF _ (List.getElem_mem (show k < F.length by omega))
    rw [spF, getFn (by omega), List.length_append, List.length_map]
    omega
def Prg.spins (p : Prg) : List (Nat × Nat) := spF p.funcs p.funcs.length

/-! ### Rewriting -/
/-- The instruction that replaces the load. -/
def awOf (l c : I8) : I8 := ⟨14, l.a, awCmp l c, 0, l.obj, 0, awFn l c, l.ord⟩
def awAt (C : List I8) (n : Nat) : I8 := awOf (C.getD n I8.zero) (C.getD (n + 1) I8.zero)
/-- A code where the loads of the spin loops below k are replaced. -/
def rwC (C : List I8) (k : Nat) : List I8 := (List.range C.length).map fun i => if i < k ∧ spB C i = true then awAt C i else C.getD i I8.zero
theorem rwCLen (C : List I8) (k : Nat) : (rwC C k).length = C.length := by simp [rwC]
theorem rwCAt {C : List I8} {k i : Nat} (h : i < (rwC C k).length) : (rwC C k)[i] = if i < k ∧ spB C i = true then awAt C i else C[i]'(by rwa [rwCLen] at h) := by
  have h' : i < C.length := by rwa [rwCLen] at h
  simp [rwC, List.getD, h']
/-- The functions where those of the list are replaced. -/
def rwS (F : List (ByteArray × List I8)) (S : List (Nat × Nat)) : List (ByteArray × List I8) :=
  (List.range F.length).map fun f => ((F.getD f (⟨#[]⟩, [])).1, (List.range (F.getD f (⟨#[]⟩, [])).2.length).map fun i => if (f, i) ∈ S then awAt (F.getD f (⟨#[]⟩, [])).2 i else (F.getD f (⟨#[]⟩, [])).2.getD i I8.zero)
theorem rwSLen (F : List (ByteArray × List I8)) (S : List (Nat × Nat)) : (rwS F S).length = F.length := by simp [rwS]
theorem rwSAt {F : List (ByteArray × List I8)} {S : List (Nat × Nat)} {f : Nat} (h : f < F.length) : (rwS F S)[f]'(by rw [rwSLen]; exact h) = (F[f].1, (List.range F[f].2.length).map fun i => if (f, i) ∈ S then awAt F[f].2 i else F[f].2.getD i I8.zero) := by
  simp [rwS, List.getD, h]
def rwP (p : Prg) (S : List (Nat × Nat)) : Prg := { p with funcs := rwS p.funcs S }
theorem rwSNil (F : List (ByteArray × List I8)) : rwS F [] = F := by
  refine List.ext_getElem (rwSLen F []) fun f h1 h2 => ?_
  rw [rwSAt h2]
  refine Prod.ext rfl (List.ext_getElem (by simp) fun i g1 g2 => ?_)
  simp [List.getD, g2]
theorem rwPNil (p : Prg) : rwP p [] = p := by unfold rwP; rw [rwSNil]
end Go.Proofs.YtebpnnakcodjdaaDoor

namespace Go.Proofs.YtebpnnakcodjdaaDoor

/-! ### What a zero error says -/
theorem fnFZ {p : Prg} : ∀ (l : List (ByteArray × List I8)) (k : Nat), (p.fnF l k).1 = 0 ↔ ∀ f ∈ l, (p.cd1 f.2).1 = 0
  | [], k => by simp [Prg.fnF]
  | f :: t, k => by
    unfold Prg.fnF
    by_cases h : (p.cd1 f.2).1 ≠ 0
    · rw [if_pos h]
      exact ⟨fun e => absurd e h, fun e => absurd (e f (by simp)) h⟩
    · rw [if_neg h, fnFZ t (k + 1)]
      have h' : (p.cd1 f.2).1 = 0 := by simpa using h
      simp [h']
theorem cdFZ {p : Prg} {len : Nat} : ∀ (l : List I8) (k : Nat), (p.cdF len l k).1 = 0 ↔ ∀ i ∈ l, p.insE len i = 0
  | [], k => by simp [Prg.cdF]
  | i :: t, k => by
    unfold Prg.cdF
    by_cases h : p.insE len i ≠ 0
    · rw [if_pos h]
      exact ⟨fun e => absurd e h, fun e => absurd (e i (by simp)) h⟩
    · rw [if_neg h, cdFZ t (k + 1)]
      have h' : p.insE len i = 0 := by simpa using h
      simp [h']
theorem cd1Z {p : Prg} {C : List I8} : (p.cd1 C).1 = 0 ↔ C.length ≤ 64 ∧ ∀ i ∈ C, p.insE C.length i = 0 := by
  unfold Prg.cd1
  by_cases h : 64 < C.length
  · rw [if_pos h]
    exact ⟨fun e => absurd e (by decide), fun e => absurd e.1 (by omega)⟩
  · rw [if_neg h, cdFZ]
    exact ⟨fun e => ⟨by omega, e⟩, fun e => e.2⟩
theorem chkZ {p : Prg} : p.chk.1 = 0 ↔ p.nmE.1 = 0 ∧ p.many = false ∧ (p.vars.all fun v => isVal v.2) = true ∧ (p.fnF p.funcs 0).1 = 0 ∧ p.thE = 0 := by
  unfold Prg.chk
  by_cases h1 : p.nmE.1 ≠ 0
  · rw [if_pos h1]
    exact ⟨fun e => absurd e h1, fun e => absurd e.1 h1⟩
  rw [if_neg h1]
  have h1' : p.nmE.1 = 0 := by simpa using h1
  by_cases h2 : p.many = true
  · rw [if_pos h2]
    exact ⟨fun e => absurd e (by decide), fun e => by rw [h2] at e; exact absurd e.2.1 (by decide)⟩
  rw [if_neg h2]
  by_cases h3 : (p.vars.all fun v => isVal v.2) = false
  · rw [if_pos h3]
    exact ⟨fun e => absurd e (by decide), fun e => by rw [h3] at e; exact absurd e.2.2.1 (by decide)⟩
  rw [if_neg h3]
  by_cases h4 : (p.fnF p.funcs 0).1 ≠ 0
  · rw [if_pos h4]
    exact ⟨fun e => absurd e h4, fun e => absurd e.2.2.2.1 h4⟩
  rw [if_neg h4]
  have h4' : (p.fnF p.funcs 0).1 = 0 := by simpa using h4
  exact ⟨fun e => ⟨h1', by simpa using h2, by simpa using h3, h4', e⟩, fun e => e.2.2.2.2⟩
theorem insZ {p : Prg} {len : Nat} {i : I8} (h : p.insE len i = 0) : i.chk = 0 ∧ ∀ c, p.objN i.op = some c → belB i.obj c = true := by
  unfold Prg.insE at h
  by_cases h1 : i.chk ≠ 0
  · rw [if_pos h1] at h
    exact absurd h h1
  rw [if_neg h1] at h
  refine ⟨by simpa using h1, fun c hc => ?_⟩
  rw [hc] at h
  simp only at h
  cases g : belB i.obj c
  · simp [g] at h
  · rfl

/-! ### The replaced instruction -/
structure Sp (C : List I8) (n : Nat) (l c b : I8) : Prop where
  h : n + 2 < C.length
  hl : C[n] = l
  hc : C[n + 1] = c
  hb : C[n + 2] = b
  ol : l.op = 8
  oc : c.op = 3
  ob : b.op = 5
  one : (c.b = l.a ∧ c.c ≠ l.a) ∨ (c.b ≠ l.a ∧ c.c = l.a)
  cmp : awCmp l c ≠ c.a
  fn : awFn l c ≠ 0
  bb : b.b = c.a
  bn : b.n = (n : Int)
  e1 : entB C ((n : Int) + 1) = false
  e2 : entB C ((n : Int) + 2) = false
theorem spOf {C : List I8} {n : Nat} (h : spB C n = true) : ∃ l c b, Sp C n l c b := by
  have hn := spLt h
  rw [spAt hn] at h
  unfold sp3 q1 q2 q3 q4 q5 at h
  simp only [Bool.and_eq_true, beq_iff_eq, bne_iff_ne, Bool.not_eq_true'] at h
  obtain ⟨⟨h1, h2, h3⟩, ⟨h4, h5⟩, h6, ⟨h7, h8⟩, h9, h10⟩ := h
  refine ⟨C[n], C[n + 1], C[n + 2], hn, rfl, rfl, rfl, h1, h2, h3, ?_, h5, h6, h7, h8, h9, h10⟩
  by_cases g1 : C[n + 1].b = C[n].a
  · by_cases g2 : C[n + 1].c = C[n].a
    · simp [g1, g2] at h4
    · exact .inl ⟨g1, g2⟩
  · by_cases g2 : C[n + 1].c = C[n].a
    · exact .inr ⟨g1, g2⟩
    · exact absurd ((beq_eq_false_iff_ne.2 g1).trans (beq_eq_false_iff_ne.2 g2).symm) h4
theorem awAtSp {C : List I8} {n : Nat} {l c b : I8} (h : Sp C n l c b) : awAt C n = awOf l c := by
  have h1 := h.h
  unfold awAt
  rw [show C.getD n I8.zero = l by rw [← h.hl]; simp [List.getD, show n < C.length by omega], show C.getD (n + 1) I8.zero = c by rw [← h.hc]; simp [List.getD, show n + 1 < C.length by omega]]
/-! ### The rewritten code -/
def rwA (C : List I8) : List I8 := rwC C C.length
theorem rwALen (C : List I8) : (rwA C).length = C.length := rwCLen C _
theorem rwAAt {C : List I8} {i : Nat} (h : i < (rwA C).length) : (rwA C)[i] = if spB C i = true then awAt C i else C[i]'(by rwa [rwALen] at h) := by
  have h' : i < C.length := by rwa [rwALen] at h
  have := rwCAt (C := C) (k := C.length) (i := i) h
  unfold rwA at h ⊢
  rw [this]
  by_cases g : spB C i = true
  · rw [if_pos ⟨h', g⟩, if_pos g]
  · rw [if_neg (fun q => g q.2), if_neg g]
/-- All spin loops are replaced. -/
theorem rwSAll (F : List (ByteArray × List I8)) : rwS F (spF F F.length) = F.map fun f => (f.1, rwA f.2) := by
  refine List.ext_getElem (by rw [rwSLen, List.length_map]) fun f h1 h2 => ?_
  have h : f < F.length := by rwa [rwSLen] at h1
  rw [rwSAt h, List.getElem_map]
  refine Prod.ext rfl (List.ext_getElem (by rw [rwALen]; simp) fun i g1 g2 => ?_)
  have hi : i < F[f].2.length := by simpa using g1
  rw [rwAAt g2]
  simp only [List.getElem_map, List.getElem_range]
  have e : ((f, i) ∈ spF F F.length) ↔ spB F[f].2 i = true := by
    rw [spFMem (Nat.le_refl _)]
    exact ⟨fun q => q.2.2, fun q => ⟨h, h, q⟩⟩
  by_cases g : spB F[f].2 i = true
  · rw [if_pos (e.2 g), if_pos g]
  · rw [if_neg (fun q => g (e.1 q)), if_neg g]
    simp [List.getD, hi]
theorem rwPAll (p : Prg) : rwP p p.spins = { p with funcs := p.funcs.map fun f => (f.1, rwA f.2) } := by unfold rwP Prg.spins; rw [rwSAll]
theorem rwPLen (p : Prg) : (rwP p p.spins).funcs.length = p.funcs.length := by rw [rwPAll]; simp
end Go.Proofs.YtebpnnakcodjdaaDoor
