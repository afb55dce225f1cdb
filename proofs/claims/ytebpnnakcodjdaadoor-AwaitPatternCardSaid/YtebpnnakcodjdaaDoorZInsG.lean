/-
  The contract of the specification's Check: the first error of an instruction.
-/
import Derived.Test.YtebpnnakcodjdaaDoorZInsF
import Derived.BigGuard
import Derived.BigGuardPart
namespace Go.Proofs.YtebpnnakcodjdaaDoor
open Go.RowKit

/-- An instruction in its block, read field by field. -/
theorem boxFacts {W : World} {n0 : Nat} {k a b c obj n fn ord : Int} (h : Blk W n0 47 #[.int .i64 k, .int .i64 a, .int .i64 b, .int .i64 c, .int .i64 obj, .int .i64 n, .int .i64 fn, .int .i64 ord]) :
    W.cell? ⟨n0, 0, none⟩ = some (.int .i64 k) ∧ W.cell? ⟨n0, 1, none⟩ = some (.int .i64 a) ∧ W.cell? ⟨n0, 2, none⟩ = some (.int .i64 b) ∧ W.cell? ⟨n0, 3, none⟩ = some (.int .i64 c) ∧ W.cell? ⟨n0, 4, none⟩ = some (.int .i64 obj) ∧ W.cell? ⟨n0, 5, none⟩ = some (.int .i64 n) ∧ W.cell? ⟨n0, 6, none⟩ = some (.int .i64 fn) ∧ W.cell? ⟨n0, 7, none⟩ = some (.int .i64 ord) :=
  ⟨h.cell 0, h.cell 1, h.cell 2, h.cell 3, h.cell 4, h.cell 5, h.cell 6, h.cell 7⟩
theorem rHasN (k f : Nat) (h1 : 1 ≤ k) (h2 : k ≤ 22) (hf : f < 7) (c : Int) (hc : ((lt7.getD f 0).toNat : Int) = c) (b : Bool) (hb : us k f = b) (w : World) :
    Calls Tryd.prog 62 #[.int .i64 (k : Int), .int .u8 c] w fun e w' => e = .returned (.bool b) ∧ Below w.heap.size w w' := by
  obtain ⟨m, rfl⟩ : ∃ m, k = m + 1 := ⟨k - 1, by omega⟩
  subst hb
  have h := rHasAt m f (by omega) hf _ rfl w
  rw [hc] at h
  exact h
def uvec (k : Nat) : List Bool := [us k 0, us k 1, us k 2, us k 3, us k 4, us k 5, us k 6]
theorem uvecOf {k : Nat} {q0 q1 q2 q3 q4 q5 q6 : Bool} (h : uvec k = [q0, q1, q2, q3, q4, q5, q6]) : us k 0 = q0 ∧ us k 1 = q1 ∧ us k 2 = q2 ∧ us k 3 = q3 ∧ us k 4 = q4 ∧ us k 5 = q5 ∧ us k 6 = q6 := by
  simpa [uvec] using h
theorem rIsRegN (o : Int) (r : Bool) (h : rgOk o = r) (w : World) :
    Calls Tryd.prog 63 #[.int .i64 o] w fun e w' => e = .returned (.bool r) ∧ w = w' := by subst h; exact rIsReg o w
/-- What the tests tell of the instruction. -/
structure CkFacts (I : I8) (k : Nat) (a b c obj n fn ord : Int) (q0 q1 q2 q3 q4 q5 q6 : Bool) : Prop where
  op : opOk (k : Int) = true
  iop : I.op = (k : Int)
  f0 : I.fOk 0 = (q0 || decide (a = 0))
  f1 : I.fOk 1 = (q1 || decide (b = 0))
  f2 : I.fOk 2 = (q2 || decide (c = 0))
  f3 : I.fOk 3 = (q3 || decide (obj = 0))
  f4 : I.fOk 4 = (q4 || decide (n = 0))
  f5 : I.fOk 5 = (q5 || decide (fn = 0))
  f6 : I.fOk 6 = (q6 || decide (ord = 0))
  u5 : I.u 5 = q5
  regs : I.rs = (rgOk a && rgOk b && rgOk c)
  fn : I.fn = fn
  ord : I.ord = ord
  n : I.n = n
section
variable {I : I8} {k : Nat} {a b c obj n fn ord : Int} {q0 q1 q2 q3 q4 q5 q6 : Bool} (h : CkFacts I k a b c obj n fn ord q0 q1 q2 q3 q4 q5 q6)
include h
theorem CkFacts.opI : opOk I.op = true := by rw [h.iop]; exact h.op
theorem CkFacts.field (j : Nat) (hj : j < 7) (hf : I.fOk j = false) : I.chk = 9 := chkField h.opI hj hf
theorem CkFacts.fs (h0 : q0 = true ∨ a = 0) (h1 : q1 = true ∨ b = 0) (h2 : q2 = true ∨ c = 0) (h3 : q3 = true ∨ obj = 0) (h4 : q4 = true ∨ n = 0) (h5 : q5 = true ∨ fn = 0) (h6 : q6 = true ∨ ord = 0) : I.fs = true := by
  have aux : ∀ (q : Bool) (x : Int), (q = true ∨ x = 0) → (q || decide (x = 0)) = true := by
    rintro q x (rfl | rfl) <;> simp
  unfold I8.fs
  rw [h.f0, h.f1, h.f2, h.f3, h.f4, h.f5, h.f6, aux _ _ h0, aux _ _ h1, aux _ _ h2, aux _ _ h3, aux _ _ h4, aux _ _ h5, aux _ _ h6]
  rfl
theorem CkFacts.reg (hf : I.fs = true) (hr : rgOk a = false ∨ rgOk b = false ∨ rgOk c = false) : I.chk = 10 := chkReg h.opI hf (by
  rw [h.regs]
  rcases hr with hr | hr | hr <;> simp [hr])
theorem CkFacts.rs (ha : rgOk a = true) (hb : rgOk b = true) (hc : rgOk c = true) : I.rs = true := by rw [h.regs, ha, hb, hc]; rfl
theorem CkFacts.ordNo (hf : I.fs = true) (hr : I.rs = true) (ho : ord < 0 ∨ 2 < ord) : I.chk = 13 := chkOrd h.opI hf hr (by rw [h.ord]; simp [orOk]; omega)
theorem CkFacts.ordYes (h1 : ¬ ord < 0) (h2 : ¬ 2 < ord) : orOk I.ord = true := by rw [h.ord]; simp [orOk]; omega
theorem CkFacts.fnNo (hf : I.fs = true) (hr : I.rs = true) (ho : orOk I.ord = true) (he : q5 = true ∧ fnOk fn = false) : I.chk = 8 := chkFn h.opI hf hr ho (by rw [h.u5, h.fn, he.1, he.2]; rfl)
theorem CkFacts.nNo (hf : I.fs = true) (hr : I.rs = true) (ho : orOk I.ord = true) (h5 : (I.u 5 && !fnOk I.fn) = false) (hk : ((k : Int) == 1) = true) (hn : n < -2147483648 ∨ 2147483647 < n) : I.chk = 2 := by
  have h1 : nOk n = false := by simp only [nOk, decide_eq_false_iff_not, wrap32]; omega
  have h2 : (k : Int) = 1 := by simpa using hk
  exact chkN h.opI hf hr ho h5 true (by rw [h.iop, h.n, h1, decide_eq_true h2]; rfl)
theorem CkFacts.nYes (hf : I.fs = true) (hr : I.rs = true) (ho : orOk I.ord = true) (h5 : (I.u 5 && !fnOk I.fn) = false) (hk : ((k : Int) == 1) = false ∨ (¬ n < -2147483648 ∧ ¬ 2147483647 < n)) : I.chk = 0 := by
  refine chkN h.opI hf hr ho h5 false ?_
  rw [h.iop, h.n]
  rcases hk with hk | hk
  · have h2 : ¬ (k : Int) = 1 := by simpa using hk
    rw [decide_eq_false h2]; rfl
  · have h1 : nOk n = true := by simp only [nOk, decide_eq_true_eq, wrap32]; omega
    rw [h1]; simp
end
end Go.Proofs.YtebpnnakcodjdaaDoor
