/-
  The registers of a spin loop and of its OpAwait, pure.
-/
import Derived.Test.YtebpnnakcodjdaaDoorZAwL
import Derived.Test.YtebpnnakcodjdaaDoorZAwRw
import Derived.Test.YtebpnnakcodjdaaDoorZAwPt
import Derived.Test.YtebpnnakcodjdaaDoorZAwN
import Derived.Test.YtebpnnakcodjdaaDoorZRef
import Derived.Test.YtebpnnakcodjdaaDoorZPkC
import Derived.Test.YtebpnnakcodjdaaDoorZOp
import Derived.Laws.StructEq
import Derived.ChangeKeysEq
import Derived.KernelRfl
namespace Go.Proofs.YtebpnnakcodjdaaDoor
open Go Go.RowKit Go.Maps

theorem cmpsOp : Cmps wrap32 opI := by
  refine ⟨fun a b => ?_, fun a b => ?_, fun a b => ?_, fun a b => ?_⟩
  · show (if wrap32 a = wrap32 b then (1 : Int) else 0) = 0 ↔ _
    split <;> rename_i h <;> simp [h]
  · show (if wrap32 a = wrap32 b then (0 : Int) else 1) = 0 ↔ _
    split <;> rename_i h <;> simp [h]
  · show (if wrap32 a < wrap32 b then (1 : Int) else 0) = 0 ↔ _
    split <;> rename_i h <;> simp [h] <;> omega
  · show (if wrap32 a ≤ wrap32 b then (1 : Int) else 0) = 0 ↔ _
    split <;> rename_i h <;> simp [h] <;> omega
/-- Registers, in the cells of an array of eight. -/
def rgA (R : Int → Int) : Array Value := #[.int .i64 (R 0), .int .i64 (R 1), .int .i64 (R 2), .int .i64 (R 3), .int .i64 (R 4), .int .i64 (R 5), .int .i64 (R 6), .int .i64 (R 7)]
theorem rgAAt (R : Int → Int) {r : Nat} (h : r < 8) : (rgA R)[r]? = some (.int .i64 (R (r : Int))) := by
  have hc : r = 0 ∨ r = 1 ∨ r = 2 ∨ r = 3 ∨ r = 4 ∨ r = 5 ∨ r = 6 ∨ r = 7 := by omega
  rcases hc with rfl | rfl | rfl | rfl | rfl | rfl | rfl | rfl <;> rfl
theorem rgAPut (R : Int → Int) {r : Nat} (h : r < 8) (v : Int) : (rgA R).setIfInBounds r (.int .i64 v) = rgA (setR R (r : Int) v) := by
  have hc : r = 0 ∨ r = 1 ∨ r = 2 ∨ r = 3 ∨ r = 4 ∨ r = 5 ∨ r = 6 ∨ r = 7 := by omega
  rcases hc with rfl | rfl | rfl | rfl | rfl | rfl | rfl | rfl <;> (simp [rgA, setR])
theorem chkRs {i : I8} (h : i.chk = 0) : i.rs = true := by
  unfold I8.chk at h
  cases e : i.rs
  · rw [e] at h
    split at h
    · exact absurd h (by decide)
    · split at h
      · exact absurd h (by decide)
      · rw [if_pos rfl] at h
        exact absurd h (by decide)
  · rfl
theorem rsReg {i : I8} (h : i.rs = true) : ∃ a b c : Nat, i.a = a ∧ i.b = b ∧ i.c = c ∧ a < 8 ∧ b < 8 ∧ c < 8 := by
  unfold I8.rs rgOk at h
  simp only [Bool.and_eq_true, decide_eq_true_eq] at h
  exact ⟨i.a.toNat, i.b.toNat, i.c.toNat, by omega, by omega, by omega, by omega, by omega, by omega⟩
/-- A spin loop of a valid program and its OpAwait. -/
structure SpA (p : Prg) (f n : Nat) (l c b : I8) : Prop where
  hf : f < p.funcs.length
  sp : Sp p.funcs[f].2 n l c b
  wt : ∃ h : n < (rwA p.funcs[f].2).length, (rwA p.funcs[f].2)[n] = awOf l c
  rl : l.rs = true
  rc : c.rs = true
theorem spAOf {p : Prg} (hz : p.chk.1 = 0) {k : Nat} (hk : k < p.spins.length) : ∃ f n l c b, p.spins[k] = (f, n) ∧ SpA p f n l c b := by
  obtain ⟨⟨f, n⟩, hs⟩ : ∃ s, p.spins[k] = s := ⟨_, rfl⟩
  have hm : (f, n) ∈ spF p.funcs p.funcs.length := by rw [← hs]; exact List.getElem_mem hk
  obtain ⟨hf, _, hsp⟩ := (spFMem (Nat.le_refl _)).1 hm
  obtain ⟨l, c, b, h⟩ := spOf hsp
  have h4 := (chkZ.1 hz).2.2.2.1
  rw [fnFZ] at h4
  have h5 := h4 _ (List.getElem_mem hf)
  rw [cd1Z] at h5
  have h6 : ∀ i ∈ p.funcs[f].2, i.chk = 0 := fun i hi => (insZ (h5.2 i hi)).1
  have hh := h.h
  have hn : n < (rwA p.funcs[f].2).length := by rw [rwALen]; omega
  refine ⟨f, n, l, c, b, hs, hf, h, ⟨hn, by rw [rwAAt hn, if_pos hsp]; exact awAtSp h⟩, chkRs (h6 _ ?_), chkRs (h6 _ ?_)⟩
  · rw [← h.hl]; exact List.getElem_mem _
  · rw [← h.hc]; exact List.getElem_mem _
theorem eqRg7 (v0 v1 v2 v3 v4 v5 v6 v7 : Int) (w : World) : (Op.equalIn 10000 28 (.agg #[.int .i64 v0, .int .i64 v1, .int .i64 v2, .int .i64 v3, .int .i64 v4, .int .i64 v5, .int .i64 v6, .int .i64 v7]) (.agg #[.int .i64 v0, .int .i64 v1, .int .i64 v2, .int .i64 v3, .int .i64 v4, .int .i64 v5, .int .i64 v6, .int .i64 v7])).run Tryd.prog w = .ok true w := by
  obtain ⟨i0, hi, hz0, hz1, hz2⟩ := info_parts infoInt
  have hc : Tryd.prog.cellsOf 3 = 1 := by kernel_rfl
  rw [run_equalIn_array (P := Tryd.prog) w 9999 #[.int .i64 v0, .int .i64 v1, .int .i64 v2, .int .i64 v3, .int .i64 v4, .int .i64 v5, .int .i64 v6, .int .i64 v7] #[.int .i64 v0, .int .i64 v1, .int .i64 v2, .int .i64 v3, .int .i64 v4, .int .i64 v5, .int .i64 v6, .int .i64 v7] Tryd.underlying28 hi, hc]
  have hp0 : ∀ (a0 a1 a2 a3 a4 a5 a6 a7 : Int), (part 3 #[.int .i64 a0, .int .i64 a1, .int .i64 a2, .int .i64 a3, .int .i64 a4, .int .i64 a5, .int .i64 a6, .int .i64 a7] 0).run Tryd.prog w = .ok (.int .i64 a0) w := fun _ _ _ _ _ _ _ _ => by kernel_rfl
  have hp1 : ∀ (a0 a1 a2 a3 a4 a5 a6 a7 : Int), (part 3 #[.int .i64 a0, .int .i64 a1, .int .i64 a2, .int .i64 a3, .int .i64 a4, .int .i64 a5, .int .i64 a6, .int .i64 a7] 1).run Tryd.prog w = .ok (.int .i64 a1) w := fun _ _ _ _ _ _ _ _ => by kernel_rfl
  have hp2 : ∀ (a0 a1 a2 a3 a4 a5 a6 a7 : Int), (part 3 #[.int .i64 a0, .int .i64 a1, .int .i64 a2, .int .i64 a3, .int .i64 a4, .int .i64 a5, .int .i64 a6, .int .i64 a7] 2).run Tryd.prog w = .ok (.int .i64 a2) w := fun _ _ _ _ _ _ _ _ => by kernel_rfl
  have hp3 : ∀ (a0 a1 a2 a3 a4 a5 a6 a7 : Int), (part 3 #[.int .i64 a0, .int .i64 a1, .int .i64 a2, .int .i64 a3, .int .i64 a4, .int .i64 a5, .int .i64 a6, .int .i64 a7] 3).run Tryd.prog w = .ok (.int .i64 a3) w := fun _ _ _ _ _ _ _ _ => by kernel_rfl
  have hp4 : ∀ (a0 a1 a2 a3 a4 a5 a6 a7 : Int), (part 3 #[.int .i64 a0, .int .i64 a1, .int .i64 a2, .int .i64 a3, .int .i64 a4, .int .i64 a5, .int .i64 a6, .int .i64 a7] 4).run Tryd.prog w = .ok (.int .i64 a4) w := fun _ _ _ _ _ _ _ _ => by kernel_rfl
  have hp5 : ∀ (a0 a1 a2 a3 a4 a5 a6 a7 : Int), (part 3 #[.int .i64 a0, .int .i64 a1, .int .i64 a2, .int .i64 a3, .int .i64 a4, .int .i64 a5, .int .i64 a6, .int .i64 a7] 5).run Tryd.prog w = .ok (.int .i64 a5) w := fun _ _ _ _ _ _ _ _ => by kernel_rfl
  have hp6 : ∀ (a0 a1 a2 a3 a4 a5 a6 a7 : Int), (part 3 #[.int .i64 a0, .int .i64 a1, .int .i64 a2, .int .i64 a3, .int .i64 a4, .int .i64 a5, .int .i64 a6, .int .i64 a7] 6).run Tryd.prog w = .ok (.int .i64 a6) w := fun _ _ _ _ _ _ _ _ => by kernel_rfl
  have hp7 : ∀ (a0 a1 a2 a3 a4 a5 a6 a7 : Int), (part 3 #[.int .i64 a0, .int .i64 a1, .int .i64 a2, .int .i64 a3, .int .i64 a4, .int .i64 a5, .int .i64 a6, .int .i64 a7] 7).run Tryd.prog w = .ok (.int .i64 a7) w := fun _ _ _ _ _ _ _ _ => by kernel_rfl
  have he : ∀ (a : Int), (Op.equalIn 9999 3 (.int .i64 a) (.int .i64 a)).run Tryd.prog w = .ok true w := fun a => by
    rw [show (9999 : Nat) = 9998 + 1 from rfl, run_equalIn_int w 9998 3 .i64 .i64 a a Tryd.underlying3]
    simp
  rw [show List.range 8 = [0, 1, 2, 3, 4, 5, 6, 7] from rfl]
  simp [Op.eqItems, hp0, hp1, hp2, hp3, hp4, hp5, hp6, hp7, he]
end Go.Proofs.YtebpnnakcodjdaaDoor
