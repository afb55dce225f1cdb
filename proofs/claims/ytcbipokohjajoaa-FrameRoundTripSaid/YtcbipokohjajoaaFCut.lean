/-
  Parts of a slice of bytes under one name each: b[k:], b[l:h].
-/
import Derived.Test.YtcbipokohjajoaaBy
import Derived.WalkKit
namespace Go.Proofs.Ytcbipokohjajoaa
open Go.RowKit

/-- The address of b[k:]. -/
def tailA (A : Option Addr) (c k : Nat) : Option Addr := if c = k then A else A.map (·.add k)
theorem tailRb {w : World} {A : Option Addr} {c k : Nat} {l : List UInt8} (h : Rb w A c l) (hk : k ≤ l.length) : Rb w (tailA A c k) (c - k) (l.drop k) := h.drop k hk
theorem tailBlock {A : Option Addr} {c k : Nat} {ad : Addr} (h : tailA A c k = some ad) : ∃ ad0, A = some ad0 ∧ ad.block = ad0.block := by
  unfold tailA at h
  split at h
  · exact ⟨ad, h, rfl⟩
  · obtain ⟨ad0, h0, rfl⟩ := Option.map_eq_some_iff.1 h
    exact ⟨ad0, h0, addBlock _ _⟩
theorem sizeB (W : World) : (sizeOf (Try.prog.elem 22)).run Try.prog W = .ok 1 W := by kernel_rfl
theorem cutB (A : Option Addr) (n c k : Nat) (hk : k ≤ n) (kz : Int) (hz : kz = (k : Int)) (W : World) : (Instr.sliceAt 22 (.slice A n c) (some (.int .i64 kz)) none none).run Try.prog W = .ok (.slice (tailA A c k) (n - k) (c - k)) W := by
  subst hz
  rw [run_sliceAt_slice (h := Try.underlying22), run_slice_l (ht := Try.underlying22) (h0 := by omega) (h1 := by omega), sizeB W]
  simp [Result.andThen, sliced, tailA]
theorem cutLH (A : Option Addr) (n c k m : Nat) (hk : k ≤ m) (hm : m ≤ c) (kz mz : Int) (hz : kz = (k : Int)) (hmz : mz = (m : Int)) (W : World) : (Instr.sliceAt 22 (.slice A n c) (some (.int .i64 kz)) (some (.int .i64 mz)) none).run Try.prog W = .ok (.slice (tailA A c k) (m - k) (c - k)) W := by
  subst hz hmz
  rw [run_sliceAt_slice (h := Try.underlying22), run_slice_lh (ht := Try.underlying22) (h0 := by omega) (h1 := by omega) (h2 := by omega), sizeB W]
  simp [Result.andThen, sliced, tailA]
theorem lhRb {w : World} {A : Option Addr} {c k m : Nat} {l : List UInt8} (h : Rb w A c l) (hk : k ≤ m) (hm : m ≤ l.length) : Rb w (tailA A c k) (c - k) ((l.drop k).take (m - k)) := (tailRb h (by omega)).take (m - k) (by rw [List.length_drop]; omega)
end Go.Proofs.Ytcbipokohjajoaa
