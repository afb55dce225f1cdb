/-
  Arguments opened: slices of bytes, slices of integers, the struct of bytes, a number, integers and a string.
-/
import Derived.Test.YtcbipokohjajoaaBy
import Derived.ProofKit
import Derived.OpenShut
import Derived.ChangeMaps5
import Derived.ChangeArms
import Derived.Deep.SlicePairs
import Derived.Lib.SmallJoins
namespace Go.Proofs.Ytcbipokohjajoaa
open Go Go.ChangeShapes Go.WideShapes Go.ChangeAt Go.RowKit Go.Deep Go.Joins

theorem ownKnob0 : ownKnob Try.prog.godebug = none := by kernel_rfl
theorem laidOut0 : laidOutB Try.prog = true := by kernel_rfl
theorem cellsU8 : Try.prog.cellsOf 5 = 1 := by kernel_rfl
theorem cellsInt : Try.prog.cellsOf 3 = 1 := by kernel_rfl
theorem cellsList : Try.prog.cellsOf 32 = 4 := by kernel_rfl
/-- The byte, the integer at an address. -/
def atB (W : World) (a : Addr) : UInt8 := UInt8.ofNat (intOf ((W.cell? a).getD undef)).toNat
def atI (W : World) (a : Addr) : Int := intOf ((W.cell? a).getD undef)
theorem openBs {H : Type} {enc : TypeId × Value → H} {W : World} {b0 : Nat} {fuel : Nat} {v : Value} {y : DataW H × List MemPlace} (h : DataW.trod enc Try.prog W b0 (fun _ => true) true fuel 22 [v] = some y) :
    ∃ (A : Option Addr) (n c : Nat) (l : List UInt8), v = .slice A n c ∧ l.length = n ∧ Rb W A c l := by
  rcases open_slice Try.underlying22 h with ⟨hcs, _⟩ | ⟨a, len, cap, m, n, D, Pl, hcs, hb, hl, hmx, hmm, hx, hcell⟩
  · injection hcs with hcs
    exact ⟨none, 0, 0, [], hcs, rfl, Rb.nil⟩
  · injection hcs with hcs
    simp only [if_true] at hmm
    subst hmm
    have each : ∀ i, i < m → W.cell? (a.add i) = some (.int .u8 ((atB W (a.add i)).toNat : Int)) := fun i hi => by
      obtain ⟨cs', h1, h2⟩ := hcell i hi
      rw [cellsU8, Nat.mul_one] at h1
      obtain ⟨_, hlen, hc⟩ := World.cells?_some h1
      obtain ⟨x, hx, _, hw⟩ := DataW.trod_int Try.underlying5 h2
      subst hx
      have e0 := hc 0 (by omega)
      have e0' : W.cell? (a.add i) = some (.int .u8 x) := by simpa [addAdd] using e0
      have hw' : 0 ≤ x ∧ x ≤ 255 := by simpa [Lit.wf, IntKind.min, IntKind.max, IntKind.bits, IntKind.signed] using hw
      rw [e0']
      unfold atB
      rw [e0']
      have : (UInt8.ofNat x.toNat).toNat = x.toNat := by rw [UInt8.toNat_ofNat']; omega
      show _ = some (Value.int .u8 ((UInt8.ofNat x.toNat).toNat : Int))
      rw [this, Int.toNat_of_nonneg hw'.1]
    refine ⟨some a, len, m, (List.range len).map fun i => atB W (a.add i), hcs, by simp, ⟨by simpa using hl, hmx, fun hn => ⟨a, rfl, ?_, fun j u hu => ?_⟩⟩⟩
    · have hn' : 0 < len := by simpa using hn
      have := World.block_lt_of_cell? W _ (each 0 (by omega))
      rwa [addBlock] at this
    · have hj : j < len := by have := (List.getElem?_eq_some_iff.1 hu).1; simpa using this
      rw [each j (by omega)]
      simp [hj] at hu
      rw [← hu]
theorem openIs {H : Type} {enc : TypeId × Value → H} {W : World} {b0 : Nat} {fuel : Nat} {v : Value} {y : DataW H × List MemPlace} (h : DataW.trod enc Try.prog W b0 (fun _ => true) true fuel 30 [v] = some y) :
    ∃ (A : Option Addr) (n c : Nat) (l : List Int), v = .slice A n c ∧ l.length = n ∧ Rd W A c l ∧ ∀ x ∈ l, -9223372036854775808 ≤ x ∧ x ≤ 9223372036854775807 := by
  rcases open_slice Try.underlying30 h with ⟨hcs, _⟩ | ⟨a, len, cap, m, n, D, Pl, hcs, hb, hl, hmx, hmm, hx, hcell⟩
  · injection hcs with hcs
    exact ⟨none, 0, 0, [], hcs, rfl, Rd.nil, by simp⟩
  · injection hcs with hcs
    simp only [if_true] at hmm
    subst hmm
    have each : ∀ i, i < m → W.cell? (a.add i) = some (.int .i64 (atI W (a.add i))) ∧ -9223372036854775808 ≤ atI W (a.add i) ∧ atI W (a.add i) ≤ 9223372036854775807 := fun i hi => by
      obtain ⟨cs', h1, h2⟩ := hcell i hi
      rw [cellsInt, Nat.mul_one] at h1
      obtain ⟨_, hlen, hc⟩ := World.cells?_some h1
      obtain ⟨x, hx, _, hw⟩ := DataW.trod_int Try.underlying3 h2
      subst hx
      have e0 := hc 0 (by omega)
      have e0' : W.cell? (a.add i) = some (.int .i64 x) := by simpa [addAdd] using e0
      have hw' : -9223372036854775808 ≤ x ∧ x ≤ 9223372036854775807 := by simpa [Lit.wf, IntKind.min, IntKind.max, IntKind.bits, IntKind.signed] using hw
      unfold atI
      rw [e0']
      exact ⟨rfl, hw'⟩
    refine ⟨some a, len, m, (List.range len).map fun i => atI W (a.add i), hcs, by simp, ⟨by simpa using hl, hmx, fun hn => ⟨a, rfl, ?_, fun j u hu => ?_⟩⟩, fun x hx => ?_⟩
    · have hn' : 0 < len := by simpa using hn
      have := World.block_lt_of_cell? W _ (each 0 (by omega)).1
      rwa [addBlock] at this
    · have hj : j < len := by have := (List.getElem?_eq_some_iff.1 hu).1; simpa using this
      rw [(each j (by omega)).1]
      simp [hj] at hu
      rw [← hu]
    · obtain ⟨i, hi, rfl⟩ := List.mem_map.1 hx
      exact (each i (by have := List.mem_range.1 hi; omega)).2
theorem openB {H : Type} {enc : TypeId × Value → H} {W : World} {b0 base : Nat} {v : Value} {d : DataW H} {p : List MemPlace} (hv : Value.okWide Try.prog W .any base 22 v) (h : DataW.Trod enc Try.prog W b0 (fun _ => true) true 22 v d p) :
    ∃ (A : Option Addr) (n c : Nat) (l : List UInt8), v = .slice A n c ∧ l.length = n ∧ Rb W A c l := by
  obtain ⟨a0, len, cap, rfl⟩ := okWide_slice Try.underlying22 hv
  obtain ⟨fuel, hf⟩ := h
  have hf' : DataW.trod enc Try.prog W b0 (fun _ => true) true fuel 22 [.slice a0 len cap] = some (d, p) := by simpa [Value.cells] using hf
  exact openBs hf'
theorem openList {H : Type} {enc : TypeId × Value → H} {W : World} {base b0 : Nat} {v : Value} {d : DataW H} {p : List MemPlace} (hv : Value.okWide Try.prog W .any base 32 v) (h : DataW.Trod enc Try.prog W b0 (fun _ => true) true 32 v d p) :
    ∃ (A B : Option Addr) (n c m k : Nat) (l : List UInt8) (most : Int) (L : List Int) (s : ByteArray), v = .agg #[.slice A n c, .int .i64 most, .slice B m k, .string s] ∧ l.length = n ∧ Rb W A c l ∧ L.length = m ∧ Rd W B k L ∧ (∀ x ∈ L, -9223372036854775808 ≤ x ∧ x ≤ 9223372036854775807) ∧ s.size ≤ maxLen := by
  obtain ⟨v0, v1, v2, v3, y0, y1, y2, y3, n, rfl, _, _, h0, h1, h2, h3⟩ := open_agg4 Try.underlying32 (by kernel_rfl) cellsList hv h
  obtain ⟨A, n0, c, l, rfl, e0, r0⟩ := openBs h0
  obtain ⟨most, hN, _⟩ := DataW.trod_int Try.underlying3 h1
  injection hN with hN
  subst hN
  obtain ⟨B, m, k, L, rfl, e1, r1, hL⟩ := openIs h2
  obtain ⟨s, hS, _, hs⟩ := DataW.trod_string Try.underlying9 h3
  injection hS with hS
  subst hS
  exact ⟨A, B, n0, c, m, k, l, most, L, s, rfl, e0, r0, e1, r1, hL, hs⟩
end Go.Proofs.Ytcbipokohjajoaa
