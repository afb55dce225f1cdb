/-
  The contracts of the comparisons of slices of bytes: bytes.Equal and the reference's Same.
-/
import Derived.Test.YtcbipokohjajoaaBy
import Derived.WalkKit
import Derived.Outline
import Derived.Lib.Hide
import Derived.Laws.BytesArg
namespace Go.Proofs.Ytcbipokohjajoaa
open Go.RowKit

/-- 'string(b)'. -/
theorem convB {w : World} {A : Option Addr} {c n : Nat} {l : List UInt8} (h : Rb w A c l) (hn : l.length = n) : (convert 22 9 (.slice A n c)).run Try.prog w = .ok (.string ⟨l.toArray⟩) w := by
  subst hn
  rcases Nat.eq_zero_or_pos l.length with h0 | h0
  · have hl : l = [] := List.eq_nil_of_length_eq_zero h0
    subst hl
    rw [run_convert_bytes_string w _ _ 5 _ _ c Try.underlying22 Try.underlying5 Try.underlying9]
    cases A <;> simp [Conv.bytesToString, loadCells] <;> rfl
  · obtain ⟨⟨b, off, spot⟩, rfl, hb, hc⟩ := Rds.at_ h (by simpa using h0)
    have k0 := hc 0 _ (List.getElem?_eq_getElem (by simpa using h0))
    have hspot : spot = none := by simpa [Addr.add] using World.cell?_spot k0
    subst hspot
    rw [run_convert_bytes_arg (P := Try.prog) (w := w) _ 5 Try.underlying22 Try.underlying5 b off l.length c (l.map fun x => (x.toNat : Int)) (by simp) (fun i hi => ?_) _ Try.underlying9]
    · congr 2
      unfold strOfNums
      rw [List.map_map]
      congr 2
      conv => rhs; rw [← List.map_id l]
      apply List.map_congr_left
      intro x _
      simp
    · have := hc i _ (List.getElem?_eq_getElem (by simpa using hi))
      have e : (⟨b, off, none⟩ : Addr).add i = ⟨b, off + i, none⟩ := by unfold Addr.add; split <;> simp_all
      rw [e] at this
      rw [this]
      simp [List.getD, hi]
/-- Are the two lists of bytes equal? -/
def eqL (l m : List UInt8) : Bool := l == m
theorem eqLs (l m : List UInt8) : (l == m) = eqL l m := rfl
theorem eqLy {l m : List UInt8} (h : l = m) : eqL l m = true := by subst h; simp [eqL]
theorem eqLn {l m : List UInt8} (h : l ≠ m) : eqL l m = false := by simpa [eqL] using h
theorem rSame (l m : List UInt8) (r : Bool) (hr : eqL l m = r) (n k : Nat) (hn : l.length = n) (hk : m.length = k) (A B : Option Addr) (c d : Nat) (w : World) (ha : Rb w A c l) (hb : Rb w B d m) :
    Calls Try.prog 15 #[.slice A n c, .slice B k d] w fun e w' => e = .returned (.bool r) ∧ w = w' := by
  have h1 := convB ha hn
  have h2 := convB hb hk
  have HE := Lib.hid ((eqLs l m).trans hr)
  clear ha hb hn hk hr
  go_enter Try.func15, Try.ntmps15
  go_wp2
  go_ret
  exact ⟨retB HE.out, rfl⟩
theorem bEqual (l m : List UInt8) (r : Bool) (hr : eqL l m = r) (n k : Nat) (hn : l.length = n) (hk : m.length = k) (A B : Option Addr) (c d : Nat) (w : World) (ha : Rb w A c l) (hb : Rb w B d m) :
    Calls Try.prog 42 #[.slice A n c, .slice B k d] w fun e w' => e = .returned (.bool r) ∧ w = w' := by
  have h1 := convB ha hn
  have h2 := convB hb hk
  have HE := Lib.hid ((eqLs l m).trans hr)
  clear ha hb hn hk hr
  go_enter Try.func42, Try.ntmps42
  go_wp2
  go_ret
  exact ⟨retB HE.out, rfl⟩
end Go.Proofs.Ytcbipokohjajoaa
