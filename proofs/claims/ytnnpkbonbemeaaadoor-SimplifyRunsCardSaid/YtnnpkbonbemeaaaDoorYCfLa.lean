/-
  Iterators of Loops that read one row alone; what a loop over headers leaves.
-/
import Derived.Test.YtnnpkbonbemeaaaDoorYCb
import Derived.Test.YtnnpkbonbemeaaaDoorYRangeC
import Derived.Test.YtnnpkbonbemeaaaDoorYOwn
import Derived.Test.YtnnpkbonbemeaaaDoorYCd
import Derived.BigRegionIn
import Derived.Test.YtnnpkbonbemeaaaDoorYCfV
namespace Go.Proofs.YtnnpkbonbemeaaaDoor
open Go Go.RowKit Go.Shelf

theorem rdPlain9 {w : World} {A : Option Addr} {c : Nat} {l : List Int} (h : Rd w A c l) (hl : 0 < l.length) : ∃ b off, A = some ⟨b, off, none⟩ ∧ b < w.heap.size ∧ ∀ j (_ : j < l.length), w.cell? ⟨b, off + j, none⟩ = some (.int .i64 (l.getD j 0)) := by
  obtain ⟨⟨b, off, spot⟩, e, hb, hc⟩ := Rds.at_ h (by simpa using hl)
  have h0 := hc 0 (.int .i64 l[0]) (by simp [List.getElem?_eq_getElem hl])
  have hspot : spot = none := by simpa [Addr.add] using World.cell?_spot h0
  subst hspot
  refine ⟨b, off, e, hb, fun j hj => ?_⟩
  have := hc j (.int .i64 l[j]) (by simp [List.getElem?_eq_getElem hj])
  rw [Addr.add_lit] at this
  rw [this]
  simp [List.getD, hj]
theorem containsB9 (l : List Int) (n : Int) : l.contains n = memB l n := by
  rw [Bool.eq_iff_iff]; simp [memB]
theorem iContains9 (l : List Int) (m : Nat) (hm : l.length = m) (n : Int) (r : Bool) (hr : memB l n = r) (A : Option Addr) (c : Nat) (w : World) (ha : Rd w A c l) :
    Calls Tryd.prog 34 #[.slice A m c, .int .i64 n] w fun e w' => e = .returned (.bool r) ∧ w = w' := by
  subst hr
  subst hm
  rcases Nat.eq_zero_or_pos l.length with h0 | h0
  · obtain rfl : l = [] := List.eq_nil_of_length_eq_zero h0
    exact (Tryd.slices_Contains_int_empty A c n w).mono fun e w' ⟨h1, h2⟩ => ⟨by rw [h1]; rfl, h2.symm⟩
  · obtain ⟨b, off, rfl, _, hc⟩ := rdPlain9 ha h0
    have h1 := ha.le
    have h2 := ha.max
    unfold maxLen at h2
    refine (Tryd.slices_Contains_int b off l.length c l n w (Nat.le_refl _) (by omega) hc).mono fun e w' ⟨h1, h2⟩ => ⟨by rw [h1, List.take_length, containsB9], h2.symm⟩
/-! What lies in memory while a loop is laid down: the body sorted; the header too; both in one row; that row in a list; the list appended. -/
end Go.Proofs.YtnnpkbonbemeaaaDoor
