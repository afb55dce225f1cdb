/-
  The class of the given characters.
-/
import Derived.Test.YtnlhkeobfidjkaaDoorLxC
import Derived.Test.YtnlhkeobfidjkaaDoorShelf
namespace Go.Proofs.YtnlhkeobfidjkaaDoor
open Go Go.RowKit

theorem idxCont : ∀ (l : List UInt8) (c : UInt8), (-1 = Lib.indexByte l c ∧ l.contains c = false) ∨ (0 ≤ Lib.indexByte l c ∧ l.contains c = true)
  | [], c => .inl ⟨rfl, rfl⟩
  | b :: l, c => by
    unfold Lib.indexByte
    by_cases h : b = c
    · subst h; right; simp
    · have h1 : (b == c) = false := by simpa using h
      have h2 : (b :: l).contains c = l.contains c := by rw [List.contains_cons]; simp [Ne.symm h]
      rw [h1, h2]
      rcases idxCont l c with ⟨h3, h4⟩ | ⟨h3, h4⟩
      · left; rw [h4, ← h3]; exact ⟨rfl, rfl⟩
      · right
        have h5 : (Lib.indexByte l c == -1) = false := by rw [beq_eq_false_iff_ne]; omega
        rw [h5, h4]; simp; omega
theorem idxIs (l : List UInt8) (c : UInt8) : decide (0 ≤ Lib.indexByte l c) = l.contains c := by
  rcases idxCont l c with ⟨h1, h2⟩ | ⟨h1, h2⟩
  · rw [h2, ← h1]; rfl
  · rw [h2]; simpa using h1
theorem toU8 (c : UInt8) : ((c.toNat : Int)).toNat.toUInt8 = c := by simp
theorem cOne1 (s : ByteArray) (b : Nat) (X : World) (hc : X.cell? ⟨b, 0, none⟩ = some (.string s)) (c : UInt8) :
    Calls Tryd.prog 45 #[.int .u8 (c.toNat : Int), .pointer (some ⟨b, 0, none⟩)] X fun e X' => e = .returned (.bool (s.data.toList.contains c)) ∧ X = X' := by
  have HI := Lib.hid (idxIs s.data.toList c)
  have HS := Lib.hid (Tryd.strings_IndexByte s (c.toNat : Int) X)
  rw [toU8] at HS
  generalize Lib.indexByte s.data.toList c = r at HI HS
  go_enter Tryd.func45, Tryd.ntmps45
  go_wp2_with fail
  refine HS.out.mono ?_
  rintro e w' ⟨rfl, rfl⟩
  go_wp2
  go_ret
  exact ⟨retBc HI.out, rfl⟩
theorem cOne (s : ByteArray) (w : World) : Calls Tryd.prog 30 #[.string s] w fun e w' => (∃ v, e = .returned v ∧ Cls w' v (fun c => s.data.toList.contains c)) ∧ Below w.heap.size w w' := by
  go_enter Tryd.func30, Tryd.ntmps30
  go_wp2
  go_ret
  refine ⟨⟨_, rfl, _, _, rfl, entOne, fun X hX c => cOne1 s _ X ?_ c⟩, belowAlloc _ _⟩
  refine (hX.cell ?_).trans ?_
  · simp
  · exact cellNew _ _ _
end Go.Proofs.YtnlhkeobfidjkaaDoor
