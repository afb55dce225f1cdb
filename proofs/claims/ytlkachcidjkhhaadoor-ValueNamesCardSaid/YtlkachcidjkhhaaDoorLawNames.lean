/-
  The law ValueNames returns true for every text and every function, where the table of names is laid and the library's variable ErrRange holds an error; nothing that was in memory changes.
-/
import Derived.Test.YtlkachcidjkhhaaDoorNames
import Derived.Test.YtlkachcidjkhhaaDoorExample
namespace Go.Proofs.YtlkachcidjkhhaaDoor
open Go.RowKit

theorem vByIs (s : ByteArray) (k : Int) (b : Bool) (h : Found s k b) (w : World) (hN : Nm w) :
    Calls Tryd.prog 18 #[.string s] w fun e w' => e = .returned (.tuple #[.int .i64 k, .bool b]) ∧ w = w' := by
  refine (vByName s w hN).mono ?_
  rintro e w' ⟨k', b', rfl, h', rfl⟩
  obtain ⟨rfl, rfl⟩ := h.one h'
  exact ⟨rfl, rfl⟩
theorem rByIs (s : ByteArray) (k : Int) (b : Bool) (h : Found s k b) (w : World) :
    Calls Tryd.prog 19 #[.string s] w fun e w' => e = .returned (.tuple #[.int .i64 k, .bool b]) ∧ w = w' := by
  refine (rByName s w).mono ?_
  rintro e w' ⟨k', b', rfl, h', rfl⟩
  obtain ⟨rfl, rfl⟩ := h.one h'
  exact ⟨rfl, rfl⟩
theorem rNameIs (f : Int) (r : ByteArray) (h : nameOf f = r) (w : World) :
    Calls Tryd.prog 21 #[.int .i64 f] w fun e w' => e = .returned (.string r) ∧ w = w' := by
  subst h; exact rName f w
theorem vNameNo (f : Int) (h : f < 1 ∨ 10 < f) (w : World) :
    Calls Tryd.prog 20 #[.int .i64 f] w fun e w' => e = .returned (.string ⟨#[]⟩) ∧ w = w' := by
  have e : nameOf f = ⟨#[]⟩ := by unfold nameOf; rw [if_neg (by omega)]
  rw [← e]; exact vNameOut f h w

theorem namesLong (s : ByteArray) (f : Int) (hl : 100 < s.size) (hs : s.size ≤ 9223372036854775807) (w : World) (hw : Ev w) :
    Calls Tryd.prog 5 #[.string s, .int .i64 f] w fun e w' => e = .returned (.bool true) ∧ Below w.heap.size w w' := by
  go_enter Tryd.func5, Tryd.ntmps5
  go_wp2_with fail
  refine (exOk _ hw).mono ?_
  rintro e w2 ⟨rfl, b2, v2⟩
  go_wp2
  go_ret
  exact ⟨rfl, b2⟩

theorem namesOut (s : ByteArray) (f : Int) (hl : s.size ≤ 100) (h : f < 1 ∨ 10 < f) (w : World) (hw : Ev w) (hN : Nm w) :
    Calls Tryd.prog 5 #[.string s, .int .i64 f] w fun e w' => e = .returned (.bool true) ∧ Below w.heap.size w w' := by
  obtain ⟨k, b, hF⟩ := foundAny s
  have HF := Lib.hid hF; clear hF
  have HN := Lib.hid hN; clear hN
  have HO := Lib.hid h; clear h
  have HE : Hid (nameOf f = ⟨#[]⟩) := Lib.hid (by have := HO.out; unfold nameOf; rw [if_neg (by omega)])
  go_enter Tryd.func5, Tryd.ntmps5
  go_wp2_with fail
  refine (vByIs _ _ _ HF.out _ HN.out).mono ?_
  rintro e w' ⟨rfl, rfl⟩
  go_wp2_with fail
  refine (rByIs _ _ _ HF.out _).mono ?_
  rintro e w' ⟨rfl, rfl⟩
  go_wp2_with fail
  refine (vNameNo _ HO.out _).mono ?_
  rintro e w' ⟨rfl, rfl⟩
  go_wp2_with fail
  refine (vByIs _ 0 false (foundEmpty _ (by rw [Lib.toList_data]; rfl)) _ HN.out).mono ?_
  rintro e w' ⟨rfl, rfl⟩
  go_wp2_with fail
  refine (vNameNo _ HO.out _).mono ?_
  rintro e w' ⟨rfl, rfl⟩
  go_wp2_with fail
  refine (vNameNo _ HO.out _).mono ?_
  rintro e w' ⟨rfl, rfl⟩
  go_wp2_with fail
  refine (rNameIs _ _ HE.out _).mono ?_
  rintro e w' ⟨rfl, rfl⟩
  go_wp2_with fail
  refine (exOk _ hw).mono ?_
  rintro e w2 ⟨rfl, b2, v2⟩
  go_wp2
  go_ret
  exact ⟨rfl, b2⟩

theorem namesIn (s : ByteArray) (j : Nat) (hl : s.size ≤ 100) (h1 : 1 ≤ j) (h2 : j ≤ 10) (w : World) (hw : Ev w) (hN : Nm w) :
    Calls Tryd.prog 5 #[.string s, .int .i64 (j : Int)] w fun e w' => e = .returned (.bool true) ∧ Below w.heap.size w w' := by
  obtain ⟨k, b, hF⟩ := foundAny s
  have HF := Lib.hid hF; clear hF
  have HN := Lib.hid hN; clear hN
  have hne : (nm j).toList.isEmpty = false := by
    rw [Lib.toList_data, List.isEmpty_eq_false_iff]; exact nmFull j (by omega) h1
  go_enter Tryd.func5, Tryd.ntmps5
  go_wp2_with fail
  refine (vByIs _ _ _ HF.out _ HN.out).mono ?_
  rintro e w' ⟨rfl, rfl⟩
  go_wp2_with fail
  refine (rByIs _ _ _ HF.out _).mono ?_
  rintro e w' ⟨rfl, rfl⟩
  go_wp2_with fail
  refine (vNameIn _ h1 h2 _ HN.out).mono ?_
  rintro e w' ⟨rfl, rfl⟩
  go_wp2_with fail
  refine (vByIs _ j true (foundIn j h1 h2) _ HN.out).mono ?_
  rintro e w' ⟨rfl, rfl⟩
  go_wp2_with fail
  refine (vNameIn _ h1 h2 _ HN.out).mono ?_
  rintro e w' ⟨rfl, rfl⟩
  go_wp2_with fail
  refine (vNameIn _ h1 h2 _ HN.out).mono ?_
  rintro e w' ⟨rfl, rfl⟩
  go_wp2_with fail
  refine (rNameIn _ j h1 h2 rfl _).mono ?_
  rintro e w' ⟨rfl, rfl⟩
  go_wp2_with fail
  refine (exOk _ hw).mono ?_
  rintro e w2 ⟨rfl, b2, v2⟩
  go_wp2
  go_ret
  exact ⟨rfl, b2⟩

theorem lawNames (s : ByteArray) (f : Int) (hs : s.size ≤ 9223372036854775807) (w : World) (hw : Ev w) (hN : Nm w) :
    Calls Tryd.prog 5 #[.string s, .int .i64 f] w fun e w' => e = .returned (.bool true) ∧ Below w.heap.size w w' := by
  by_cases hl : 100 < s.size
  · exact namesLong s f hl hs w hw
  · by_cases h : f < 1 ∨ 10 < f
    · exact namesOut s f (by omega) h w hw hN
    · obtain ⟨j, rfl⟩ : ∃ j : Nat, f = j := ⟨f.toNat, by omega⟩
      exact namesIn s j (by omega) (by omega) (by omega) w hw hN
end Go.Proofs.YtlkachcidjkhhaaDoor
