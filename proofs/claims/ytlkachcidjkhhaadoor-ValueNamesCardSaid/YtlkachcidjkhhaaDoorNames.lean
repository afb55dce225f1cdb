/-
  The contracts of Name and ByName, of the program and of the specification: the names of the ten functions, and the function of a name. Their condition: the table of names is laid.
-/
import Derived.Test.YtlkachcidjkhhaaDoorNums
import Derived.Lib.SmallJoins
import Derived.Lib.Strings
namespace Go.Proofs.YtlkachcidjkhhaaDoor
open Go.RowKit

/-- The names, by number; number 0 has the empty one. -/
def nmTab : List ByteArray := [⟨#[]⟩, ⟨#[97, 100, 100]⟩, ⟨#[115, 117, 98]⟩, ⟨#[109, 117, 108]⟩, ⟨#[97, 110, 100]⟩, ⟨#[111, 114]⟩, ⟨#[120, 111, 114]⟩, ⟨#[101, 113]⟩, ⟨#[110, 101]⟩, ⟨#[108, 116]⟩, ⟨#[108, 101]⟩]
def nm (k : Nat) : ByteArray := nmTab.getD k ⟨#[]⟩
/-- The table of names is laid. -/
def Nm (w : World) : Prop := ∀ k, k < 11 → w.cell? ⟨0, k, none⟩ = some (.string (nm k))
def nameOf (f : Int) : ByteArray := if 1 ≤ f ∧ f ≤ 10 then nm f.toNat else ⟨#[]⟩

/-- Function k has the name s, or none has it. -/
def Found (s : ByteArray) (k : Int) (b : Bool) : Prop :=
  (b = true ∧ ∃ j : Nat, 1 ≤ j ∧ j ≤ 10 ∧ k = j ∧ (nm j).toList = s.toList) ∨ (b = false ∧ k = 0 ∧ ∀ j : Nat, 1 ≤ j → j ≤ 10 → (nm j).toList ≠ s.toList)
theorem nmInj : ∀ i, i < 11 → ∀ j, j < 11 → (nm i).data.toList = (nm j).data.toList → i = j := by decide
theorem Found.one {s : ByteArray} {k k' : Int} {b b' : Bool} (h : Found s k b) (h' : Found s k' b') : k = k' ∧ b = b' := by
  rcases h with ⟨rfl, j, h1, h2, rfl, h3⟩ | ⟨rfl, rfl, hn⟩ <;> rcases h' with ⟨rfl, j', g1, g2, rfl, g3⟩ | ⟨rfl, rfl, gn⟩
  · refine ⟨?_, rfl⟩
    have e := h3.trans g3.symm
    rw [Lib.toList_data, Lib.toList_data] at e
    rw [nmInj j (by omega) j' (by omega) e]
  · exact absurd h3 (gn j h1 h2)
  · exact absurd g3 (hn j' g1 g2)
  · exact ⟨rfl, rfl⟩
theorem foundAny (s : ByteArray) : ∃ k b, Found s k b := by
  by_cases h : ∃ j : Nat, 1 ≤ j ∧ j ≤ 10 ∧ (nm j).toList = s.toList
  · obtain ⟨j, h1, h2, h3⟩ := h
    exact ⟨j, true, Or.inl ⟨rfl, j, h1, h2, rfl, h3⟩⟩
  · exact ⟨0, false, Or.inr ⟨rfl, rfl, fun j h1 h2 h3 => h ⟨j, h1, h2, h3⟩⟩⟩
theorem foundIn (k : Nat) (h1 : 1 ≤ k) (h2 : k ≤ 10) : Found (nm k) k true := Or.inl ⟨rfl, k, h1, h2, rfl, rfl⟩
theorem nmFull : ∀ j, j < 11 → 1 ≤ j → (nm j).data.toList ≠ [] := by decide
theorem foundEmpty (s : ByteArray) (h : s.toList.isEmpty = true) : Found s 0 false := by
  refine Or.inr ⟨rfl, rfl, fun j h1 h2 h3 => ?_⟩
  simp only [Lib.toList_data] at h h3
  rw [List.isEmpty_iff] at h
  rw [h] at h3
  exact nmFull j (by omega) h1 h3
/-- None of the names from 1 up to k (k left out) is s. -/
def Not (s : ByteArray) (k : Nat) : Prop := ∀ j : Nat, 1 ≤ j → j < k → (nm j).toList ≠ s.toList
theorem Not.succ {s : ByteArray} {k : Nat} (h : Not s k) (hk : ((nm k).toList == s.toList) = false) : Not s (k + 1) := by
  intro j h1 h2
  by_cases e : j = k
  · subst e; simpa using hk
  · exact h j h1 (by omega)
theorem Not.all {s : ByteArray} (h : Not s 11) : Found s 0 false := Or.inr ⟨rfl, rfl, fun j h1 h2 => h j h1 (by omega)⟩
theorem nmZero (s : ByteArray) (h : s.toList.isEmpty = false) (k : Nat) (hk : ((nm k).toList == s.toList) = true) : 1 ≤ k := by
  rcases Nat.eq_zero_or_pos k with rfl | hp
  · rw [beq_iff_eq] at hk
    rw [← hk, Lib.toList_data] at h
    exact absurd h (by decide)
  · exact hp
/-- What a search by name leaves. -/
def ByPost (s : ByteArray) (w : World) (e : Ending) (w' : World) : Prop := ∃ k b, e = .returned (.tuple #[.int .i64 k, .bool b]) ∧ Found s k b ∧ w = w'

theorem vNameOut (f : Int) (h : f < 1 ∨ 10 < f) (w : World) :
    Calls Tryd.prog 20 #[.int .i64 f] w fun e w' => e = .returned (.string (nameOf f)) ∧ w = w' := by
  have HE : Hid (nameOf f = ⟨#[]⟩) := Lib.hid (by unfold nameOf; rw [if_neg (by omega)])
  rcases h with h | h
  · go_enter Tryd.func20, Tryd.ntmps20
    go_wp2
    go_ret
    exact ⟨by rw [HE.out]; rfl, rfl⟩
  · have h' : 1 ≤ f := by omega
    go_enter Tryd.func20, Tryd.ntmps20
    go_wp2
    go_ret
    exact ⟨by rw [HE.out]; rfl, rfl⟩

theorem vNameIn (k : Nat) (h1 : 1 ≤ k) (h2 : k ≤ 10) (w : World) (hN : Nm w) :
    Calls Tryd.prog 20 #[.int .i64 (k : Int)] w fun e w' => e = .returned (.string (nm k)) ∧ w = w' := by
  have hc := hN k (by omega)
  go_enter Tryd.func20, Tryd.ntmps20
  go_wp2
  go_ret
  exact ⟨rfl, rfl⟩

theorem nameIn (k : Nat) (h1 : 1 ≤ k) (h2 : k ≤ 10) (f : Int) (h : f = k) : nameOf f = nm k := by
  subst h
  unfold nameOf
  rw [if_pos (by omega)]
  rfl
theorem nameOut (f : Int) (h1 : (f == 1) = false) (h2 : (f == 2) = false) (h3 : (f == 3) = false) (h4 : (f == 4) = false) (h5 : (f == 5) = false) (h6 : (f == 6) = false) (h7 : (f == 7) = false) (h8 : (f == 8) = false) (h9 : (f == 9) = false) (h10 : (f == 10) = false) :
    nameOf f = ⟨#[]⟩ := by
  simp only [beq_eq_false_iff_ne] at h1 h2 h3 h4 h5 h6 h7 h8 h9 h10
  unfold nameOf
  rw [if_neg (by omega)]
theorem retS {a b : ByteArray} (h : a = b) : Ending.returned (.string a) = .returned (.string b) := by rw [h]

set_option maxHeartbeats 1000000 in
theorem rName (f : Int) (w : World) :
    Calls Tryd.prog 21 #[.int .i64 f] w fun e w' => e = .returned (.string (nameOf f)) ∧ w = w' := by
  go_enter Tryd.func21, Tryd.ntmps21
  go_wp2
  all_goals go_ret
  · have h : (f == 1) = true := by assumption
    exact ⟨retS (nameIn 1 (by omega) (by omega) f (by simpa using h)).symm, rfl⟩
  · have h : (f == 2) = true := by assumption
    exact ⟨retS (nameIn 2 (by omega) (by omega) f (by simpa using h)).symm, rfl⟩
  · have h : (f == 3) = true := by assumption
    exact ⟨retS (nameIn 3 (by omega) (by omega) f (by simpa using h)).symm, rfl⟩
  · have h : (f == 4) = true := by assumption
    exact ⟨retS (nameIn 4 (by omega) (by omega) f (by simpa using h)).symm, rfl⟩
  · have h : (f == 5) = true := by assumption
    exact ⟨retS (nameIn 5 (by omega) (by omega) f (by simpa using h)).symm, rfl⟩
  · have h : (f == 6) = true := by assumption
    exact ⟨retS (nameIn 6 (by omega) (by omega) f (by simpa using h)).symm, rfl⟩
  · have h : (f == 7) = true := by assumption
    exact ⟨retS (nameIn 7 (by omega) (by omega) f (by simpa using h)).symm, rfl⟩
  · have h : (f == 8) = true := by assumption
    exact ⟨retS (nameIn 8 (by omega) (by omega) f (by simpa using h)).symm, rfl⟩
  · have h : (f == 9) = true := by assumption
    exact ⟨retS (nameIn 9 (by omega) (by omega) f (by simpa using h)).symm, rfl⟩
  · have h : (f == 10) = true := by assumption
    exact ⟨retS (nameIn 10 (by omega) (by omega) f (by simpa using h)).symm, rfl⟩
  · have e : nameOf f = ⟨#[]⟩ := nameOut f (by assumption) (by assumption) (by assumption) (by assumption) (by assumption) (by assumption) (by assumption) (by assumption) (by assumption) (by assumption)
    exact ⟨retS e.symm, rfl⟩

theorem rNameIn (f : Int) (k : Nat) (h1 : 1 ≤ k) (h2 : k ≤ 10) (h : f = k) (w : World) :
    Calls Tryd.prog 21 #[.int .i64 f] w fun e w' => e = .returned (.string (nm k)) ∧ w = w' := by
  rw [← nameIn k h1 h2 f h]; exact rName f w

theorem vByName (s : ByteArray) (w : World) (hN : Nm w) :
    Calls Tryd.prog 18 #[.string s] w (ByPost s w) := by
  have HN := Lib.hid hN; clear hN
  go_enter Tryd.func18, Tryd.ntmps18
  go_wp2
  · go_ret2
    exact ⟨0, false, rfl, foundEmpty s (by assumption), rfl⟩
  · have hs : s.toList.isEmpty = false := by assumption
    go_loop [2, 3, 7] (fun r b i => ∃ k : Nat, k ≤ 11 ∧ r = .int .i64 0 ∧ b = .bool false ∧ i = .int .i64 k ∧ Not s k) (fun _ _ i => 11 - (intOf i).toNat)
    case atStart => exact ⟨0, Nat.zero_le _, rfl, rfl, rfl, fun j h1 h2 => by omega⟩
    case round =>
      obtain ⟨k, hk, rfl, rfl, rfl, hd⟩ := hrel
      have HD := Lib.hid hd; clear hd
      by_cases hlt : k < 11
      · have hc := HN.out k hlt
        go_wp2
        · go_ret2
          have h : ((nm k).toList == s.toList) = true := by assumption
          exact ⟨k, true, rfl, Or.inl ⟨rfl, k, nmZero s hs k h, by omega, rfl, by simpa using h⟩, rfl⟩
        · have h : ((nm k).toList == s.toList) = false := by assumption
          refine ⟨⟨k + 1, by omega, rfl, rfl, by go_num, HD.out.succ h⟩, by simp [intOf]; omega⟩
      · obtain rfl : k = 11 := by omega
        go_wp2
        go_ret2
        exact ⟨0, false, rfl, HD.out.all, rfl⟩

theorem rByName (s : ByteArray) (w : World) :
    Calls Tryd.prog 19 #[.string s] w (ByPost s w) := by
  go_enter Tryd.func19, Tryd.ntmps19
  go_wp2
  go_loop [2, 3, 4] (fun r b i => ∃ k : Nat, 1 ≤ k ∧ k ≤ 11 ∧ r = .int .i64 0 ∧ b = .bool false ∧ i = .int .i64 k ∧ Not s k) (fun _ _ i => 11 - (intOf i).toNat)
  case atStart => exact ⟨1, Nat.le_refl _, by omega, rfl, rfl, rfl, fun j h1 h2 => by omega⟩
  case round =>
    obtain ⟨k, h1, hk, rfl, rfl, rfl, hd⟩ := hrel
    have HD := Lib.hid hd; clear hd
    by_cases hlt : k < 11
    · go_wp2_with (go_at_call 21; refine (rNameIn _ _ h1 (by omega) rfl _).mono ?_; rintro e w' ⟨rfl, rfl⟩)
      · go_ret2
        have h : ((nm k).toList == s.toList) = true := by assumption
        exact ⟨k, true, rfl, Or.inl ⟨rfl, k, h1, by omega, rfl, by simpa using h⟩, rfl⟩
      · have h : ((nm k).toList == s.toList) = false := by assumption
        refine ⟨⟨k + 1, by omega, by omega, rfl, rfl, by go_num, HD.out.succ h⟩, by simp [intOf]; omega⟩
    · obtain rfl : k = 11 := by omega
      go_wp2
      go_ret2
      exact ⟨0, false, rfl, HD.out.all, rfl⟩
end Go.Proofs.YtlkachcidjkhhaaDoor
