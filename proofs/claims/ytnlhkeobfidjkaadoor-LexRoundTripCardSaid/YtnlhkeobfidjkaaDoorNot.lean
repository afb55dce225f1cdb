/-
  The contract of value.isNotation: it tells whether a text is the decimal notation of an integer.
-/
import Derived.Test.YtnlhkeobfidjkaaDoorNums
import Derived.Test.YtnlhkeobfidjkaaDoorShelf
namespace Go.Proofs.YtnlhkeobfidjkaaDoor
open Go.RowKit

def isDig (c : UInt8) : Bool := decide (48 ≤ c.toNat) && decide (c.toNat ≤ 57)
/-- The rest d behind a sign (ng: there is one) makes a decimal notation. -/
def ndB (d : List UInt8) (ng : Bool) : Bool := !d.isEmpty && d.all isDig && (d.head? != some 48 || (d.length == 1 && !ng))

/-- The first k bytes are digits. -/
def dg (l : List UInt8) (k : Nat) : Prop := (l.take k).all isDig = true

theorem sizeD (D : ByteArray) : D.data.toList.length = D.size := rfl
theorem getD' (D : ByteArray) (k : Nat) (h : k < D.size) : D.data.toList[k]? = some D[k] := List.getElem?_eq_getElem (l := D.data.toList) h
theorem dgSucc (D : ByteArray) (k : Nat) (h : k < D.size) (hd : dg D.data.toList k) (h1 : 48 ≤ (D[k].toNat : Int)) (h2 : (D[k].toNat : Int) ≤ 57) : dg D.data.toList (k + 1) := by
  unfold dg at *
  have e : D.data.toList.take (k + 1) = D.data.toList.take k ++ [D[k]] := by
    rw [List.take_add_one, getD' D k h]; rfl
  have h1' : 48 ≤ D[k].toNat := by omega
  have h2' : D[k].toNat ≤ 57 := by omega
  rw [e, List.all_append, hd]
  simp [isDig, h1', h2']
theorem ndEmpty (D : ByteArray) (ng : Bool) (h : D.toList.isEmpty = true) : ndB D.data.toList ng = false := by
  rw [Lib.toList_data] at h
  simp [ndB, h]
theorem ndBad (D : ByteArray) (ng : Bool) (k : Nat) (h : k < D.size) (hb : (D[k].toNat : Int) < 48 ∨ 57 < (D[k].toNat : Int)) : ndB D.data.toList ng = false := by
  have e : D.data.toList.all isDig = false := by
    rw [List.all_eq_false]
    refine ⟨D[k], List.mem_of_getElem? (getD' D k h), ?_⟩
    simp only [isDig, Bool.and_eq_true, decide_eq_true_eq]
    omega
  simp [ndB, e]
theorem head0 (D : ByteArray) (h : 0 < D.size) : D.data.toList.head? = some D[0] := by
  rw [List.head?_eq_getElem?]; exact getD' D 0 h
theorem ndAll (D : ByteArray) (ng : Bool) (h : 0 < D.size) (hd : dg D.data.toList D.size) : ndB D.data.toList ng = (D[0] != 48 || (D.size == 1 && !ng)) := by
  unfold dg at hd
  rw [List.take_of_length_le (by rw [sizeD]; exact Nat.le_refl _)] at hd
  have e : D.data.toList.isEmpty = false := by
    cases hc : D.data.toList with
    | nil => have := sizeD D; rw [hc] at this; simp at this; omega
    | cons a b => rfl
  unfold ndB
  rw [hd, e, head0 D h, sizeD]
  rfl
theorem nd1 (D : ByteArray) (ng : Bool) (h : 0 < D.size) (hd : dg D.data.toList D.size) (h0 : (D[0].toNat : Int) = 48) (h1 : (D.size : Int) = 1) : ndB D.data.toList ng = !ng := by
  have e : D[0] = 48 := UInt8.toNat_inj.mp (by rw [show (48 : UInt8).toNat = 48 from rfl]; omega)
  have e1 : D.size = 1 := by omega
  rw [ndAll D ng h hd, e, e1]; rfl
theorem nd2 (D : ByteArray) (ng : Bool) (h : 0 < D.size) (hd : dg D.data.toList D.size) (h0 : (D[0].toNat : Int) = 48) (h1 : ¬ (D.size : Int) = 1) : ndB D.data.toList ng = false := by
  have e : D[0] = 48 := UInt8.toNat_inj.mp (by rw [show (48 : UInt8).toNat = 48 from rfl]; omega)
  have e1 : (D.size == 1) = false := by simp; omega
  rw [ndAll D ng h hd, e, e1]; rfl
theorem nd3 (D : ByteArray) (ng : Bool) (h : 0 < D.size) (hd : dg D.data.toList D.size) (h0 : ¬ (D[0].toNat : Int) = 48) : ndB D.data.toList ng = true := by
  have e : (D[0] != 48) = true := by
    simp only [bne_iff_ne, ne_eq]; intro hc; rw [hc] at h0; exact h0 rfl
  rw [ndAll D ng h hd, e]; rfl
theorem retB {a b : Bool} (h : a = b) : Ending.returned (.bool a) = .returned (.bool b) := by rw [h]

theorem cutP (s D : ByteArray) (ng : Bool) (hD : D = ⟨(Lib.trimPrefix s.data.toList [45]).toArray⟩) (hn : ng = Lib.hasPrefix s.data.toList [45]) (w : World) :
    Calls Tryd.prog 54 #[.string s, .string ⟨#[45]⟩] w fun e w' => e = .returned (.tuple #[.string D, .bool ng]) ∧ w = w' := by
  subst hD hn
  exact (Tryd.strings_CutPrefix s ⟨#[45]⟩ w).mono fun e w' h => ⟨h.1, h.2.symm⟩

set_option maxHeartbeats 1000000 in
theorem vNot (s D : ByteArray) (ng : Bool) (hD : D = ⟨(Lib.trimPrefix s.data.toList [45]).toArray⟩) (hn : ng = Lib.hasPrefix s.data.toList [45]) (hs : D.size ≤ 9223372036854775807) (w : World) :
    Calls Tryd.prog 48 #[.string s] w fun e w' => e = .returned (.bool (ndB D.data.toList ng)) ∧ w = w' := by
  have HD := Lib.hid hD; clear hD
  have HN := Lib.hid hn; clear hn
  go_enter Tryd.func48, Tryd.ntmps48
  go_wp2_with (go_at_call 54; refine (cutP _ _ _ HD.out HN.out _).mono ?_; rintro e w' ⟨rfl, rfl⟩)
  · go_ret
    exact ⟨retB (ndEmpty D ng (by assumption)).symm, rfl⟩
  · have hp : 0 < D.size := by
      have h : D.toList.isEmpty = false := by assumption
      rw [Lib.toList_data] at h
      cases hc : D.data.toList with
      | nil => rw [hc] at h; simp at h
      | cons a b => have := sizeD D; rw [hc] at this; simp at this; omega
    go_loop [2, 15] (fun r i => ∃ k : Nat, k ≤ D.size ∧ r = .bool false ∧ i = .int .i64 k ∧ dg D.data.toList k) (fun _ i => D.size - (intOf i).toNat)
    case atStart => exact ⟨0, Nat.zero_le _, rfl, rfl, rfl⟩
    case round =>
      obtain ⟨k, hk, rfl, rfl, hd⟩ := hrel
      have HA := Lib.hid hd; clear hd
      by_cases hlt : k < D.size
      · go_wp2
        · go_ret
          exact ⟨retB (ndBad D ng k hlt (by assumption)).symm, rfl⟩
        · go_round
          case rel =>
            have hx : 48 ≤ (D[k].toNat : Int) ∧ (D[k].toNat : Int) ≤ 57 := by assumption
            exact ⟨_, _, _, ⟨k + 1, by omega, rfl, by go_num, dgSucc D k hlt HA.out hx.1 hx.2⟩, rfl, rfl, rfl⟩
          case measure => simp [intOf]; omega
        · go_ret
          exact ⟨retB (ndBad D ng k hlt (Or.inl (by assumption))).symm, rfl⟩
      · obtain rfl : k = D.size := by omega
        go_wp2
        · go_ret
          exact ⟨retB (nd1 D ng hp HA.out (by assumption) (by assumption)).symm, rfl⟩
        · go_ret
          exact ⟨retB (nd2 D ng hp HA.out (by assumption) (by assumption)).symm, rfl⟩
        · go_ret
          exact ⟨retB (nd3 D ng hp HA.out (by assumption)).symm, rfl⟩
end Go.Proofs.YtnlhkeobfidjkaaDoor
