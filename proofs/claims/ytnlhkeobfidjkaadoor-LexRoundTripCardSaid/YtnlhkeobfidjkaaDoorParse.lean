/-
  The contract of value.Parse: it returns the value and the error that 'parV' and 'parE' give for its text; nothing that was in memory changes. Its conditions: the text has at most 2^48 bytes, and the library's variable ErrRange holds an error.
-/
import Derived.Test.YtnlhkeobfidjkaaDoorNot
import Derived.Lib.SmallJoins
import Derived.Lib.AtoiErrMem
namespace Go.Proofs.YtnlhkeobfidjkaaDoor
open Go.RowKit

/-- Is the text the decimal notation of an integer? -/
def notB (l : List UInt8) : Bool := ndB (Lib.trimPrefix l [45]) (Lib.hasPrefix l [45])
def parV (l : List UInt8) : Int := if notB l then (match Lib.parseIntB 32 l with | .ok v => v | _ => 0) else 0
def parE (l : List UInt8) : Int := if notB l then (match Lib.parseIntB 32 l with | .ok _ => 0 | _ => 2) else 16

theorem parNo (l : List UInt8) (h : notB l = false) : parV l = 0 ∧ parE l = 16 := by simp [parV, parE, h]
theorem parOk (l : List UInt8) (v : Int) (h : notB l = true) (g : Lib.parseIntB 32 l = .ok v) : parV l = v ∧ parE l = 0 := by simp [parV, parE, h, g]
theorem parRange (l : List UInt8) (h : notB l = true) (g : Lib.parseIntB 32 l = .range) : parV l = 0 ∧ parE l = 2 := by simp [parV, parE, h, g]

theorem uintM_digits (M : Nat) : ∀ (l : List UInt8) (acc : Nat), l.all isDig = true → (∃ u, Lib.parseUintM M acc l = .ok u) ∨ Lib.parseUintM M acc l = .range
  | [], acc, _ => Or.inl ⟨acc, rfl⟩
  | c :: r, acc, h => by
    rw [List.all_cons, Bool.and_eq_true] at h
    have hc : 48 ≤ c.toNat ∧ c.toNat ≤ 57 := by
      have := h.1; unfold isDig at this; rw [Bool.and_eq_true, decide_eq_true_eq, decide_eq_true_eq] at this; exact this
    unfold Lib.parseUintM
    rw [if_pos hc]
    split
    · exact Or.inr rfl
    · split
      · exact Or.inr rfl
      · exact uintM_digits M r _ h.2

theorem okOrRange (l : List UInt8) (h : notB l = true) : (∃ v, Lib.parseIntB 32 l = .ok v) ∨ Lib.parseIntB 32 l = .range := by
  unfold notB ndB at h
  rw [Bool.and_eq_true, Bool.and_eq_true] at h
  obtain ⟨⟨hne, hall⟩, _⟩ := h
  cases l with
  | nil => simp [Lib.trimPrefix, Lib.hasPrefix] at hne
  | cons c r =>
    by_cases hc : c = 45
    · subst hc
      have e : Lib.trimPrefix ((45 : UInt8) :: r) [45] = r := by simp [Lib.trimPrefix, Lib.hasPrefix]
      rw [e] at hne hall
      have hr : r ≠ [] := by intro hh; rw [hh] at hne; simp at hne
      unfold Lib.parseIntB Lib.parseUintB
      simp only [show (45 : UInt8).toNat = 45 from rfl, or_true, if_true, if_neg hr]
      rcases uintM_digits (2 ^ 32 - 1) r 0 hall with ⟨u, hu⟩ | hu
      · simp only [hu]
        split
        · exact Or.inr rfl
        · split
          · exact Or.inr rfl
          · exact Or.inl ⟨_, rfl⟩
      · simp only [hu]
        exact Or.inr trivial
    · have e : Lib.trimPrefix (c :: r) [45] = c :: r := by simp [Lib.trimPrefix, Lib.hasPrefix, Ne.symm hc]
      rw [e] at hne hall
      have hd := hall
      rw [List.all_cons, Bool.and_eq_true] at hd
      have hcd : 48 ≤ c.toNat ∧ c.toNat ≤ 57 := by
        have := hd.1; unfold isDig at this; rw [Bool.and_eq_true, decide_eq_true_eq, decide_eq_true_eq] at this; exact this
      have hn : ¬ (c.toNat = 43 ∨ c.toNat = 45) := by omega
      have hcons : ¬ (c :: r = []) := by simp
      unfold Lib.parseIntB Lib.parseUintB
      simp only [if_neg hn, if_neg hcons]
      rcases uintM_digits (2 ^ 32 - 1) (c :: r) 0 hall with ⟨u, hu⟩ | hu
      · simp only [hu]
        split
        · exact Or.inr rfl
        · split
          · exact Or.inr rfl
          · exact Or.inl ⟨_, rfl⟩
      · simp only [hu]
        exact Or.inr trivial

theorem pOk (s : ByteArray) (hs : s.size ≤ 281474976710656) (v : Int) (h : Lib.parseIntB 32 s.data.toList = .ok v) (w : World) :
    Calls Tryd.prog 49 #[.string s, .int .i64 10, .int .i64 32] w fun e w' => e = .returned (.tuple #[.int .i64 v, .nilIface]) ∧ Below w.heap.size w w' := by
  refine (Tryd.strconv_ParseInt_10_at32_ok s (by omega) v h w).mono ?_
  rintro e w' ⟨rfl, rfl | ⟨t, rfl⟩⟩
  · exact ⟨rfl, Below.refl _ _⟩
  · exact ⟨rfl, Lib.bytesWorld_below _ _ _⟩

theorem pRange (s : ByteArray) (hs : s.size ≤ 281474976710656) (h : Lib.parseIntB 32 s.data.toList = .range) (tp : TypeId) (p : Value) (w : World) (hvar : w.var? Tryd.prog "strconv.ErrRange" = some #[.iface tp p]) :
    Calls Tryd.prog 49 #[.string s, .int .i64 10, .int .i64 32] w fun e w' => ∃ N x, e = .returned (.tuple #[.int .i64 x, .iface 88 (.pointer (some ⟨N, 0, none⟩))]) ∧ Below w.heap.size w w' := by
  refine (Tryd.strconv_ParseInt_10_at32_range_var s hs h tp p w hvar).mono ?_
  rintro e w' ⟨N, rfl, _, _, hb⟩
  exact ⟨N, _, rfl, hb⟩

theorem trimSize (s : ByteArray) : (⟨(Lib.trimPrefix s.data.toList [45]).toArray⟩ : ByteArray).size ≤ s.size := by
  show (Lib.trimPrefix s.data.toList [45]).toArray.size ≤ s.size
  rw [List.size_toArray]
  unfold Lib.trimPrefix
  split
  · rw [List.length_drop, sizeD]; omega
  · rw [sizeD]; exact Nat.le_refl _

/-- value.isNotation, in the words of the text alone. -/
theorem vIs (s : ByteArray) (b : Bool) (hb : notB s.data.toList = b) (hs : s.size ≤ 281474976710656) (w : World) :
    Calls Tryd.prog 48 #[.string s] w fun e w' => e = .returned (.bool b) ∧ w = w' := by
  subst hb
  have ht := trimSize s
  exact vNot s ⟨(Lib.trimPrefix s.data.toList [45]).toArray⟩ (Lib.hasPrefix s.data.toList [45]) rfl rfl (by omega) w

theorem retP {a b c d : Int} (h : a = b ∧ c = d) : Ending.returned (.tuple #[.int .i64 b, .int .i64 d]) = .returned (.tuple #[.int .i64 a, .int .i64 c]) := by rw [h.1, h.2]

set_option maxHeartbeats 1000000 in
theorem vParse (s : ByteArray) (hs : s.size ≤ 281474976710656) (tp : TypeId) (p : Value) (w : World) (hvar : w.var? Tryd.prog "strconv.ErrRange" = some #[.iface tp p]) :
    Calls Tryd.prog 32 #[.string s] w fun e w' => e = .returned (.tuple #[.int .i64 (parV s.data.toList), .int .i64 (parE s.data.toList)]) ∧ Below w.heap.size w w' := by
  have HV := Lib.hid hvar; clear hvar
  cases hn : notB s.data.toList with
  | false =>
    have HN := Lib.hid hn; clear hn
    go_enter Tryd.func32, Tryd.ntmps32
    go_wp2_with (go_at_call 48; refine (vIs _ _ HN.out hs _).mono ?_; rintro e w' ⟨rfl, rfl⟩)
    go_ret2
    exact ⟨retP (parNo _ HN.out), Below.refl _ _⟩
  | true =>
    rcases okOrRange _ hn with ⟨v, hp⟩ | hp
    · have HN := Lib.hid hn; clear hn
      have HP := Lib.hid hp; clear hp
      go_enter Tryd.func32, Tryd.ntmps32
      go_wp2_with (first
        | (go_at_call 48; refine (vIs _ _ HN.out hs _).mono ?_; rintro e w' ⟨rfl, rfl⟩)
        | (go_at_call 49; refine (pOk _ hs _ HP.out _).mono ?_; rintro e w' ⟨rfl, hb⟩))
      go_ret2
      exact ⟨retP (parOk _ _ HN.out HP.out), hb⟩
    · have HN := Lib.hid hn; clear hn
      have HP := Lib.hid hp; clear hp
      go_enter Tryd.func32, Tryd.ntmps32
      go_wp2_with (first
        | (go_at_call 48; refine (vIs _ _ HN.out hs _).mono ?_; rintro e w' ⟨rfl, rfl⟩)
        | (go_at_call 49; refine (pRange _ hs HP.out _ _ _ HV.out).mono ?_; rintro e w' ⟨N, x, rfl, hb⟩))
      go_ret2
      exact ⟨retP (parRange _ HN.out HP.out), hb⟩
end Go.Proofs.YtnlhkeobfidjkaaDoor
