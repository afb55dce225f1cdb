/-
  The contract of the specification's Notation: it tells whether a text is the decimal notation of an integer.
-/
import Derived.Test.YtnlhkeobfidjkaaDoorExample
namespace Go.Proofs.YtnlhkeobfidjkaaDoor
open Go.RowKit

theorem extract1 (s : ByteArray) : (s.extract 1 s.size).data.toList = s.data.toList.drop 1 := by
  rw [Lib.extract_data]
  exact List.take_of_length_le (by rw [List.length_drop, sizeD]; omega)
theorem consOf (s : ByteArray) (h0 : 0 < s.size) : s.data.toList = s[0] :: s.data.toList.drop 1 := by
  cases hc : s.data.toList with
  | nil => have := sizeD s; rw [hc] at this; simp at this; omega
  | cons a b =>
    have h := getD' s 0 h0
    rw [hc] at h
    simp at h
    rw [← h]; rfl
theorem notMinus (s : ByteArray) (h0 : 0 < s.size) (hm : ((s[0].toNat : Int) == 45) = true) : notB s.data.toList = ndB (s.extract 1 s.size).data.toList true := by
  have e : s[0] = 45 := UInt8.toNat_inj.mp (by rw [beq_iff_eq] at hm; rw [show (45 : UInt8).toNat = 45 from rfl]; omega)
  rw [extract1]
  unfold notB
  have hc := consOf s h0
  rw [e] at hc
  generalize s.data.toList.drop 1 = r at hc
  rw [hc]
  simp [Lib.trimPrefix, Lib.hasPrefix]
theorem notPlain (s : ByteArray) (h0 : 0 < s.size) (hm : ((s[0].toNat : Int) == 45) = false) : notB s.data.toList = ndB s.data.toList false := by
  have e : s[0] ≠ 45 := by intro h; rw [h] at hm; exact absurd hm (by decide)
  unfold notB
  have hc := consOf s h0
  generalize s.data.toList.drop 1 = r at hc
  generalize s[0] = c at hc e
  have hb : Lib.hasPrefix (c :: r) [45] = false := by
    simp [Lib.hasPrefix, List.isPrefixOf, Ne.symm e]
  rw [hc]
  unfold Lib.trimPrefix
  rw [hb]
  rfl
theorem notZero (s : ByteArray) (h : (s.toList == [48]) = true) : notB s.data.toList = true := by
  rw [beq_iff_eq, Lib.toList_data] at h
  rw [h]; decide
theorem notNil (s : ByteArray) (h : s.toList = []) : notB s.data.toList = false := by
  rw [Lib.toList_data] at h
  rw [h]; decide

theorem nd48 (D : ByteArray) (h : 0 < D.size) (h0 : ((D[0].toNat : Int) == 48) = true) (ng : Bool) (h1 : D.size ≠ 1 ∨ ng = true) : ndB D.data.toList ng = false := by
  have e : D[0] = 48 := UInt8.toNat_inj.mp (by rw [beq_iff_eq] at h0; rw [show (48 : UInt8).toNat = 48 from rfl]; omega)
  unfold ndB
  rw [head0 D h, e, sizeD]
  rcases h1 with h1 | h1
  · have : (D.size == 1) = false := by simpa using h1
    rw [this]; simp
  · rw [h1]; simp
theorem nd3' (D : ByteArray) (ng : Bool) (h : 0 < D.size) (hd : dg D.data.toList D.size) (h0 : ((D[0].toNat : Int) == 48) = false) : ndB D.data.toList ng = true :=
  nd3 D ng h hd (by simpa using h0)

theorem rNot0 (s : ByteArray) (h : (s.toList == [48]) = true) (w : World) :
    Calls Tryd.prog 50 #[.string s] w fun e w' => e = .returned (.bool (notB s.data.toList)) ∧ w = w' := by
  have HE := Lib.hid (notZero s h)
  go_enter Tryd.func50, Tryd.ntmps50
  go_wp2
  go_ret
  exact ⟨retB HE.out.symm, rfl⟩
theorem rNotE (s : ByteArray) (h : s.toList = []) (hz : ¬ 0 < s.size) (w : World) :
    Calls Tryd.prog 50 #[.string s] w fun e w' => e = .returned (.bool (notB s.data.toList)) ∧ w = w' := by
  have HE := Lib.hid (notNil s h)
  go_enter Tryd.func50, Tryd.ntmps50
  go_wp2
  go_ret
  exact ⟨retB HE.out.symm, rfl⟩

set_option maxHeartbeats 1000000 in
theorem rNotM (s T : ByteArray) (b : Bool) (hT : s.extract 1 s.size = T) (hb : ndB T.data.toList true = b) (h0 : 0 < s.size) (hs : s.size ≤ 281474976710656) (hm : ((s[0].toNat : Int) == 45) = true) (w : World) :
    Calls Tryd.prog 50 #[.string s] w fun e w' => e = .returned (.bool b) ∧ w = w' := by
  have HB := Lib.hid hb; clear hb
  have hne : (s.toList == [48]) = false := by
    rw [beq_eq_false_iff_ne, Lib.toList_data]
    intro h
    have h' := getD' s 0 h0
    rw [h] at h'
    simp at h'
    rw [← h'] at hm
    exact absurd hm (by decide)
  have hts : T.size = s.size - 1 := by
    have := congrArg List.length (extract1 s)
    rw [hT, sizeD, List.length_drop, sizeD] at this
    exact this
  by_cases hz : T.size = 0
  · have he : T.toList = [] := by
      rw [Lib.toList_data]; exact List.eq_nil_of_length_eq_zero (by rw [sizeD]; exact hz)
    have he' : (s.extract 1 s.size).toList = [] := by rw [hT]; exact he
    have HE : Hid (ndB T.data.toList true = false) := Lib.hid (ndEmpty T true (by rw [he]; rfl))
    clear hT hts hz he
    go_enter Tryd.func50, Tryd.ntmps50
    go_wp2
    go_ret
    exact ⟨retB (HE.out.symm.trans HB.out), rfl⟩
  · have hp : 0 < T.size := by omega
    have hp1 : 0 < s.size - 1 := by omega
    have hT2 : T.size ≤ 281474976710656 := by omega
    have he : T.toList.isEmpty = false := by
      rw [Lib.toList_data, List.isEmpty_eq_false_iff]
      intro hc; have := sizeD T; rw [hc] at this; simp at this; omega
    have he3 : (s.extract 1 s.size).toList.isEmpty = false := by rw [hT]; exact he
    have he2 : ¬ (s.extract 1 s.size).toList = [] := by
      intro hc; rw [hc] at he3; simp at he3
    have HT := Lib.hid hT; clear hT hts hz
    go_enter Tryd.func50, Tryd.ntmps50
    go_wp2
    · go_ret
      have hsz : 0 < (s.extract 1 s.size).size := by rw [HT.out]; exact hp
      have hx : (((s.extract 1 s.size)[0].toNat : Int) == 48) = true := by assumption
      simp only [HT.out] at hx
      exact ⟨retB ((nd48 T hp hx true (Or.inr rfl)).symm.trans HB.out), rfl⟩
    · have hsz : 0 < (s.extract 1 s.size).size := by rw [HT.out]; exact hp
      have hx : (((s.extract 1 s.size)[0].toNat : Int) == 48) = false := by assumption
      have HX : Hid (((T[0].toNat : Int) == 48) = false) := Lib.hid (by simpa only [HT.out] using hx)
      simp only [HT.out]
      clear hx
      clear hsz he2 he3
      go_loop [2, 3] (fun r i => ∃ k : Nat, k ≤ T.size ∧ r = .bool false ∧ i = .int .i64 k ∧ dg T.data.toList k) (fun _ i => T.size - (intOf i).toNat)
      case atStart => exact ⟨0, Nat.zero_le _, rfl, rfl, rfl⟩
      case round =>
        obtain ⟨k, hk, rfl, rfl, hd⟩ := hrel
        have HA := Lib.hid hd; clear hd
        by_cases hlt : k < T.size
        · go_wp2
          · go_ret
            exact ⟨retB ((ndBad T true k hlt (by assumption)).symm.trans HB.out), rfl⟩
          · have hx : 48 ≤ (T[k].toNat : Int) ∧ (T[k].toNat : Int) ≤ 57 := by assumption
            exact ⟨⟨k + 1, by omega, rfl, by go_num, dgSucc T k hlt HA.out hx.1 hx.2⟩, by simp [intOf]; omega⟩
          · go_ret
            exact ⟨retB ((ndBad T true k hlt (Or.inl (by assumption))).symm.trans HB.out), rfl⟩
        · obtain rfl : k = T.size := by omega
          go_wp2
          go_ret
          exact ⟨retB ((nd3' T true hp HA.out HX.out).symm.trans HB.out), rfl⟩

set_option maxHeartbeats 1000000 in
theorem rNotP (s : ByteArray) (b : Bool) (hb : ndB s.data.toList false = b) (hp : 0 < s.size) (hs : s.size ≤ 281474976710656) (hm : ((s[0].toNat : Int) == 45) = false) (hne : (s.toList == [48]) = false) (w : World) :
    Calls Tryd.prog 50 #[.string s] w fun e w' => e = .returned (.bool b) ∧ w = w' := by
  have HB := Lib.hid hb; clear hb
  have he : s.toList.isEmpty = false := by
    rw [Lib.toList_data, List.isEmpty_eq_false_iff]
    intro hc; have := sizeD s; rw [hc] at this; simp at this; omega
  have he2 : ¬ s.toList = [] := by
    intro hc; rw [hc] at he; simp at he
  by_cases hz : ((s[0].toNat : Int) == 48) = true
  · have h1 : s.size ≠ 1 := by
      intro h1
      have e : s[0] = 48 := UInt8.toNat_inj.mp (by rw [beq_iff_eq] at hz; rw [show (48 : UInt8).toNat = 48 from rfl]; omega)
      have hc := consOf s hp
      have hd : s.data.toList.drop 1 = [] := List.eq_nil_of_length_eq_zero (by rw [List.length_drop, sizeD]; omega)
      rw [hd, e] at hc
      rw [Lib.toList_data, hc] at hne
      exact absurd hne (by decide)
    have HZ := Lib.hid (nd48 s hp hz false (Or.inl h1))
    go_enter Tryd.func50, Tryd.ntmps50
    go_wp2
    go_ret
    exact ⟨retB (HZ.out.symm.trans HB.out), rfl⟩
  · have hx : ((s[0].toNat : Int) == 48) = false := by simpa using hz
    have HX := Lib.hid hx
    clear hz
    go_enter Tryd.func50, Tryd.ntmps50
    go_wp2
    go_loop [2, 3] (fun r i => ∃ k : Nat, k ≤ s.size ∧ r = .bool false ∧ i = .int .i64 k ∧ dg s.data.toList k) (fun _ i => s.size - (intOf i).toNat)
    case atStart => exact ⟨0, Nat.zero_le _, rfl, rfl, rfl⟩
    case round =>
      obtain ⟨k, hk, rfl, rfl, hd⟩ := hrel
      have HA := Lib.hid hd; clear hd
      by_cases hlt : k < s.size
      · go_wp2
        · go_ret
          exact ⟨retB ((ndBad s false k hlt (by assumption)).symm.trans HB.out), rfl⟩
        · have hx : 48 ≤ (s[k].toNat : Int) ∧ (s[k].toNat : Int) ≤ 57 := by assumption
          exact ⟨⟨k + 1, by omega, rfl, by go_num, dgSucc s k hlt HA.out hx.1 hx.2⟩, by simp [intOf]; omega⟩
        · go_ret
          exact ⟨retB ((ndBad s false k hlt (Or.inl (by assumption))).symm.trans HB.out), rfl⟩
      · obtain rfl : k = s.size := by omega
        go_wp2
        go_ret
        exact ⟨retB ((nd3' s false hp HA.out HX.out).symm.trans HB.out), rfl⟩

theorem rNotIs (s : ByteArray) (b : Bool) (hb : notB s.data.toList = b) (hs : s.size ≤ 281474976710656) (w : World) :
    Calls Tryd.prog 50 #[.string s] w fun e w' => e = .returned (.bool b) ∧ w = w' := by
  cases h : (s.toList == [48]) with
  | true => rw [← hb]; exact rNot0 s h w
  | false =>
    by_cases h0 : 0 < s.size
    · cases hm : ((s[0].toNat : Int) == 45) with
      | true => exact rNotM s _ b rfl (by rw [← hb, notMinus s h0 hm]) h0 hs hm w
      | false => exact rNotP s b (by rw [← hb, notPlain s h0 hm]) h0 hs hm h w
    · rw [← hb]
      exact rNotE s (by rw [Lib.toList_data]; exact List.eq_nil_of_length_eq_zero (by rw [sizeD]; omega)) h0 w
end Go.Proofs.YtnlhkeobfidjkaaDoor
