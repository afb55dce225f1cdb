/-
  The contracts of the functions that name operations and orders, of the program and of the specification.
-/
import Derived.Test.YtcecnkpdaaojeaaDoorInsF
namespace Go.Proofs.YtcecnkpdaaojeaaDoor
open Go.RowKit

theorem mnAt {m : Nat} (hm : m < 22) : (mnTab.drop 1)[m]'(by simpa [mnTab] using hm) = mn (m + 1) := by
  unfold mn
  rw [List.getD_eq_getElem?_getD, List.getElem?_eq_getElem (show m + 1 < mnTab.length by simp [mnTab]; omega)]
  simp
theorem mnOfAt (m : Nat) (hm : m < 22) : mnOf ((m : Int) + 1) = mn (m + 1) := by
  unfold mnOf
  rw [if_pos (by simp [opOk]; omega)]
  congr 1
theorem mnOfNo {o : Int} (h : opOk o = false) : mnOf o = ⟨#[]⟩ := by unfold mnOf; rw [h]; rfl
theorem orOfAt (m : Nat) (hm : m < 3) : ornOf (m : Int) = orn m := by
  unfold ornOf
  rw [if_pos (by simp [orOk]; omega)]
  congr 1
theorem orOfNo {o : Int} (h : orOk o = false) : ornOf o = ⟨#[]⟩ := by unfold ornOf; rw [h]; rfl

theorem iMnem (o : Int) (r : ByteArray) (hr : mnOf o = r) (w : World) (hT : InsT w) :
    Calls Tryd.prog 51 #[.int .i64 o] w fun e w' => e = .returned (.string r) ∧ w = w' := by
  subst hr
  cases h : opOk o with
  | false =>
    have HE := Lib.hid (mnOfNo h)
    go_enter Tryd.func51, Tryd.ntmps51
    go_wp2_with (go_at_call 80; refine (iIsOp _ _).mono ?_; rintro e w' ⟨rfl, rfl⟩; rw [h])
    go_ret
    exact ⟨retS HE.out.symm, rfl⟩
  | true =>
    have h' := h
    simp only [opOk, decide_eq_true_eq] at h'
    obtain ⟨m, rfl⟩ : ∃ m : Nat, o = (m : Int) + 1 := ⟨(o - 1).toNat, by omega⟩
    obtain ⟨k, hk⟩ : ∃ k, m + 1 = k := ⟨_, rfl⟩
    have hkk : ((m : Int) + 1) = (k : Int) := by omega
    have hc := hT.nm k (by omega)
    have HE := Lib.hid ((mnOfAt m (by omega)).trans (by rw [hk]))
    rw [hkk] at HE h ⊢
    have hk0 : (0 : Int) ≤ k := by omega
    have hk23 : (k : Int) < 23 := by omega
    have hkn : (k : Int).toNat = k := by omega
    go_enter Tryd.func51, Tryd.ntmps51
    go_wp2_with (go_at_call 80; refine (iIsOp _ _).mono ?_; rintro e w' ⟨rfl, rfl⟩; rw [h])
    go_ret
    exact ⟨retS HE.out.symm, rfl⟩

theorem rMnem (o : Int) (r : ByteArray) (hr : mnOf o = r) (w : World) :
    Calls Tryd.prog 52 #[.int .i64 o] w fun e w' => e = .returned (.string r) ∧ Below w.heap.size w w' := by
  subst hr
  by_cases h1 : o < 1
  · have HE := Lib.hid (mnOfNo (o := o) (by simp [opOk]; omega))
    go_enter Tryd.func52, Tryd.ntmps52
    go_wp2
    go_ret
    exact ⟨retS HE.out.symm, Below.refl _ _⟩
  · by_cases h2 : 22 < o
    · have HE := Lib.hid (mnOfNo (o := o) (by simp [opOk]; omega))
      have h3 : 1 ≤ o := by omega
      clear h1
      go_enter Tryd.func52, Tryd.ntmps52
      go_wp2
      go_ret
      exact ⟨retS HE.out.symm, Below.refl _ _⟩
    · obtain ⟨m, rfl⟩ : ∃ m : Nat, o = (m : Int) + 1 := ⟨(o - 1).toNat, by omega⟩
      have hm : m < 22 := by omega
      have HE := Lib.hid (mnOfAt m hm)
      have HA := Lib.hid (mnAt hm)
      have hwr : IntKind.i64.wrap ((m : Int) + 1 - 1) = m := by rw [show (m : Int) + 1 - 1 = m by omega]; exact IntWalk.i64_in _ (by omega)
      clear h1 h2
      go_enter Tryd.func52, Tryd.ntmps52
      go_wp2_with fail
      refine (rNames _).mono ?_
      rintro e w1 ⟨A, cp, rfl, hr, hb⟩
      obtain ⟨ad, rfl, hcell⟩ := strsAt hr (k := m) (by simpa [mnTab] using hm)
      rw [HA.out] at hcell
      clear hr
      go_wp2
      go_ret
      exact ⟨retS HE.out.symm, hb⟩

theorem iOrd (o : Int) (r : ByteArray) (hr : ornOf o = r) (w : World) (hT : OrT w) :
    Calls Tryd.prog 53 #[.int .i64 o] w fun e w' => e = .returned (.string r) ∧ w = w' := by
  subst hr
  cases h : orOk o with
  | false =>
    have HE := Lib.hid (orOfNo h)
    go_enter Tryd.func53, Tryd.ntmps53
    go_wp2_with (go_at_call 83; refine (iIsOrd _ _).mono ?_; rintro e w' ⟨rfl, rfl⟩; rw [h])
    go_ret
    exact ⟨retS HE.out.symm, rfl⟩
  | true =>
    have h' := h
    simp only [orOk, decide_eq_true_eq] at h'
    obtain ⟨k, rfl⟩ : ∃ m : Nat, o = (m : Int) := ⟨o.toNat, by omega⟩
    have hc := hT k (by omega)
    have HE := Lib.hid (orOfAt k (by omega))
    have hk0 : (0 : Int) ≤ k := by omega
    have hk23 : (k : Int) < 3 := by omega
    have hkn : (k : Int).toNat = k := by omega
    go_enter Tryd.func53, Tryd.ntmps53
    go_wp2_with (go_at_call 83; refine (iIsOrd _ _).mono ?_; rintro e w' ⟨rfl, rfl⟩; rw [h])
    go_ret
    exact ⟨retS HE.out.symm, rfl⟩

theorem rOrd (o : Int) (r : ByteArray) (hr : ornOf o = r) (w : World) :
    Calls Tryd.prog 54 #[.int .i64 o] w fun e w' => e = .returned (.string r) ∧ Below w.heap.size w w' := by
  subst hr
  by_cases h1 : o < 0
  · have HE := Lib.hid (orOfNo (o := o) (by simp [orOk]; omega))
    go_enter Tryd.func54, Tryd.ntmps54
    go_wp2
    go_ret
    exact ⟨retS HE.out.symm, Below.refl _ _⟩
  · by_cases h2 : 2 < o
    · have HE := Lib.hid (orOfNo (o := o) (by simp [orOk]; omega))
      have h3 : 0 ≤ o := by omega
      clear h1
      go_enter Tryd.func54, Tryd.ntmps54
      go_wp2
      go_ret
      exact ⟨retS HE.out.symm, Below.refl _ _⟩
    · have hb := belowAlloc w (.cells (strs orTab).toArray 9)
      have ho : o = 0 ∨ o = 1 ∨ o = 2 := by omega
      clear h1 h2
      rcases ho with rfl | rfl | rfl
      all_goals (
        go_enter Tryd.func54, Tryd.ntmps54
        go_wp2
        go_ret
        exact ⟨rfl, hb⟩)

/-- The operation of a name, or none. -/
theorem iByMn (s : ByteArray) (k : Int) (b : Bool) (h : FndT mn 1 22 s k b) (w : World) (hT : InsT w) :
    Calls Tryd.prog 43 #[.string s] w fun e w' => e = .returned (.tuple #[.int .i64 k, .bool b]) ∧ w = w' := by
  have HF : Hid (∀ k' b', FndT mn 1 22 s k' b' → k' = k ∧ b' = b) := Lib.hid fun k' b' h' => h'.one mnInjT h
  have HT := Lib.hid hT; clear hT h
  go_enter Tryd.func43, Tryd.ntmps43
  go_wp2_with fail
  go_loop [2, 3, 4] (fun r b i => ∃ j : Nat, 1 ≤ j ∧ j ≤ 23 ∧ r = .int .i64 0 ∧ b = .bool false ∧ i = .int .i64 j ∧ Hid (NotT mn 1 s j)) (fun _ _ i => 23 - (intOf i).toNat)
  case atStart => exact ⟨1, Nat.le_refl _, by omega, rfl, rfl, rfl, Lib.hid (NotT.start mn 1 s)⟩
  case round =>
    obtain ⟨j, hj1, hj, rfl, rfl, rfl, HD⟩ := hrel
    by_cases hlt : j < 23
    · have hc := HT.out.nm j hlt
      have ho : opOk (j : Int) = true := by simp [opOk]; omega
      have hk0 : (0 : Int) ≤ j := by omega
      have hk23 : (j : Int) < 23 := by omega
      have hkn : (j : Int).toNat = j := by omega
      go_wp2_with (go_at_call 80; refine (iIsOp _ _).mono ?_; rintro e w' ⟨rfl, rfl⟩; rw [ho])
      · go_ret2
        have h : ((mn j).toList == s.toList) = true := by assumption
        obtain ⟨rfl, rfl⟩ := HF.out _ _ (NotT.hit hj1 (by omega) h)
        exact ⟨rfl, rfl⟩
      · have h : ((mn j).toList == s.toList) = false := by assumption
        refine ⟨⟨j + 1, by omega, by omega, rfl, rfl, by go_num, Lib.hid (HD.out.succ h)⟩, by simp [intOf]; omega⟩
    · obtain rfl : j = 23 := by omega
      have ho : opOk ((23 : Nat) : Int) = false := by decide
      go_wp2_with (go_at_call 80; refine (iIsOp _ _).mono ?_; rintro e w' ⟨rfl, rfl⟩; first | rw [ho] | rw [show opOk 23 = false by decide])
      go_ret2
      obtain ⟨rfl, rfl⟩ := HF.out _ _ HD.out.all
      exact ⟨rfl, rfl⟩

theorem rByMn (s : ByteArray) (k : Int) (b : Bool) (h : FndT mn 1 22 s k b) (w : World) :
    Calls Tryd.prog 44 #[.string s] w fun e w' => e = .returned (.tuple #[.int .i64 k, .bool b]) ∧ Below w.heap.size w w' := by
  have HF : Hid (∀ k' b', FndT mn 1 22 s k' b' → k' = k ∧ b' = b) := Lib.hid fun k' b' h' => h'.one mnInjT h
  clear h
  go_enter Tryd.func44, Tryd.ntmps44
  go_wp2_with fail
  refine (rNames _).mono ?_
  rintro e w1 ⟨A, cp, rfl, hr, hb⟩
  have HR := Lib.hid hr; clear hr
  go_wp2_with fail
  go_loop [2, 3, 5] (fun r b i => ∃ j : Nat, j ≤ 22 ∧ r = .int .i64 0 ∧ b = .bool false ∧ i = .int .i64 j ∧ Hid (NotT mn 1 s (j + 1))) (fun _ _ i => 22 - (intOf i).toNat)
  case atStart => exact ⟨0, by omega, rfl, rfl, rfl, Lib.hid (NotT.start mn 1 s)⟩
  case round =>
    obtain ⟨j, hj, rfl, rfl, rfl, HD⟩ := hrel
    by_cases hlt : j < 22
    · obtain ⟨ad, rfl, hc⟩ := strsAt HR.out (k := j) (by simpa [mnTab] using hlt)
      rw [mnAt hlt] at hc
      go_wp2
      · go_ret2
        have h : ((mn (j + 1)).toList == s.toList) = true := by assumption
        obtain ⟨e1, rfl⟩ := HF.out _ _ (NotT.hit (by omega) (by omega) h)
        rw [← e1]
        exact ⟨rfl, hb⟩
      · have h : ((mn (j + 1)).toList == s.toList) = false := by assumption
        refine ⟨⟨j + 1, by omega, rfl, rfl, by go_num, Lib.hid (HD.out.succ h)⟩, by simp [intOf]; omega⟩
    · obtain rfl : j = 22 := by omega
      go_wp2
      go_ret2
      obtain ⟨rfl, rfl⟩ := HF.out _ _ HD.out.all
      exact ⟨rfl, hb⟩

theorem iByOr (s : ByteArray) (k : Int) (b : Bool) (h : FndT orn 0 2 s k b) (w : World) (hT : OrT w) :
    Calls Tryd.prog 45 #[.string s] w fun e w' => e = .returned (.tuple #[.int .i64 k, .bool b]) ∧ w = w' := by
  have HF : Hid (∀ k' b', FndT orn 0 2 s k' b' → k' = k ∧ b' = b) := Lib.hid fun k' b' h' => h'.one orInjT h
  have HT := Lib.hid hT; clear hT h
  go_enter Tryd.func45, Tryd.ntmps45
  go_wp2_with fail
  go_loop [2, 3, 4] (fun r b i => ∃ j : Nat, j ≤ 3 ∧ r = .int .i64 0 ∧ b = .bool false ∧ i = .int .i64 j ∧ Hid (NotT orn 0 s j)) (fun _ _ i => 3 - (intOf i).toNat)
  case atStart => exact ⟨0, by omega, rfl, rfl, rfl, Lib.hid (NotT.start orn 0 s)⟩
  case round =>
    obtain ⟨j, hj, rfl, rfl, rfl, HD⟩ := hrel
    by_cases hlt : j < 3
    · have hc := HT.out j hlt
      have ho : orOk (j : Int) = true := by simp [orOk]; omega
      have hk0 : (0 : Int) ≤ j := by omega
      have hk23 : (j : Int) < 3 := by omega
      have hkn : (j : Int).toNat = j := by omega
      go_wp2_with (go_at_call 83; refine (iIsOrd _ _).mono ?_; rintro e w' ⟨rfl, rfl⟩; rw [ho])
      · go_ret2
        have h : ((orn j).toList == s.toList) = true := by assumption
        obtain ⟨rfl, rfl⟩ := HF.out _ _ (NotT.hit (Nat.zero_le _) (by omega) h)
        exact ⟨rfl, rfl⟩
      · have h : ((orn j).toList == s.toList) = false := by assumption
        refine ⟨⟨j + 1, by omega, rfl, rfl, by go_num, Lib.hid (HD.out.succ h)⟩, by simp [intOf]; omega⟩
    · obtain rfl : j = 3 := by omega
      have ho : orOk ((3 : Nat) : Int) = false := by decide
      go_wp2_with (go_at_call 83; refine (iIsOrd _ _).mono ?_; rintro e w' ⟨rfl, rfl⟩; first | rw [ho] | rw [show orOk 3 = false by decide])
      go_ret2
      obtain ⟨rfl, rfl⟩ := HF.out _ _ HD.out.all
      exact ⟨rfl, rfl⟩

theorem rByOr (s : ByteArray) (k : Int) (b : Bool) (h : FndT orn 0 2 s k b) (w : World) :
    Calls Tryd.prog 46 #[.string s] w fun e w' => e = .returned (.tuple #[.int .i64 k, .bool b]) ∧ Below w.heap.size w w' := by
  have HF : Hid (∀ k' b', FndT orn 0 2 s k' b' → k' = k ∧ b' = b) := Lib.hid fun k' b' h' => h'.one orInjT h
  clear h
  go_enter Tryd.func46, Tryd.ntmps46
  go_wp2_with fail
  go_loopw [2, 3, 4] (fun r b i wr => ∃ j : Nat, j ≤ 3 ∧ r = .int .i64 0 ∧ b = .bool false ∧ i = .int .i64 j ∧ Hid (NotT orn 0 s j) ∧ Below w.heap.size w wr) (fun _ _ i _ => 3 - (intOf i).toNat)
  case atStart => exact ⟨0, by omega, rfl, rfl, rfl, Lib.hid (NotT.start orn 0 s), Below.refl _ _⟩
  case round =>
    obtain ⟨j, hj, rfl, rfl, rfl, HD, hb⟩ := hrel
    by_cases hlt : j < 3
    · go_wp2_with (go_at_call 54; refine (rOrd _ (orn j) (orOfAt j hlt) _).mono ?_; rintro e w2 ⟨rfl, b2⟩)
      · have B2 := belowThen hb b2
        go_ret2
        have h : ((orn j).toList == s.toList) = true := by assumption
        obtain ⟨rfl, rfl⟩ := HF.out _ _ (NotT.hit (Nat.zero_le _) (by omega) h)
        exact ⟨rfl, B2⟩
      · have B2 := belowThen hb b2
        have h : ((orn j).toList == s.toList) = false := by assumption
        go_roundw
        case rel => exact ⟨j + 1, by omega, rfl, rfl, by go_num, Lib.hid (HD.out.succ h), B2⟩
        case measure => simp [intOf]; omega
    · obtain rfl : j = 3 := by omega
      go_wp2
      go_ret2
      obtain ⟨rfl, rfl⟩ := HF.out _ _ HD.out.all
      exact ⟨rfl, hb⟩
end Go.Proofs.YtcecnkpdaaojeaaDoor
