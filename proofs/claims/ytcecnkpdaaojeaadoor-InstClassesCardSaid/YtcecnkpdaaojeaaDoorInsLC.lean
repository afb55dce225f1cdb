/-
  The law InstClasses returns true for every two operations and every order, where the tables are laid; nothing that was in memory changes.
-/
import Derived.Test.YtcecnkpdaaojeaaDoorInsLN
namespace Go.Proofs.YtcecnkpdaaojeaaDoor
open Go Go.RowKit

theorem mnFullB (m : Nat) (hm : m < 22) : (mn (m + 1)).toList.isEmpty = false := by
  rw [bytesData, List.isEmpty_eq_false_iff]; exact mnFull (m + 1) (by omega) (by omega)
theorem mnDiff {a b : Int} (ha : opOk a = true) (hab : a ≠ b) : ((mnOf a).toList == (mnOf b).toList) = false := by
  simp only [opOk, decide_eq_true_eq] at ha
  obtain ⟨m, rfl⟩ : ∃ m : Nat, a = (m : Int) + 1 := ⟨(a - 1).toNat, by omega⟩
  rw [mnOfAt m (by omega)]
  cases hb : opOk b with
  | false =>
    rw [mnOfNo hb, beq_eq_false_iff_ne]
    intro e
    have := mnFullB m (by omega)
    rw [e] at this
    rw [bytesData] at this
    exact absurd this (by decide)
  | true =>
    simp only [opOk, decide_eq_true_eq] at hb
    obtain ⟨k, rfl⟩ : ∃ m : Nat, b = (m : Int) + 1 := ⟨(b - 1).toNat, by omega⟩
    rw [mnOfAt k (by omega), beq_eq_false_iff_ne]
    intro e
    have := mnInjT (m + 1) (k + 1) (by omega) (by omega) (by omega) (by omega) e
    omega
theorem mnSelf {a : Int} (ha : opOk a = true) : FndT mn 1 22 (mnOf a) a true := by
  simp only [opOk, decide_eq_true_eq] at ha
  obtain ⟨m, rfl⟩ : ∃ m : Nat, a = (m : Int) + 1 := ⟨(a - 1).toNat, by omega⟩
  rw [mnOfAt m (by omega)]
  exact FndT.self mn (by omega) (by omega)
theorem orSelf {o : Int} (ho : orOk o = true) : FndT orn 0 2 (ornOf o) o true := by
  simp only [orOk, decide_eq_true_eq] at ho
  obtain ⟨m, rfl⟩ : ∃ m : Nat, o = (m : Int) := ⟨o.toNat, by omega⟩
  rw [orOfAt m (by omega)]
  exact FndT.self orn (by omega) (by omega)
theorem mnOut {a : Int} (ha : opOk a = false) : FndT mn 1 22 (mnOf a) 0 false := by rw [mnOfNo ha]; exact mnNone _ rfl
theorem orOut {o : Int} (ho : orOk o = false) : FndT orn 0 2 (ornOf o) 0 false := by rw [orOfNo ho]; exact orNone _ rfl

theorem mnNonempty {a : Int} (ha : opOk a = true) : (mnOf a).toList.isEmpty = false := by
  simp only [opOk, decide_eq_true_eq] at ha
  obtain ⟨m, rfl⟩ : ∃ m : Nat, a = (m : Int) + 1 := ⟨(a - 1).toNat, by omega⟩
  rw [mnOfAt m (by omega)]
  exact mnFullB m (by omega)
set_option maxRecDepth 100000 in
set_option maxHeartbeats 1000000 in
theorem classesneinC (a b o : Int) (w : World) (hL : Laid8 w) (ha : opOk a = true) (hab : a ≠ b) (ho : orOk o = true) :
    Calls Tryd.prog 14 #[.int .i64 a, .int .i64 b, .int .i64 o] w (LawOk7 w) := by
  have ha' := ha
  simp only [opOk, decide_eq_true_eq] at ha'
  obtain ⟨ha1, ha2⟩ := ha'
  obtain ⟨s, hs⟩ : ∃ s, mnOf a = s := ⟨_, rfl⟩
  have he : s.toList.isEmpty = false := by rw [← hs]; exact mnNonempty ha
  have HX : Hid (FndT mn 1 22 s a true) := Lib.hid (by rw [← hs]; exact mnSelf ha)
  obtain ⟨t, ht⟩ : ∃ t, mnOf b = t := ⟨_, rfl⟩
  have hst : (s.toList == t.toList) = false := by rw [← hs, ← ht]; exact mnDiff ha hab
  have hst2 : ¬ s.toList = t.toList := by simpa using hst
  have HT := Lib.hid ht; clear ht hab
  have HS := Lib.hid hs; clear hs
  have HK := Lib.hid ha; clear ha
  obtain ⟨v, hv⟩ : ∃ v, visB a = v := ⟨_, rfl⟩
  obtain ⟨d, hd⟩ : ∃ d, drnB a = d := ⟨_, rfl⟩
  have HDV : Hid (d = true → v = true) := Lib.hid (by rw [← hv, ← hd]; intro h; simp only [drnB, Bool.and_eq_true] at h; exact h.1.1.1)
  have HV := Lib.hid hv
  have HD := Lib.hid hd
  clear hv hd
  have ho' := ho
  simp only [orOk, decide_eq_true_eq] at ho'
  obtain ⟨ho1, ho2⟩ := ho'
  obtain ⟨r, hr⟩ : ∃ r, ornOf o = r := ⟨_, rfl⟩
  have HY : Hid (FndT orn 0 2 r o true) := Lib.hid (by rw [← hr]; exact orSelf ho)
  have HR := Lib.hid hr; clear hr ho
  have HL := Lib.hid hL
  clear hL
  go_enter Tryd.func14, Tryd.ntmps14
  go_wp2_with fail
  refine (iMnem a s HS.out _ HL.out.l7.ins).mono ?_
  rintro e w' ⟨rfl, rfl⟩
  go_wp2_with fail
  refine (iMnem b t HT.out _ HL.out.l7.ins).mono ?_
  rintro e w' ⟨rfl, rfl⟩
  go_wp2_with fail
  refine (iByMn s a true HX.out _ HL.out.l7.ins).mono ?_
  rintro e w' ⟨rfl, rfl⟩
  go_wp2_with fail
  refine (iOrd o r HR.out _ HL.out.ord).mono ?_
  rintro e w' ⟨rfl, rfl⟩
  go_wp2_with fail
  refine (iByOr r o true HY.out _ HL.out.ord).mono ?_
  rintro e w' ⟨rfl, rfl⟩
  go_wp2_with fail
  refine (awakeOk _ HL.out.l7).mono ?_
  rintro e w3 ⟨rfl, b3⟩
  cases d <;> cases v
  all_goals first | (exact absurd (HDV.out rfl) (by decide)) | skip
  all_goals (go_wp2_with (first
    | (go_at_call 49; refine (iDrnN a _ HD.out _).mono ?_; rintro e w' ⟨rfl, rfl⟩)
    | (go_at_call 47; refine (iVisN a _ HV.out _).mono ?_; rintro e w' ⟨rfl, rfl⟩)
    | fail)
             go_ret
             exact ⟨by first | rfl | simp, b3⟩)

set_option maxRecDepth 100000 in
set_option maxHeartbeats 1000000 in
theorem classesneloC (a b o : Int) (w : World) (hL : Laid8 w) (ha : opOk a = true) (hab : a ≠ b) (ho1 : o < 0) :
    Calls Tryd.prog 14 #[.int .i64 a, .int .i64 b, .int .i64 o] w (LawOk7 w) := by
  have ha' := ha
  simp only [opOk, decide_eq_true_eq] at ha'
  obtain ⟨ha1, ha2⟩ := ha'
  obtain ⟨s, hs⟩ : ∃ s, mnOf a = s := ⟨_, rfl⟩
  have he : s.toList.isEmpty = false := by rw [← hs]; exact mnNonempty ha
  have HX : Hid (FndT mn 1 22 s a true) := Lib.hid (by rw [← hs]; exact mnSelf ha)
  obtain ⟨t, ht⟩ : ∃ t, mnOf b = t := ⟨_, rfl⟩
  have hst : (s.toList == t.toList) = false := by rw [← hs, ← ht]; exact mnDiff ha hab
  have hst2 : ¬ s.toList = t.toList := by simpa using hst
  have HT := Lib.hid ht; clear ht hab
  have HS := Lib.hid hs; clear hs
  have HK := Lib.hid ha; clear ha
  obtain ⟨v, hv⟩ : ∃ v, visB a = v := ⟨_, rfl⟩
  obtain ⟨d, hd⟩ : ∃ d, drnB a = d := ⟨_, rfl⟩
  have HDV : Hid (d = true → v = true) := Lib.hid (by rw [← hv, ← hd]; intro h; simp only [drnB, Bool.and_eq_true] at h; exact h.1.1.1)
  have HV := Lib.hid hv
  have HD := Lib.hid hd
  clear hv hd
  have hk2 : orOk o = false := by simp [orOk]; omega
  have HR : Hid (ornOf o = ⟨#[]⟩) := Lib.hid (orOfNo hk2)
  have HY : Hid (FndT orn 0 2 ⟨#[]⟩ 0 false) := Lib.hid (orNone _ rfl)
  clear hk2
  have hod : decide (0 ≤ o) = false := by simp; omega
  have HL := Lib.hid hL
  clear hL
  go_enter Tryd.func14, Tryd.ntmps14
  go_wp2_with fail
  refine (iMnem a s HS.out _ HL.out.l7.ins).mono ?_
  rintro e w' ⟨rfl, rfl⟩
  go_wp2_with fail
  refine (iMnem b t HT.out _ HL.out.l7.ins).mono ?_
  rintro e w' ⟨rfl, rfl⟩
  go_wp2_with fail
  refine (iByMn s a true HX.out _ HL.out.l7.ins).mono ?_
  rintro e w' ⟨rfl, rfl⟩
  go_wp2_with fail
  refine (iOrd o ⟨#[]⟩ HR.out _ HL.out.ord).mono ?_
  rintro e w' ⟨rfl, rfl⟩
  go_wp2_with fail
  refine (iByOr ⟨#[]⟩ 0 false HY.out _ HL.out.ord).mono ?_
  rintro e w' ⟨rfl, rfl⟩
  go_wp2_with fail
  refine (awakeOk _ HL.out.l7).mono ?_
  rintro e w3 ⟨rfl, b3⟩
  cases d <;> cases v
  all_goals first | (exact absurd (HDV.out rfl) (by decide)) | skip
  all_goals (go_wp2_with (first
    | (go_at_call 49; refine (iDrnN a _ HD.out _).mono ?_; rintro e w' ⟨rfl, rfl⟩)
    | (go_at_call 47; refine (iVisN a _ HV.out _).mono ?_; rintro e w' ⟨rfl, rfl⟩)
    | fail)
             go_ret
             exact ⟨by first | rfl | simp, b3⟩)

set_option maxRecDepth 100000 in
set_option maxHeartbeats 1000000 in
theorem classesnehiC (a b o : Int) (w : World) (hL : Laid8 w) (ha : opOk a = true) (hab : a ≠ b) (ho1 : 2 < o) :
    Calls Tryd.prog 14 #[.int .i64 a, .int .i64 b, .int .i64 o] w (LawOk7 w) := by
  have ha' := ha
  simp only [opOk, decide_eq_true_eq] at ha'
  obtain ⟨ha1, ha2⟩ := ha'
  obtain ⟨s, hs⟩ : ∃ s, mnOf a = s := ⟨_, rfl⟩
  have he : s.toList.isEmpty = false := by rw [← hs]; exact mnNonempty ha
  have HX : Hid (FndT mn 1 22 s a true) := Lib.hid (by rw [← hs]; exact mnSelf ha)
  obtain ⟨t, ht⟩ : ∃ t, mnOf b = t := ⟨_, rfl⟩
  have hst : (s.toList == t.toList) = false := by rw [← hs, ← ht]; exact mnDiff ha hab
  have hst2 : ¬ s.toList = t.toList := by simpa using hst
  have HT := Lib.hid ht; clear ht hab
  have HS := Lib.hid hs; clear hs
  have HK := Lib.hid ha; clear ha
  obtain ⟨v, hv⟩ : ∃ v, visB a = v := ⟨_, rfl⟩
  obtain ⟨d, hd⟩ : ∃ d, drnB a = d := ⟨_, rfl⟩
  have HDV : Hid (d = true → v = true) := Lib.hid (by rw [← hv, ← hd]; intro h; simp only [drnB, Bool.and_eq_true] at h; exact h.1.1.1)
  have HV := Lib.hid hv
  have HD := Lib.hid hd
  clear hv hd
  have hk2 : orOk o = false := by simp [orOk]; omega
  have HR : Hid (ornOf o = ⟨#[]⟩) := Lib.hid (orOfNo hk2)
  have HY : Hid (FndT orn 0 2 ⟨#[]⟩ 0 false) := Lib.hid (orNone _ rfl)
  clear hk2
  have ho0 : 0 ≤ o := by omega
  have hod : decide (o ≤ 2) = false := by simp; omega
  have HL := Lib.hid hL
  clear hL
  go_enter Tryd.func14, Tryd.ntmps14
  go_wp2_with fail
  refine (iMnem a s HS.out _ HL.out.l7.ins).mono ?_
  rintro e w' ⟨rfl, rfl⟩
  go_wp2_with fail
  refine (iMnem b t HT.out _ HL.out.l7.ins).mono ?_
  rintro e w' ⟨rfl, rfl⟩
  go_wp2_with fail
  refine (iByMn s a true HX.out _ HL.out.l7.ins).mono ?_
  rintro e w' ⟨rfl, rfl⟩
  go_wp2_with fail
  refine (iOrd o ⟨#[]⟩ HR.out _ HL.out.ord).mono ?_
  rintro e w' ⟨rfl, rfl⟩
  go_wp2_with fail
  refine (iByOr ⟨#[]⟩ 0 false HY.out _ HL.out.ord).mono ?_
  rintro e w' ⟨rfl, rfl⟩
  go_wp2_with fail
  refine (awakeOk _ HL.out.l7).mono ?_
  rintro e w3 ⟨rfl, b3⟩
  cases d <;> cases v
  all_goals first | (exact absurd (HDV.out rfl) (by decide)) | skip
  all_goals (go_wp2_with (first
    | (go_at_call 49; refine (iDrnN a _ HD.out _).mono ?_; rintro e w' ⟨rfl, rfl⟩)
    | (go_at_call 47; refine (iVisN a _ HV.out _).mono ?_; rintro e w' ⟨rfl, rfl⟩)
    | fail)
             go_ret
             exact ⟨by first | rfl | simp, b3⟩)

set_option maxRecDepth 100000 in
set_option maxHeartbeats 1000000 in
theorem classeseqinC (b o : Int) (w : World) (hL : Laid8 w) (ha : opOk b = true) (ho : orOk o = true) :
    Calls Tryd.prog 14 #[.int .i64 b, .int .i64 b, .int .i64 o] w (LawOk7 w) := by
  have ha' := ha
  simp only [opOk, decide_eq_true_eq] at ha'
  obtain ⟨ha1, ha2⟩ := ha'
  obtain ⟨s, hs⟩ : ∃ s, mnOf b = s := ⟨_, rfl⟩
  have he : s.toList.isEmpty = false := by rw [← hs]; exact mnNonempty ha
  have HX : Hid (FndT mn 1 22 s b true) := Lib.hid (by rw [← hs]; exact mnSelf ha)
  have HS := Lib.hid hs; clear hs
  have HT := HS
  have HK := Lib.hid ha; clear ha
  obtain ⟨v, hv⟩ : ∃ v, visB b = v := ⟨_, rfl⟩
  obtain ⟨d, hd⟩ : ∃ d, drnB b = d := ⟨_, rfl⟩
  have HDV : Hid (d = true → v = true) := Lib.hid (by rw [← hv, ← hd]; intro h; simp only [drnB, Bool.and_eq_true] at h; exact h.1.1.1)
  have HV := Lib.hid hv
  have HD := Lib.hid hd
  clear hv hd
  have ho' := ho
  simp only [orOk, decide_eq_true_eq] at ho'
  obtain ⟨ho1, ho2⟩ := ho'
  obtain ⟨r, hr⟩ : ∃ r, ornOf o = r := ⟨_, rfl⟩
  have HY : Hid (FndT orn 0 2 r o true) := Lib.hid (by rw [← hr]; exact orSelf ho)
  have HR := Lib.hid hr; clear hr ho
  have HL := Lib.hid hL
  clear hL
  go_enter Tryd.func14, Tryd.ntmps14
  go_wp2_with fail
  refine (iMnem b s HS.out _ HL.out.l7.ins).mono ?_
  rintro e w' ⟨rfl, rfl⟩
  go_wp2_with fail
  refine (iMnem b s HT.out _ HL.out.l7.ins).mono ?_
  rintro e w' ⟨rfl, rfl⟩
  go_wp2_with fail
  refine (iByMn s b true HX.out _ HL.out.l7.ins).mono ?_
  rintro e w' ⟨rfl, rfl⟩
  go_wp2_with fail
  refine (iOrd o r HR.out _ HL.out.ord).mono ?_
  rintro e w' ⟨rfl, rfl⟩
  go_wp2_with fail
  refine (iByOr r o true HY.out _ HL.out.ord).mono ?_
  rintro e w' ⟨rfl, rfl⟩
  go_wp2_with fail
  refine (awakeOk _ HL.out.l7).mono ?_
  rintro e w3 ⟨rfl, b3⟩
  cases d <;> cases v
  all_goals first | (exact absurd (HDV.out rfl) (by decide)) | skip
  all_goals (go_wp2_with (first
    | (go_at_call 49; refine (iDrnN b _ HD.out _).mono ?_; rintro e w' ⟨rfl, rfl⟩)
    | (go_at_call 47; refine (iVisN b _ HV.out _).mono ?_; rintro e w' ⟨rfl, rfl⟩)
    | fail)
             go_ret
             exact ⟨by first | rfl | simp, b3⟩)

set_option maxRecDepth 100000 in
set_option maxHeartbeats 1000000 in
theorem classeseqloC (b o : Int) (w : World) (hL : Laid8 w) (ha : opOk b = true) (ho1 : o < 0) :
    Calls Tryd.prog 14 #[.int .i64 b, .int .i64 b, .int .i64 o] w (LawOk7 w) := by
  have ha' := ha
  simp only [opOk, decide_eq_true_eq] at ha'
  obtain ⟨ha1, ha2⟩ := ha'
  obtain ⟨s, hs⟩ : ∃ s, mnOf b = s := ⟨_, rfl⟩
  have he : s.toList.isEmpty = false := by rw [← hs]; exact mnNonempty ha
  have HX : Hid (FndT mn 1 22 s b true) := Lib.hid (by rw [← hs]; exact mnSelf ha)
  have HS := Lib.hid hs; clear hs
  have HT := HS
  have HK := Lib.hid ha; clear ha
  obtain ⟨v, hv⟩ : ∃ v, visB b = v := ⟨_, rfl⟩
  obtain ⟨d, hd⟩ : ∃ d, drnB b = d := ⟨_, rfl⟩
  have HDV : Hid (d = true → v = true) := Lib.hid (by rw [← hv, ← hd]; intro h; simp only [drnB, Bool.and_eq_true] at h; exact h.1.1.1)
  have HV := Lib.hid hv
  have HD := Lib.hid hd
  clear hv hd
  have hk2 : orOk o = false := by simp [orOk]; omega
  have HR : Hid (ornOf o = ⟨#[]⟩) := Lib.hid (orOfNo hk2)
  have HY : Hid (FndT orn 0 2 ⟨#[]⟩ 0 false) := Lib.hid (orNone _ rfl)
  clear hk2
  have hod : decide (0 ≤ o) = false := by simp; omega
  have HL := Lib.hid hL
  clear hL
  go_enter Tryd.func14, Tryd.ntmps14
  go_wp2_with fail
  refine (iMnem b s HS.out _ HL.out.l7.ins).mono ?_
  rintro e w' ⟨rfl, rfl⟩
  go_wp2_with fail
  refine (iMnem b s HT.out _ HL.out.l7.ins).mono ?_
  rintro e w' ⟨rfl, rfl⟩
  go_wp2_with fail
  refine (iByMn s b true HX.out _ HL.out.l7.ins).mono ?_
  rintro e w' ⟨rfl, rfl⟩
  go_wp2_with fail
  refine (iOrd o ⟨#[]⟩ HR.out _ HL.out.ord).mono ?_
  rintro e w' ⟨rfl, rfl⟩
  go_wp2_with fail
  refine (iByOr ⟨#[]⟩ 0 false HY.out _ HL.out.ord).mono ?_
  rintro e w' ⟨rfl, rfl⟩
  go_wp2_with fail
  refine (awakeOk _ HL.out.l7).mono ?_
  rintro e w3 ⟨rfl, b3⟩
  cases d <;> cases v
  all_goals first | (exact absurd (HDV.out rfl) (by decide)) | skip
  all_goals (go_wp2_with (first
    | (go_at_call 49; refine (iDrnN b _ HD.out _).mono ?_; rintro e w' ⟨rfl, rfl⟩)
    | (go_at_call 47; refine (iVisN b _ HV.out _).mono ?_; rintro e w' ⟨rfl, rfl⟩)
    | fail)
             go_ret
             exact ⟨by first | rfl | simp, b3⟩)

set_option maxRecDepth 100000 in
set_option maxHeartbeats 1000000 in
theorem classeseqhiC (b o : Int) (w : World) (hL : Laid8 w) (ha : opOk b = true) (ho1 : 2 < o) :
    Calls Tryd.prog 14 #[.int .i64 b, .int .i64 b, .int .i64 o] w (LawOk7 w) := by
  have ha' := ha
  simp only [opOk, decide_eq_true_eq] at ha'
  obtain ⟨ha1, ha2⟩ := ha'
  obtain ⟨s, hs⟩ : ∃ s, mnOf b = s := ⟨_, rfl⟩
  have he : s.toList.isEmpty = false := by rw [← hs]; exact mnNonempty ha
  have HX : Hid (FndT mn 1 22 s b true) := Lib.hid (by rw [← hs]; exact mnSelf ha)
  have HS := Lib.hid hs; clear hs
  have HT := HS
  have HK := Lib.hid ha; clear ha
  obtain ⟨v, hv⟩ : ∃ v, visB b = v := ⟨_, rfl⟩
  obtain ⟨d, hd⟩ : ∃ d, drnB b = d := ⟨_, rfl⟩
  have HDV : Hid (d = true → v = true) := Lib.hid (by rw [← hv, ← hd]; intro h; simp only [drnB, Bool.and_eq_true] at h; exact h.1.1.1)
  have HV := Lib.hid hv
  have HD := Lib.hid hd
  clear hv hd
  have hk2 : orOk o = false := by simp [orOk]; omega
  have HR : Hid (ornOf o = ⟨#[]⟩) := Lib.hid (orOfNo hk2)
  have HY : Hid (FndT orn 0 2 ⟨#[]⟩ 0 false) := Lib.hid (orNone _ rfl)
  clear hk2
  have ho0 : 0 ≤ o := by omega
  have hod : decide (o ≤ 2) = false := by simp; omega
  have HL := Lib.hid hL
  clear hL
  go_enter Tryd.func14, Tryd.ntmps14
  go_wp2_with fail
  refine (iMnem b s HS.out _ HL.out.l7.ins).mono ?_
  rintro e w' ⟨rfl, rfl⟩
  go_wp2_with fail
  refine (iMnem b s HT.out _ HL.out.l7.ins).mono ?_
  rintro e w' ⟨rfl, rfl⟩
  go_wp2_with fail
  refine (iByMn s b true HX.out _ HL.out.l7.ins).mono ?_
  rintro e w' ⟨rfl, rfl⟩
  go_wp2_with fail
  refine (iOrd o ⟨#[]⟩ HR.out _ HL.out.ord).mono ?_
  rintro e w' ⟨rfl, rfl⟩
  go_wp2_with fail
  refine (iByOr ⟨#[]⟩ 0 false HY.out _ HL.out.ord).mono ?_
  rintro e w' ⟨rfl, rfl⟩
  go_wp2_with fail
  refine (awakeOk _ HL.out.l7).mono ?_
  rintro e w3 ⟨rfl, b3⟩
  cases d <;> cases v
  all_goals first | (exact absurd (HDV.out rfl) (by decide)) | skip
  all_goals (go_wp2_with (first
    | (go_at_call 49; refine (iDrnN b _ HD.out _).mono ?_; rintro e w' ⟨rfl, rfl⟩)
    | (go_at_call 47; refine (iVisN b _ HV.out _).mono ?_; rintro e w' ⟨rfl, rfl⟩)
    | fail)
             go_ret
             exact ⟨by first | rfl | simp, b3⟩)

set_option maxRecDepth 100000 in
set_option maxHeartbeats 1000000 in
theorem classesloinC (a b o : Int) (w : World) (hL : Laid8 w) (ha1 : a < 1) (ho : orOk o = true) :
    Calls Tryd.prog 14 #[.int .i64 a, .int .i64 b, .int .i64 o] w (LawOk7 w) := by
  have hk : opOk a = false := by simp [opOk]; omega
  have HS : Hid (mnOf a = ⟨#[]⟩) := Lib.hid (mnOfNo hk)
  have HX : Hid (FndT mn 1 22 ⟨#[]⟩ 0 false) := Lib.hid (mnNone _ rfl)
  obtain ⟨t, ht⟩ : ∃ t, mnOf b = t := ⟨_, rfl⟩
  have HT := Lib.hid ht; clear ht hk
  have had : decide (1 ≤ a) = false := by simp; omega
  obtain ⟨v, hv⟩ : ∃ v, v = false ∧ visB a = v := ⟨_, rfl, by unfold visB; simp; omega⟩
  obtain ⟨d, hd⟩ : ∃ d, d = false ∧ drnB a = d := ⟨_, rfl, by unfold drnB visB; simp; omega⟩
  obtain ⟨rfl, hv⟩ := hv
  obtain ⟨rfl, hd⟩ := hd
  have HV := Lib.hid hv
  have HD := Lib.hid hd
  clear hv hd
  have ho' := ho
  simp only [orOk, decide_eq_true_eq] at ho'
  obtain ⟨ho1, ho2⟩ := ho'
  obtain ⟨r, hr⟩ : ∃ r, ornOf o = r := ⟨_, rfl⟩
  have HY : Hid (FndT orn 0 2 r o true) := Lib.hid (by rw [← hr]; exact orSelf ho)
  have HR := Lib.hid hr; clear hr ho
  have HL := Lib.hid hL
  clear hL
  go_enter Tryd.func14, Tryd.ntmps14
  go_wp2_with fail
  refine (iMnem a ⟨#[]⟩ HS.out _ HL.out.l7.ins).mono ?_
  rintro e w' ⟨rfl, rfl⟩
  go_wp2_with fail
  refine (iMnem b t HT.out _ HL.out.l7.ins).mono ?_
  rintro e w' ⟨rfl, rfl⟩
  go_wp2_with fail
  refine (iByMn ⟨#[]⟩ 0 false HX.out _ HL.out.l7.ins).mono ?_
  rintro e w' ⟨rfl, rfl⟩
  go_wp2_with fail
  refine (iOrd o r HR.out _ HL.out.ord).mono ?_
  rintro e w' ⟨rfl, rfl⟩
  go_wp2_with fail
  refine (iByOr r o true HY.out _ HL.out.ord).mono ?_
  rintro e w' ⟨rfl, rfl⟩
  go_wp2_with fail
  refine (awakeOk _ HL.out.l7).mono ?_
  rintro e w3 ⟨rfl, b3⟩
  go_wp2_with (first
    | (go_at_call 49; refine (iDrnN a _ HD.out _).mono ?_; rintro e w' ⟨rfl, rfl⟩)
    | (go_at_call 47; refine (iVisN a _ HV.out _).mono ?_; rintro e w' ⟨rfl, rfl⟩)
    | fail)
  go_ret
  exact ⟨by first | rfl | simp, b3⟩

set_option maxRecDepth 100000 in
set_option maxHeartbeats 1000000 in
theorem classesloloC (a b o : Int) (w : World) (hL : Laid8 w) (ha1 : a < 1) (ho1 : o < 0) :
    Calls Tryd.prog 14 #[.int .i64 a, .int .i64 b, .int .i64 o] w (LawOk7 w) := by
  have hk : opOk a = false := by simp [opOk]; omega
  have HS : Hid (mnOf a = ⟨#[]⟩) := Lib.hid (mnOfNo hk)
  have HX : Hid (FndT mn 1 22 ⟨#[]⟩ 0 false) := Lib.hid (mnNone _ rfl)
  obtain ⟨t, ht⟩ : ∃ t, mnOf b = t := ⟨_, rfl⟩
  have HT := Lib.hid ht; clear ht hk
  have had : decide (1 ≤ a) = false := by simp; omega
  obtain ⟨v, hv⟩ : ∃ v, v = false ∧ visB a = v := ⟨_, rfl, by unfold visB; simp; omega⟩
  obtain ⟨d, hd⟩ : ∃ d, d = false ∧ drnB a = d := ⟨_, rfl, by unfold drnB visB; simp; omega⟩
  obtain ⟨rfl, hv⟩ := hv
  obtain ⟨rfl, hd⟩ := hd
  have HV := Lib.hid hv
  have HD := Lib.hid hd
  clear hv hd
  have hk2 : orOk o = false := by simp [orOk]; omega
  have HR : Hid (ornOf o = ⟨#[]⟩) := Lib.hid (orOfNo hk2)
  have HY : Hid (FndT orn 0 2 ⟨#[]⟩ 0 false) := Lib.hid (orNone _ rfl)
  clear hk2
  have hod : decide (0 ≤ o) = false := by simp; omega
  have HL := Lib.hid hL
  clear hL
  go_enter Tryd.func14, Tryd.ntmps14
  go_wp2_with fail
  refine (iMnem a ⟨#[]⟩ HS.out _ HL.out.l7.ins).mono ?_
  rintro e w' ⟨rfl, rfl⟩
  go_wp2_with fail
  refine (iMnem b t HT.out _ HL.out.l7.ins).mono ?_
  rintro e w' ⟨rfl, rfl⟩
  go_wp2_with fail
  refine (iByMn ⟨#[]⟩ 0 false HX.out _ HL.out.l7.ins).mono ?_
  rintro e w' ⟨rfl, rfl⟩
  go_wp2_with fail
  refine (iOrd o ⟨#[]⟩ HR.out _ HL.out.ord).mono ?_
  rintro e w' ⟨rfl, rfl⟩
  go_wp2_with fail
  refine (iByOr ⟨#[]⟩ 0 false HY.out _ HL.out.ord).mono ?_
  rintro e w' ⟨rfl, rfl⟩
  go_wp2_with fail
  refine (awakeOk _ HL.out.l7).mono ?_
  rintro e w3 ⟨rfl, b3⟩
  go_wp2_with (first
    | (go_at_call 49; refine (iDrnN a _ HD.out _).mono ?_; rintro e w' ⟨rfl, rfl⟩)
    | (go_at_call 47; refine (iVisN a _ HV.out _).mono ?_; rintro e w' ⟨rfl, rfl⟩)
    | fail)
  go_ret
  exact ⟨by first | rfl | simp, b3⟩

set_option maxRecDepth 100000 in
set_option maxHeartbeats 1000000 in
theorem classeslohiC (a b o : Int) (w : World) (hL : Laid8 w) (ha1 : a < 1) (ho1 : 2 < o) :
    Calls Tryd.prog 14 #[.int .i64 a, .int .i64 b, .int .i64 o] w (LawOk7 w) := by
  have hk : opOk a = false := by simp [opOk]; omega
  have HS : Hid (mnOf a = ⟨#[]⟩) := Lib.hid (mnOfNo hk)
  have HX : Hid (FndT mn 1 22 ⟨#[]⟩ 0 false) := Lib.hid (mnNone _ rfl)
  obtain ⟨t, ht⟩ : ∃ t, mnOf b = t := ⟨_, rfl⟩
  have HT := Lib.hid ht; clear ht hk
  have had : decide (1 ≤ a) = false := by simp; omega
  obtain ⟨v, hv⟩ : ∃ v, v = false ∧ visB a = v := ⟨_, rfl, by unfold visB; simp; omega⟩
  obtain ⟨d, hd⟩ : ∃ d, d = false ∧ drnB a = d := ⟨_, rfl, by unfold drnB visB; simp; omega⟩
  obtain ⟨rfl, hv⟩ := hv
  obtain ⟨rfl, hd⟩ := hd
  have HV := Lib.hid hv
  have HD := Lib.hid hd
  clear hv hd
  have hk2 : orOk o = false := by simp [orOk]; omega
  have HR : Hid (ornOf o = ⟨#[]⟩) := Lib.hid (orOfNo hk2)
  have HY : Hid (FndT orn 0 2 ⟨#[]⟩ 0 false) := Lib.hid (orNone _ rfl)
  clear hk2
  have ho0 : 0 ≤ o := by omega
  have hod : decide (o ≤ 2) = false := by simp; omega
  have HL := Lib.hid hL
  clear hL
  go_enter Tryd.func14, Tryd.ntmps14
  go_wp2_with fail
  refine (iMnem a ⟨#[]⟩ HS.out _ HL.out.l7.ins).mono ?_
  rintro e w' ⟨rfl, rfl⟩
  go_wp2_with fail
  refine (iMnem b t HT.out _ HL.out.l7.ins).mono ?_
  rintro e w' ⟨rfl, rfl⟩
  go_wp2_with fail
  refine (iByMn ⟨#[]⟩ 0 false HX.out _ HL.out.l7.ins).mono ?_
  rintro e w' ⟨rfl, rfl⟩
  go_wp2_with fail
  refine (iOrd o ⟨#[]⟩ HR.out _ HL.out.ord).mono ?_
  rintro e w' ⟨rfl, rfl⟩
  go_wp2_with fail
  refine (iByOr ⟨#[]⟩ 0 false HY.out _ HL.out.ord).mono ?_
  rintro e w' ⟨rfl, rfl⟩
  go_wp2_with fail
  refine (awakeOk _ HL.out.l7).mono ?_
  rintro e w3 ⟨rfl, b3⟩
  go_wp2_with (first
    | (go_at_call 49; refine (iDrnN a _ HD.out _).mono ?_; rintro e w' ⟨rfl, rfl⟩)
    | (go_at_call 47; refine (iVisN a _ HV.out _).mono ?_; rintro e w' ⟨rfl, rfl⟩)
    | fail)
  go_ret
  exact ⟨by first | rfl | simp, b3⟩

set_option maxRecDepth 100000 in
set_option maxHeartbeats 1000000 in
theorem classeshiinC (a b o : Int) (w : World) (hL : Laid8 w) (ha1 : 22 < a) (ho : orOk o = true) :
    Calls Tryd.prog 14 #[.int .i64 a, .int .i64 b, .int .i64 o] w (LawOk7 w) := by
  have hk : opOk a = false := by simp [opOk]; omega
  have HS : Hid (mnOf a = ⟨#[]⟩) := Lib.hid (mnOfNo hk)
  have HX : Hid (FndT mn 1 22 ⟨#[]⟩ 0 false) := Lib.hid (mnNone _ rfl)
  obtain ⟨t, ht⟩ : ∃ t, mnOf b = t := ⟨_, rfl⟩
  have HT := Lib.hid ht; clear ht hk
  have ha0 : 1 ≤ a := by omega
  have had : decide (a ≤ 22) = false := by simp; omega
  obtain ⟨v, hv⟩ : ∃ v, v = false ∧ visB a = v := ⟨_, rfl, by unfold visB; simp; omega⟩
  obtain ⟨d, hd⟩ : ∃ d, d = false ∧ drnB a = d := ⟨_, rfl, by unfold drnB visB; simp; omega⟩
  obtain ⟨rfl, hv⟩ := hv
  obtain ⟨rfl, hd⟩ := hd
  have HV := Lib.hid hv
  have HD := Lib.hid hd
  clear hv hd
  have ho' := ho
  simp only [orOk, decide_eq_true_eq] at ho'
  obtain ⟨ho1, ho2⟩ := ho'
  obtain ⟨r, hr⟩ : ∃ r, ornOf o = r := ⟨_, rfl⟩
  have HY : Hid (FndT orn 0 2 r o true) := Lib.hid (by rw [← hr]; exact orSelf ho)
  have HR := Lib.hid hr; clear hr ho
  have HL := Lib.hid hL
  clear hL
  go_enter Tryd.func14, Tryd.ntmps14
  go_wp2_with fail
  refine (iMnem a ⟨#[]⟩ HS.out _ HL.out.l7.ins).mono ?_
  rintro e w' ⟨rfl, rfl⟩
  go_wp2_with fail
  refine (iMnem b t HT.out _ HL.out.l7.ins).mono ?_
  rintro e w' ⟨rfl, rfl⟩
  go_wp2_with fail
  refine (iByMn ⟨#[]⟩ 0 false HX.out _ HL.out.l7.ins).mono ?_
  rintro e w' ⟨rfl, rfl⟩
  go_wp2_with fail
  refine (iOrd o r HR.out _ HL.out.ord).mono ?_
  rintro e w' ⟨rfl, rfl⟩
  go_wp2_with fail
  refine (iByOr r o true HY.out _ HL.out.ord).mono ?_
  rintro e w' ⟨rfl, rfl⟩
  go_wp2_with fail
  refine (awakeOk _ HL.out.l7).mono ?_
  rintro e w3 ⟨rfl, b3⟩
  go_wp2_with (first
    | (go_at_call 49; refine (iDrnN a _ HD.out _).mono ?_; rintro e w' ⟨rfl, rfl⟩)
    | (go_at_call 47; refine (iVisN a _ HV.out _).mono ?_; rintro e w' ⟨rfl, rfl⟩)
    | fail)
  go_ret
  exact ⟨by first | rfl | simp, b3⟩

set_option maxRecDepth 100000 in
set_option maxHeartbeats 1000000 in
theorem classeshiloC (a b o : Int) (w : World) (hL : Laid8 w) (ha1 : 22 < a) (ho1 : o < 0) :
    Calls Tryd.prog 14 #[.int .i64 a, .int .i64 b, .int .i64 o] w (LawOk7 w) := by
  have hk : opOk a = false := by simp [opOk]; omega
  have HS : Hid (mnOf a = ⟨#[]⟩) := Lib.hid (mnOfNo hk)
  have HX : Hid (FndT mn 1 22 ⟨#[]⟩ 0 false) := Lib.hid (mnNone _ rfl)
  obtain ⟨t, ht⟩ : ∃ t, mnOf b = t := ⟨_, rfl⟩
  have HT := Lib.hid ht; clear ht hk
  have ha0 : 1 ≤ a := by omega
  have had : decide (a ≤ 22) = false := by simp; omega
  obtain ⟨v, hv⟩ : ∃ v, v = false ∧ visB a = v := ⟨_, rfl, by unfold visB; simp; omega⟩
  obtain ⟨d, hd⟩ : ∃ d, d = false ∧ drnB a = d := ⟨_, rfl, by unfold drnB visB; simp; omega⟩
  obtain ⟨rfl, hv⟩ := hv
  obtain ⟨rfl, hd⟩ := hd
  have HV := Lib.hid hv
  have HD := Lib.hid hd
  clear hv hd
  have hk2 : orOk o = false := by simp [orOk]; omega
  have HR : Hid (ornOf o = ⟨#[]⟩) := Lib.hid (orOfNo hk2)
  have HY : Hid (FndT orn 0 2 ⟨#[]⟩ 0 false) := Lib.hid (orNone _ rfl)
  clear hk2
  have hod : decide (0 ≤ o) = false := by simp; omega
  have HL := Lib.hid hL
  clear hL
  go_enter Tryd.func14, Tryd.ntmps14
  go_wp2_with fail
  refine (iMnem a ⟨#[]⟩ HS.out _ HL.out.l7.ins).mono ?_
  rintro e w' ⟨rfl, rfl⟩
  go_wp2_with fail
  refine (iMnem b t HT.out _ HL.out.l7.ins).mono ?_
  rintro e w' ⟨rfl, rfl⟩
  go_wp2_with fail
  refine (iByMn ⟨#[]⟩ 0 false HX.out _ HL.out.l7.ins).mono ?_
  rintro e w' ⟨rfl, rfl⟩
  go_wp2_with fail
  refine (iOrd o ⟨#[]⟩ HR.out _ HL.out.ord).mono ?_
  rintro e w' ⟨rfl, rfl⟩
  go_wp2_with fail
  refine (iByOr ⟨#[]⟩ 0 false HY.out _ HL.out.ord).mono ?_
  rintro e w' ⟨rfl, rfl⟩
  go_wp2_with fail
  refine (awakeOk _ HL.out.l7).mono ?_
  rintro e w3 ⟨rfl, b3⟩
  go_wp2_with (first
    | (go_at_call 49; refine (iDrnN a _ HD.out _).mono ?_; rintro e w' ⟨rfl, rfl⟩)
    | (go_at_call 47; refine (iVisN a _ HV.out _).mono ?_; rintro e w' ⟨rfl, rfl⟩)
    | fail)
  go_ret
  exact ⟨by first | rfl | simp, b3⟩

set_option maxRecDepth 100000 in
set_option maxHeartbeats 1000000 in
theorem classeshihiC (a b o : Int) (w : World) (hL : Laid8 w) (ha1 : 22 < a) (ho1 : 2 < o) :
    Calls Tryd.prog 14 #[.int .i64 a, .int .i64 b, .int .i64 o] w (LawOk7 w) := by
  have hk : opOk a = false := by simp [opOk]; omega
  have HS : Hid (mnOf a = ⟨#[]⟩) := Lib.hid (mnOfNo hk)
  have HX : Hid (FndT mn 1 22 ⟨#[]⟩ 0 false) := Lib.hid (mnNone _ rfl)
  obtain ⟨t, ht⟩ : ∃ t, mnOf b = t := ⟨_, rfl⟩
  have HT := Lib.hid ht; clear ht hk
  have ha0 : 1 ≤ a := by omega
  have had : decide (a ≤ 22) = false := by simp; omega
  obtain ⟨v, hv⟩ : ∃ v, v = false ∧ visB a = v := ⟨_, rfl, by unfold visB; simp; omega⟩
  obtain ⟨d, hd⟩ : ∃ d, d = false ∧ drnB a = d := ⟨_, rfl, by unfold drnB visB; simp; omega⟩
  obtain ⟨rfl, hv⟩ := hv
  obtain ⟨rfl, hd⟩ := hd
  have HV := Lib.hid hv
  have HD := Lib.hid hd
  clear hv hd
  have hk2 : orOk o = false := by simp [orOk]; omega
  have HR : Hid (ornOf o = ⟨#[]⟩) := Lib.hid (orOfNo hk2)
  have HY : Hid (FndT orn 0 2 ⟨#[]⟩ 0 false) := Lib.hid (orNone _ rfl)
  clear hk2
  have ho0 : 0 ≤ o := by omega
  have hod : decide (o ≤ 2) = false := by simp; omega
  have HL := Lib.hid hL
  clear hL
  go_enter Tryd.func14, Tryd.ntmps14
  go_wp2_with fail
  refine (iMnem a ⟨#[]⟩ HS.out _ HL.out.l7.ins).mono ?_
  rintro e w' ⟨rfl, rfl⟩
  go_wp2_with fail
  refine (iMnem b t HT.out _ HL.out.l7.ins).mono ?_
  rintro e w' ⟨rfl, rfl⟩
  go_wp2_with fail
  refine (iByMn ⟨#[]⟩ 0 false HX.out _ HL.out.l7.ins).mono ?_
  rintro e w' ⟨rfl, rfl⟩
  go_wp2_with fail
  refine (iOrd o ⟨#[]⟩ HR.out _ HL.out.ord).mono ?_
  rintro e w' ⟨rfl, rfl⟩
  go_wp2_with fail
  refine (iByOr ⟨#[]⟩ 0 false HY.out _ HL.out.ord).mono ?_
  rintro e w' ⟨rfl, rfl⟩
  go_wp2_with fail
  refine (awakeOk _ HL.out.l7).mono ?_
  rintro e w3 ⟨rfl, b3⟩
  go_wp2_with (first
    | (go_at_call 49; refine (iDrnN a _ HD.out _).mono ?_; rintro e w' ⟨rfl, rfl⟩)
    | (go_at_call 47; refine (iVisN a _ HV.out _).mono ?_; rintro e w' ⟨rfl, rfl⟩)
    | fail)
  go_ret
  exact ⟨by first | rfl | simp, b3⟩

theorem lawClasses (a b o : Int) (w : World) (hL : Laid8 w) :
    Calls Tryd.prog 14 #[.int .i64 a, .int .i64 b, .int .i64 o] w (LawOk7 w) := by
  by_cases ha : opOk a = true
  · by_cases hab : a = b
    · subst hab
      by_cases ho : orOk o = true
      · exact classeseqinC a o w hL ha ho
      · by_cases h : o < 0
        · exact classeseqloC a o w hL ha h
        · exact classeseqhiC a o w hL ha (by simp only [orOk, decide_eq_true_eq] at ho; omega)
    · by_cases ho : orOk o = true
      · exact classesneinC a b o w hL ha hab ho
      · by_cases h : o < 0
        · exact classesneloC a b o w hL ha hab h
        · exact classesnehiC a b o w hL ha hab (by simp only [orOk, decide_eq_true_eq] at ho; omega)
  · have h22 : a < 1 ∨ 22 < a := by simp only [opOk, decide_eq_true_eq] at ha; omega
    rcases h22 with h2 | h2
    · by_cases ho : orOk o = true
      · exact classesloinC a b o w hL h2 ho
      · by_cases h : o < 0
        · exact classesloloC a b o w hL h2 h
        · exact classeslohiC a b o w hL h2 (by simp only [orOk, decide_eq_true_eq] at ho; omega)
    · by_cases ho : orOk o = true
      · exact classeshiinC a b o w hL h2 ho
      · by_cases h : o < 0
        · exact classeshiloC a b o w hL h2 h
        · exact classeshihiC a b o w hL h2 (by simp only [orOk, decide_eq_true_eq] at ho; omega)
end Go.Proofs.YtcecnkpdaaojeaaDoor
