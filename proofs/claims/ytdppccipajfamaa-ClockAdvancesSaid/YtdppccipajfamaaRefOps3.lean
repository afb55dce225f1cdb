/-
  The contracts of the reference's LessEq and Concurrent, and of the program's Concurrent.
-/
import Derived.Test.YtdppccipajfamaaRefOps
namespace Go.Proofs.Ytdppccipajfamaa
open Go.RowKit

theorem ticksAt {a b : Ck} {k : Nat} (hk : k < a.length) (h : ∀ t ∈ a.take k, t.2 ≤ cnt b t.1) (e : a[k].2 ≤ cnt b a[k].1) : ∀ t ∈ a.take (k + 1), t.2 ≤ cnt b t.1 := by
  intro t ht
  rw [List.take_succ_eq_append_getElem hk] at ht
  rcases List.mem_append.1 ht with ht | ht
  · exact h t ht
  · obtain rfl : t = a[k] := by simpa using ht
    exact e
set_option maxHeartbeats 1000000 in
theorem rLessEq (a b : Ck) (n m : Nat) (hn : a.length = n) (hm : b.length = m) (r : Bool) (hr : leB a b = r) (A B : Option Addr) (c d : Nat) (w : World) (ha : Rc w A c a) (hb : Rc w B d b) :
    Calls Try.prog 22 #[.slice A n c, .slice B m d] w fun e w' => e = .returned (.bool r) ∧ ∃ q, w' = w.drewN q := by
  have hla := ha.le
  have hca := ha.max
  unfold maxLen at hca
  have HA := Lib.hid ha; clear ha
  have HB := Lib.hid hb; clear hb
  have HN := Lib.hid hn; clear hn
  have HM := Lib.hid hm; clear hm
  rcases hva : vldB a with _ | _
  · have HR := Lib.hid (show false = r by rw [← hr, leB, decide_eq_false (fun h => vldNo.1 hva h.1)]); clear hr
    have HV := Lib.hid hva; clear hva
    go_enter Try.func22, Try.ntmps22
    go_wp2_with fail
    refine (rValid a n HN.out _ HV.out A c _ HA.out).mono ?_
    rintro e w1 ⟨rfl, q, rfl⟩
    go_wp2
    go_ret
    exact ⟨retB HR.out, q, rfl⟩
  rcases hvb : vldB b with _ | _
  · have HR := Lib.hid (show false = r by rw [← hr, leB, decide_eq_false (fun h => vldNo.1 hvb h.2.1)]); clear hr
    have HV := Lib.hid hva; clear hva
    have HW := Lib.hid hvb; clear hvb
    go_enter Try.func22, Try.ntmps22
    go_wp2_with fail
    refine (rValid a n HN.out _ HV.out A c _ HA.out).mono ?_
    rintro e w1 ⟨rfl, q, rfl⟩
    go_wp2_with fail
    refine (rValid b m HM.out _ HW.out B d _ (HB.out.drewN _)).mono ?_
    rintro e w2 ⟨rfl, q2, rfl⟩
    go_wp2
    go_ret
    exact ⟨retB HR.out, _, rfl⟩
  have HR := Lib.hid hr; clear hr
  have HI := Lib.hid (leTicks (vldIff.1 hva) (vldIff.1 hvb))
  have HV := Lib.hid hva; clear hva
  have HW := Lib.hid hvb; clear hvb
  go_enter Try.func22, Try.ntmps22
  go_wp2_with fail
  refine (rValid a n HN.out _ HV.out A c _ HA.out).mono ?_
  rintro e w1 ⟨rfl, q, rfl⟩
  go_wp2_with fail
  refine (rValid b m HM.out _ HW.out B d _ (HB.out.drewN _)).mono ?_
  rintro e w2 ⟨rfl, q2, rfl⟩
  go_wp2
  go_loopw [5] (fun i wr => ∃ k : Nat, k ≤ n ∧ i = .int .i64 k ∧ Hid (∀ t ∈ a.take k, t.2 ≤ cnt b t.1) ∧ Hid (∃ q, wr = w.drewN q)) (fun i _ => n - (intOf i).toNat)
  case atStart => exact ⟨0, Nat.zero_le _, rfl, Lib.hid (by simp), Lib.hid ⟨_, rfl⟩⟩
  case round =>
    obtain ⟨k, hk, rfl, HT, HQ⟩ := hrel
    by_cases hlt : k < n
    · have hkl : k < a.length := by have := HN.out; omega
      have HAR : Hid (Rc wr A c a) := by obtain ⟨q, e⟩ := HQ.out; rw [e]; exact HA.out.drewN q
      have HBR : Hid (Rc wr B d b) := by obtain ⟨q, e⟩ := HQ.out; rw [e]; exact HB.out.drewN q
      clear HA HB
      obtain ⟨p, off, rfl, _, hc1, hc2⟩ := HAR.out.one hkl
      obtain ⟨N, hN⟩ : ∃ N, cnt b a[k].1 = N := ⟨_, rfl⟩
      by_cases g : N < a[k].2
      · have HX := Lib.hid (show false = r by
          rw [← HR.out]
          refine (Bool.eq_false_iff.2 fun h => ?_).symm
          have := HI.out.1 h a[k] (List.getElem_mem hkl)
          omega)
        generalize a[k].1 = x at *
        generalize a[k].2 = y at *
        have H1 := Lib.hid hN; clear hN
        go_wp2_with fail
        go_region_held3 (fun w' => w'.cell? ⟨p, off + k * 2, none⟩ = some (.int .i64 x) ∧ w'.cell? ⟨p, off + k * 2 + 1, none⟩ = some (.int .i64 y))
          (first | assumption | exact ⟨hc1, hc2⟩)
          (first
            | (go_at_call 28; with_reducible refine (cntQ b x m HM.out _ H1.out B d _ HBR.out.drew).mono ?_; (rintro e w' ⟨rfl, rfl⟩)))
        go_wp2
        go_ret
        exact ⟨retB HX.out, by obtain ⟨q, e⟩ := HQ.out; rw [e]; exact ⟨q + 1, rfl⟩⟩
      · have HX := Lib.hid (ticksAt hkl HT.out (by omega))
        generalize a[k].1 = x at *
        generalize a[k].2 = y at *
        have H1 := Lib.hid hN; clear hN
        go_wp2_with fail
        go_region_held3 (fun w' => w'.cell? ⟨p, off + k * 2, none⟩ = some (.int .i64 x) ∧ w'.cell? ⟨p, off + k * 2 + 1, none⟩ = some (.int .i64 y))
          (first | assumption | exact ⟨hc1, hc2⟩)
          (first
            | (go_at_call 28; with_reducible refine (cntQ b x m HM.out _ H1.out B d _ HBR.out.drew).mono ?_; (rintro e w' ⟨rfl, rfl⟩)))
        go_wp2
        go_roundw
        case rel => exact ⟨k + 1, by omega, by go_num, HX, by obtain ⟨q, e⟩ := HQ.out; rw [e]; exact Lib.hid ⟨q + 1, rfl⟩⟩
        case measure => simp [intOf]; omega
    · have HX := Lib.hid (show true = r by
        rw [← HR.out]
        refine (HI.out.2 fun t ht => HT.out t ?_).symm
        rwa [List.take_of_length_le (by have := HN.out; omega)])
      go_wp2
      go_ret
      exact ⟨retB HX.out, HQ.out⟩

set_option maxHeartbeats 1000000 in
theorem rConcurrent (a b : Ck) (n m : Nat) (hn : a.length = n) (hm : b.length = m) (r : Bool) (hr : conB a b = r) (A B : Option Addr) (c d : Nat) (w : World) (ha : Rc w A c a) (hb : Rc w B d b) :
    Calls Try.prog 24 #[.slice A n c, .slice B m d] w fun e w' => e = .returned (.bool r) ∧ ∃ q, w' = w.drewN q := by
  have HA := Lib.hid ha; clear ha
  have HB := Lib.hid hb; clear hb
  have HN := Lib.hid hn; clear hn
  have HM := Lib.hid hm; clear hm
  rcases hva : vldB a with _ | _
  · have HR := Lib.hid (show false = r by rw [← hr, conB, decide_eq_false (fun h => vldNo.1 hva h.1)]; rfl); clear hr
    have HV := Lib.hid hva; clear hva
    go_enter Try.func24, Try.ntmps24
    go_wp2_with fail
    refine (rValid a n HN.out _ HV.out A c _ HA.out).mono ?_
    rintro e w1 ⟨rfl, q1, rfl⟩
    go_wp2
    go_ret
    exact ⟨retB HR.out, _, rfl⟩
  rcases hvb : vldB b with _ | _
  · have HR := Lib.hid (show false = r by rw [← hr, conB, decide_eq_false (fun h => vldNo.1 hvb h.2)]; rfl); clear hr
    have HV := Lib.hid hva; clear hva
    have HW := Lib.hid hvb; clear hvb
    go_enter Try.func24, Try.ntmps24
    go_wp2_with fail
    refine (rValid a n HN.out _ HV.out A c _ HA.out).mono ?_
    rintro e w1 ⟨rfl, q1, rfl⟩
    go_wp2_with fail
    refine (rValid b m HM.out _ HW.out B d _ (HB.out.drewN _)).mono ?_
    rintro e w2 ⟨rfl, q2, rfl⟩
    go_wp2
    go_ret
    exact ⟨retB HR.out, _, rfl⟩
  rw [conB, decide_eq_true (show VL a ∧ VL b from ⟨vldIff.1 hva, vldIff.1 hvb⟩)] at hr
  have HV := Lib.hid hva; clear hva
  have HW := Lib.hid hvb; clear hvb
  rcases hp : leB a b with _ | _
  · rcases hq : leB b a with _ | _
    · have HR := Lib.hid (show true = r by rw [← hr, hp, hq]; rfl); clear hr
      have HP := Lib.hid hp; clear hp
      have HQ := Lib.hid hq; clear hq
      go_enter Try.func24, Try.ntmps24
      go_wp2_with fail
      refine (rValid a n HN.out _ HV.out A c _ HA.out).mono ?_
      rintro e w1 ⟨rfl, q1, rfl⟩
      go_wp2_with fail
      refine (rValid b m HM.out _ HW.out B d _ (HB.out.drewN _)).mono ?_
      rintro e w2 ⟨rfl, q2, rfl⟩
      go_wp2_with fail
      refine (rLessEq a b n m HN.out HM.out _ HP.out A B c d _ (HA.out.drewN _) (HB.out.drewN _)).mono ?_
      rintro e w3 ⟨rfl, q3, rfl⟩
      go_wp2_with fail
      refine (rLessEq b a m n HM.out HN.out _ HQ.out B A d c _ (HB.out.drewN _) (HA.out.drewN _)).mono ?_
      rintro e w4 ⟨rfl, q4, rfl⟩
      go_wp2
      go_ret
      exact ⟨retB HR.out, _, rfl⟩
    · have HR := Lib.hid (show false = r by rw [← hr, hp, hq]; rfl); clear hr
      have HP := Lib.hid hp; clear hp
      have HQ := Lib.hid hq; clear hq
      go_enter Try.func24, Try.ntmps24
      go_wp2_with fail
      refine (rValid a n HN.out _ HV.out A c _ HA.out).mono ?_
      rintro e w1 ⟨rfl, q1, rfl⟩
      go_wp2_with fail
      refine (rValid b m HM.out _ HW.out B d _ (HB.out.drewN _)).mono ?_
      rintro e w2 ⟨rfl, q2, rfl⟩
      go_wp2_with fail
      refine (rLessEq a b n m HN.out HM.out _ HP.out A B c d _ (HA.out.drewN _) (HB.out.drewN _)).mono ?_
      rintro e w3 ⟨rfl, q3, rfl⟩
      go_wp2_with fail
      refine (rLessEq b a m n HM.out HN.out _ HQ.out B A d c _ (HB.out.drewN _) (HA.out.drewN _)).mono ?_
      rintro e w4 ⟨rfl, q4, rfl⟩
      go_wp2
      go_ret
      exact ⟨retB HR.out, _, rfl⟩
  · have HR := Lib.hid (show false = r by rw [← hr, hp]; rfl); clear hr
    have HP := Lib.hid hp; clear hp
    go_enter Try.func24, Try.ntmps24
    go_wp2_with fail
    refine (rValid a n HN.out _ HV.out A c _ HA.out).mono ?_
    rintro e w1 ⟨rfl, q1, rfl⟩
    go_wp2_with fail
    refine (rValid b m HM.out _ HW.out B d _ (HB.out.drewN _)).mono ?_
    rintro e w2 ⟨rfl, q2, rfl⟩
    go_wp2_with fail
    refine (rLessEq a b n m HN.out HM.out _ HP.out A B c d _ (HA.out.drewN _) (HB.out.drewN _)).mono ?_
    rintro e w3 ⟨rfl, q3, rfl⟩
    go_wp2
    go_ret
    exact ⟨retB HR.out, _, rfl⟩

set_option maxHeartbeats 1000000 in
theorem iConcurrent (a b : Ck) (n m : Nat) (hn : a.length = n) (hm : b.length = m) (r : Bool) (hr : conB a b = r) (hs : n ≤ 65536) (hs' : m ≤ 65536) (A B : Option Addr) (c d : Nat) (w : World) (ha : Rc w A c a) (hb : Rc w B d b) :
    Calls Try.prog 23 #[.slice A n c, .slice B m d] w fun e w' => e = .returned (.bool r) ∧ Below w.heap.size w w' := by
  have HA := Lib.hid ha; clear ha
  have HB := Lib.hid hb; clear hb
  have HN := Lib.hid hn; clear hn
  have HM := Lib.hid hm; clear hm
  rcases hva : vldB a with _ | _
  · have HR := Lib.hid (show false = r by rw [← hr, conB, decide_eq_false (fun h => vldNo.1 hva h.1)]; rfl); clear hr
    have HV := Lib.hid hva; clear hva
    go_enter Try.func23, Try.ntmps23
    go_wp2_with fail
    refine (iValid a n HN.out _ HV.out A c _ HA.out).mono ?_
    rintro e w1 ⟨rfl, b1⟩
    go_wp2
    go_ret
    exact ⟨retB HR.out, b1⟩
  rcases hvb : vldB b with _ | _
  · have HR := Lib.hid (show false = r by rw [← hr, conB, decide_eq_false (fun h => vldNo.1 hvb h.2)]; rfl); clear hr
    have HV := Lib.hid hva; clear hva
    have HW := Lib.hid hvb; clear hvb
    go_enter Try.func23, Try.ntmps23
    go_wp2_with fail
    refine (iValid a n HN.out _ HV.out A c _ HA.out).mono ?_
    rintro e w1 ⟨rfl, b1⟩
    go_wp2_with fail
    refine (iValid b m HM.out _ HW.out B d _ (HB.out.below (b1))).mono ?_
    rintro e w2 ⟨rfl, b2⟩
    go_wp2
    go_ret
    exact ⟨retB HR.out, belowThen (b1) b2⟩
  rw [conB, decide_eq_true (show VL a ∧ VL b from ⟨vldIff.1 hva, vldIff.1 hvb⟩)] at hr
  have HV := Lib.hid hva; clear hva
  have HW := Lib.hid hvb; clear hvb
  rcases hp : leB a b with _ | _
  · rcases hq : leB b a with _ | _
    · have HR := Lib.hid (show true = r by rw [← hr, hp, hq]; rfl); clear hr
      have HP := Lib.hid hp; clear hp
      have HQ := Lib.hid hq; clear hq
      go_enter Try.func23, Try.ntmps23
      go_wp2_with fail
      refine (iValid a n HN.out _ HV.out A c _ HA.out).mono ?_
      rintro e w1 ⟨rfl, b1⟩
      go_wp2_with fail
      refine (iValid b m HM.out _ HW.out B d _ (HB.out.below (b1))).mono ?_
      rintro e w2 ⟨rfl, b2⟩
      go_wp2_with fail
      refine (iLessEq a b n m HN.out HM.out _ HP.out hs hs' A B c d _ (HA.out.below (belowThen (b1) b2)) (HB.out.below (belowThen (b1) b2))).mono ?_
      rintro e w3 ⟨rfl, b3⟩
      go_wp2_with fail
      refine (iLessEq b a m n HM.out HN.out _ HQ.out hs' hs B A d c _ (HB.out.below (belowThen (belowThen (b1) b2) b3)) (HA.out.below (belowThen (belowThen (b1) b2) b3))).mono ?_
      rintro e w4 ⟨rfl, b4⟩
      go_wp2
      go_ret
      exact ⟨retB HR.out, belowThen (belowThen (belowThen (b1) b2) b3) b4⟩
    · have HR := Lib.hid (show false = r by rw [← hr, hp, hq]; rfl); clear hr
      have HP := Lib.hid hp; clear hp
      have HQ := Lib.hid hq; clear hq
      go_enter Try.func23, Try.ntmps23
      go_wp2_with fail
      refine (iValid a n HN.out _ HV.out A c _ HA.out).mono ?_
      rintro e w1 ⟨rfl, b1⟩
      go_wp2_with fail
      refine (iValid b m HM.out _ HW.out B d _ (HB.out.below (b1))).mono ?_
      rintro e w2 ⟨rfl, b2⟩
      go_wp2_with fail
      refine (iLessEq a b n m HN.out HM.out _ HP.out hs hs' A B c d _ (HA.out.below (belowThen (b1) b2)) (HB.out.below (belowThen (b1) b2))).mono ?_
      rintro e w3 ⟨rfl, b3⟩
      go_wp2_with fail
      refine (iLessEq b a m n HM.out HN.out _ HQ.out hs' hs B A d c _ (HB.out.below (belowThen (belowThen (b1) b2) b3)) (HA.out.below (belowThen (belowThen (b1) b2) b3))).mono ?_
      rintro e w4 ⟨rfl, b4⟩
      go_wp2
      go_ret
      exact ⟨retB HR.out, belowThen (belowThen (belowThen (b1) b2) b3) b4⟩
  · have HR := Lib.hid (show false = r by rw [← hr, hp]; rfl); clear hr
    have HP := Lib.hid hp; clear hp
    go_enter Try.func23, Try.ntmps23
    go_wp2_with fail
    refine (iValid a n HN.out _ HV.out A c _ HA.out).mono ?_
    rintro e w1 ⟨rfl, b1⟩
    go_wp2_with fail
    refine (iValid b m HM.out _ HW.out B d _ (HB.out.below (b1))).mono ?_
    rintro e w2 ⟨rfl, b2⟩
    go_wp2_with fail
    refine (iLessEq a b n m HN.out HM.out _ HP.out hs hs' A B c d _ (HA.out.below (belowThen (b1) b2)) (HB.out.below (belowThen (b1) b2))).mono ?_
    rintro e w3 ⟨rfl, b3⟩
    go_wp2
    go_ret
    exact ⟨retB HR.out, belowThen (belowThen (b1) b2) b3⟩
end Go.Proofs.Ytdppccipajfamaa
