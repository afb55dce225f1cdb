/-
  The contracts of the reference's Meet and Advance.
-/
import Derived.Test.YtdppccipajfamaaRefOps
namespace Go.Proofs.Ytdppccipajfamaa
open Go.RowKit

theorem genNext {g : Int → Int} {s r : Ck} {L : List Int} {i : Nat} (hi : i < L.length) (e : s ++ gen g (L.drop i) = r) {x V : Int} (hx : L[i] = x) (hV : g x = V) : s ++ (kp x V ++ gen g (L.drop (i + 1))) = r := by
  rw [← e, List.drop_eq_getElem_cons hi, gen, hx, hV]
theorem genEnd {g : Int → Int} {s r : Ck} {L : List Int} {i : Nat} (hi : L.length ≤ i) (e : s ++ gen g (L.drop i) = r) : s = r := by
  rw [← e, List.drop_eq_nil_of_le hi]; simp [gen]
set_option maxHeartbeats 1000000 in
theorem rMeet (a b : Ck) (n m : Nat) (hn : a.length = n) (hm : b.length = m) (r : Ck) (hr : meetC a b = r) (hs : n ≤ 65536) (hs' : m ≤ 65536) (A B : Option Addr) (c d : Nat) (w : World) (ha : Rc w A c a) (hb : Rc w B d b) :
    Calls Try.prog 20 #[.slice A n c, .slice B m d] w (GivesC r w) := by
  have HA := Lib.hid ha; clear ha
  have HB := Lib.hid hb; clear hb
  have HN := Lib.hid hn; clear hn
  have HM := Lib.hid hm; clear hm
  rcases hva : vldB a with _ | _
  · have HR := Lib.hid (show [] = r by rw [← hr, meetC, mrgC, if_neg (fun h => vldNo.1 hva h.1)]); clear hr
    have HV := Lib.hid hva; clear hva
    go_enter Try.func20, Try.ntmps20
    go_wp2_with fail
    refine (rValid a n HN.out _ HV.out A c _ HA.out).mono ?_
    rintro e w1 ⟨rfl, q, rfl⟩
    go_wp2
    go_ret
    exact ⟨_, rfl, by rw [← HR.out]; exact OwnC.nil _ _, belowN w q⟩
  rcases hvb : vldB b with _ | _
  · have HR := Lib.hid (show [] = r by rw [← hr, meetC, mrgC, if_neg (fun h => vldNo.1 hvb h.2)]); clear hr
    have HV := Lib.hid hva; clear hva
    have HW := Lib.hid hvb; clear hvb
    go_enter Try.func20, Try.ntmps20
    go_wp2_with fail
    refine (rValid a n HN.out _ HV.out A c _ HA.out).mono ?_
    rintro e w1 ⟨rfl, q, rfl⟩
    go_wp2_with fail
    refine (rValid b m HM.out _ HW.out B d _ (HB.out.drewN _)).mono ?_
    rintro e w2 ⟨rfl, q2, rfl⟩
    go_wp2
    go_ret
    exact ⟨_, rfl, by rw [← HR.out]; exact OwnC.nil _ _, belowN w _⟩
  have HR := Lib.hid (show [] ++ gen (fun x => min (cnt a x) (cnt b x)) ((ags a b).drop 0) = r by rw [← hr, ← meetGen (vldIff.1 hva) (vldIff.1 hvb)]; rfl); clear hr
  have HV := Lib.hid hva; clear hva
  have HW := Lib.hid hvb; clear hvb
  obtain ⟨L, hL⟩ : ∃ L, ags a b = L := ⟨_, rfl⟩
  rw [hL] at HR
  obtain ⟨nL, hnL⟩ : ∃ k, L.length = k := ⟨_, rfl⟩
  have hle := lenAgs a b
  rw [hL, hnL, HN.out, HM.out] at hle
  have HL := Lib.hid hL; clear hL
  have HNL := Lib.hid hnL; clear hnL
  go_enter Try.func20, Try.ntmps20
  go_wp2_with fail
  refine (rValid a n HN.out _ HV.out A c _ HA.out).mono ?_
  rintro e w1 ⟨rfl, q, rfl⟩
  go_wp2_with fail
  refine (rValid b m HM.out _ HW.out B d _ (HB.out.drewN _)).mono ?_
  rintro e w2 ⟨rfl, q2, rfl⟩
  go_wp2_with fail
  refine (rAgents a b n m HN.out HM.out L HL.out hs hs' A B c d _ (HA.out.drewN _) (HB.out.drewN _)).mono ?_
  rintro e w1 ⟨AL, cL, rfl, rL, b1⟩
  rw [HNL.out]
  have B1 := Lib.hid (show Below w.heap.size w w1 from belowThen (belowN w _) b1); clear b1
  have RL := Lib.hid rL; clear rL
  have HA1 := Lib.hid (HA.out.below B1.out)
  have HB1 := Lib.hid (HB.out.below B1.out)
  clear HA HB
  have hO := Lib.hid (OwnC.nil w1 w1.heap.size)
  have hlL := RL.out.le
  rw [HNL.out] at hlL
  have hcL := RL.out.max
  unfold maxLen at hcL
  go_wp2
  go_loopw [5, 7] (fun vo vi wr => ∃ (i : Nat) (s : Ck), vi = .int .i64 i ∧ i ≤ nL ∧ s.length ≤ i ∧ Hid (s ++ gen (fun x => min (cnt a x) (cnt b x)) (L.drop i) = r) ∧ OwnC wr w1.heap.size vo s ∧ Below w1.heap.size w1 wr) (fun _ vi _ => nL - (intOf vi).toNat)
  case atStart => exact ⟨0, [], rfl, Nat.zero_le _, by simp, HR, hO.out, Below.refl _ _⟩
  case round =>
    clear HR hO
    obtain ⟨i, s, rfl, hi, hsl, HT, os, hb⟩ := hrel
    by_cases hin : i < nL
    · have hil : i < L.length := by have := HNL.out; omega
      obtain ⟨ad, rfl, hbl, hcl⟩ := RL.out.one hil
      have hcw := (hb.cell (p := ad.add i) (by rw [addBlock]; exact hbl)).trans hcl
      obtain ⟨x, hx⟩ : ∃ x, L[i] = x := ⟨_, rfl⟩
      obtain ⟨M, hM⟩ : ∃ M, cnt a x = M := ⟨_, rfl⟩
      obtain ⟨N, hN⟩ : ∃ N, cnt b x = N := ⟨_, rfl⟩
      rw [hx] at hcw hcl
      clear hcl
      have HAR := Lib.hid (HA1.out.below hb)
      have HBR := Lib.hid (HB1.out.below hb)
      have hz1 := hb.size
      have HOS := Lib.hid os; clear os
      by_cases hMN : N < M
      · have HS0 := genNext hil HT.out (V := N) hx (by show min (cnt a x) (cnt b x) = N; omega)
        have H1 := Lib.hid hM; clear hM
        have H2 := Lib.hid hN; clear hN
        have HX := Lib.hid hx; clear hx
        by_cases h0 : 0 < N
        · have HS := Lib.hid (kpYes h0 HS0); clear HS0
          go_wp2_with fail
          go_region_held3 (fun w' => w'.cell? (ad.add i) = some (.int .i64 x))
            (first | assumption | exact hcw)
            (first
              | (go_at_call 28; with_reducible refine (cntQ a x n HN.out _ H1.out A c _ HAR.out.drew).mono ?_; (rintro e w' ⟨rfl, rfl⟩))
              | (go_at_call 28; with_reducible refine (cntQ b x m HM.out _ H2.out B d _ HBR.out.drew).mono ?_; (rintro e w' ⟨rfl, rfl⟩)))
          go_wp2_with (at_builtin; refine appC _ rfl (.tmp 41) (.tmp 48) rfl w1.heap.size _ s rfl (OwnC.drew (OwnC.alloc HOS.out _)) wr.heap.size x N rfl (Rc.drew (cellTick wr _ _ _)) (by omega) (by simp; omega) ?_; intro v2 w2 o2 _ b2; have B2 := ((hb.alloc hz1 _).drew).trans b2)
          go_roundw
          case rel => exact ⟨i + 1, _, by go_num, by omega, by rw [List.length_append]; simp; omega, HS, o2, B2⟩
          case measure => simp [intOf]; omega
        · have HS := Lib.hid (kpNo h0 HS0); clear HS0
          go_wp2_with fail
          go_region_held3 (fun w' => w'.cell? (ad.add i) = some (.int .i64 x))
            (first | assumption | exact hcw)
            (first
              | (go_at_call 28; with_reducible refine (cntQ a x n HN.out _ H1.out A c _ HAR.out.drew).mono ?_; (rintro e w' ⟨rfl, rfl⟩))
              | (go_at_call 28; with_reducible refine (cntQ b x m HM.out _ H2.out B d _ HBR.out.drew).mono ?_; (rintro e w' ⟨rfl, rfl⟩)))
          go_wp2
          go_roundw
          case rel => exact ⟨i + 1, _, by go_num, by omega, by omega, HS, OwnC.drew HOS.out, hb.drew⟩
          case measure => simp [intOf]; omega
      · have HS0 := genNext hil HT.out (V := M) hx (by show min (cnt a x) (cnt b x) = M; omega)
        have H1 := Lib.hid hM; clear hM
        have H2 := Lib.hid hN; clear hN
        have HX := Lib.hid hx; clear hx
        by_cases h0 : 0 < M
        · have HS := Lib.hid (kpYes h0 HS0); clear HS0
          go_wp2_with fail
          go_region_held3 (fun w' => w'.cell? (ad.add i) = some (.int .i64 x))
            (first | assumption | exact hcw)
            (first
              | (go_at_call 28; with_reducible refine (cntQ a x n HN.out _ H1.out A c _ HAR.out.drew).mono ?_; (rintro e w' ⟨rfl, rfl⟩))
              | (go_at_call 28; with_reducible refine (cntQ b x m HM.out _ H2.out B d _ HBR.out.drew).mono ?_; (rintro e w' ⟨rfl, rfl⟩)))
          go_wp2_with (at_builtin; refine appC _ rfl (.tmp 41) (.tmp 48) rfl w1.heap.size _ s rfl (OwnC.drew (OwnC.alloc HOS.out _)) wr.heap.size x M rfl (Rc.drew (cellTick wr _ _ _)) (by omega) (by simp; omega) ?_; intro v2 w2 o2 _ b2; have B2 := ((hb.alloc hz1 _).drew).trans b2)
          go_roundw
          case rel => exact ⟨i + 1, _, by go_num, by omega, by rw [List.length_append]; simp; omega, HS, o2, B2⟩
          case measure => simp [intOf]; omega
        · have HS := Lib.hid (kpNo h0 HS0); clear HS0
          go_wp2_with fail
          go_region_held3 (fun w' => w'.cell? (ad.add i) = some (.int .i64 x))
            (first | assumption | exact hcw)
            (first
              | (go_at_call 28; with_reducible refine (cntQ a x n HN.out _ H1.out A c _ HAR.out.drew).mono ?_; (rintro e w' ⟨rfl, rfl⟩))
              | (go_at_call 28; with_reducible refine (cntQ b x m HM.out _ H2.out B d _ HBR.out.drew).mono ?_; (rintro e w' ⟨rfl, rfl⟩)))
          go_wp2
          go_roundw
          case rel => exact ⟨i + 1, _, by go_num, by omega, by omega, HS, OwnC.drew HOS.out, hb.drew⟩
          case measure => simp [intOf]; omega
    · have hE := Lib.hid (genEnd (by have := HNL.out; omega) HT.out)
      go_wp2
      go_ret
      exact ⟨_, rfl, by rw [← hE.out]; exact os.mono B1.out.size, belowThen B1.out hb⟩

set_option maxHeartbeats 1000000 in
theorem rAdvance (a : Ck) (z : Int) (n : Nat) (hn : a.length = n) (r : Ck) (hr : advC a z = r) (hs : n ≤ 65536) (A : Option Addr) (c : Nat) (w : World) (ha : Rc w A c a) :
    Calls Try.prog 16 #[.slice A n c, .int .i64 z] w (GivesC r w) := by
  have HA := Lib.hid ha; clear ha
  have HN := Lib.hid hn; clear hn
  rcases hva : vldB a with _ | _
  · have HR := Lib.hid (show [] = r by rw [← hr, advNone (fun h => vldNo.1 hva h.1)]); clear hr
    have HV := Lib.hid hva; clear hva
    go_enter Try.func16, Try.ntmps16
    go_wp2_with fail
    refine (rValid a n HN.out _ HV.out A c _ HA.out).mono ?_
    rintro e w1 ⟨rfl, q, rfl⟩
    go_wp2
    go_ret
    exact ⟨_, rfl, by rw [← HR.out]; exact OwnC.nil _ _, belowN w q⟩
  obtain ⟨C, hC⟩ : ∃ C, cnt a z = C := ⟨_, rfl⟩
  by_cases hmax : C = 2147483647
  · have HR := Lib.hid (show [] = r by rw [← hr, advNone (fun h => h.2 (hC.trans hmax))]); clear hr
    have HV := Lib.hid hva; clear hva
    have HC := Lib.hid hC; clear hC
    have hm1 : (C == 2147483647) = true := by simpa using hmax
    clear hmax
    go_enter Try.func16, Try.ntmps16
    go_wp2_with fail
    refine (rValid a n HN.out _ HV.out A c _ HA.out).mono ?_
    rintro e w1 ⟨rfl, q, rfl⟩
    go_wp2_with fail
    refine (cntQ a z n HN.out _ HC.out A c _ (HA.out.drewN _)).mono ?_
    rintro e w1 ⟨rfl, rfl⟩
    go_wp2
    go_ret
    exact ⟨_, rfl, by rw [← HR.out]; exact OwnC.nil _ _, belowN w q⟩
  have HR := Lib.hid (show [] ++ ((ags a [(z, 1)]).drop 0).map (fun y => (y, cnt a y + if y = z then 1 else 0)) = r by rw [← hr, ← advGen (vldIff.1 hva) (by rw [hC]; exact hmax)]; rfl); clear hr
  have HBD := Lib.hid (cntBd (vldIff.1 hva))
  have HV := Lib.hid hva; clear hva
  have HC := Lib.hid hC; clear hC
  have hm1 : (C == 2147483647) = false := by simpa using hmax
  clear hmax
  obtain ⟨L, hL⟩ : ∃ L, ags a [(z, 1)] = L := ⟨_, rfl⟩
  rw [hL] at HR
  obtain ⟨nL, hnL⟩ : ∃ k, L.length = k := ⟨_, rfl⟩
  have hle := lenAgs a [(z, 1)]
  rw [hL, hnL, HN.out] at hle
  simp only [List.length_cons, List.length_nil] at hle
  have HL := Lib.hid hL; clear hL
  have HNL := Lib.hid hnL; clear hnL
  go_enter Try.func16, Try.ntmps16
  go_wp2_with fail
  refine (rValid a n HN.out _ HV.out A c _ HA.out).mono ?_
  rintro e w1 ⟨rfl, q, rfl⟩
  go_wp2_with fail
  refine (cntQ a z n HN.out _ HC.out A c _ (HA.out.drewN _)).mono ?_
  rintro e w1 ⟨rfl, rfl⟩
  go_wp2_with fail
  refine (rAgents a [(z, 1)] n 1 HN.out rfl L HL.out hs (by omega) A _ c 1 _ ((HA.out.drewN q).alloc _) (cellTick (w.drewN q) z 1 _)).mono ?_
  rintro e w1 ⟨AL, cL, rfl, rL, b1⟩
  rw [HNL.out]
  have B1 := Lib.hid (show Below w.heap.size w w1 from stepA (belowN w q) (b1.mono (by simp))); clear b1
  have RL := Lib.hid rL; clear rL
  have HA1 := Lib.hid (HA.out.below B1.out)
  clear HA
  have hO := Lib.hid (OwnC.nil w1 w1.heap.size)
  have hlL := RL.out.le
  rw [HNL.out] at hlL
  have hcL := RL.out.max
  unfold maxLen at hcL
  go_wp2
  go_loopw [5, 7] (fun vo vi wr => ∃ (i : Nat) (s : Ck), vi = .int .i64 i ∧ i ≤ nL ∧ s.length ≤ i ∧ Hid (s ++ (L.drop i).map (fun y => (y, cnt a y + if y = z then 1 else 0)) = r) ∧ OwnC wr w1.heap.size vo s ∧ Below w1.heap.size w1 wr) (fun _ vi _ => nL - (intOf vi).toNat)
  case atStart => exact ⟨0, [], rfl, Nat.zero_le _, by simp, HR, hO.out, Below.refl _ _⟩
  case round =>
    clear HR hO
    obtain ⟨i, s, rfl, hi, hsl, HT, os, hb⟩ := hrel
    by_cases hin : i < nL
    · have hil : i < L.length := by have := HNL.out; omega
      obtain ⟨ad, rfl, hbl, hcl⟩ := RL.out.one hil
      have hcw := (hb.cell (p := ad.add i) (by rw [addBlock]; exact hbl)).trans hcl
      obtain ⟨y, hy⟩ : ∃ y, L[i] = y := ⟨_, rfl⟩
      obtain ⟨M, hM⟩ : ∃ M, cnt a y = M := ⟨_, rfl⟩
      rw [hy] at hcw hcl
      clear hcl
      have hMb := HBD.out y
      rw [hM] at hMb
      obtain ⟨hM1, hM2⟩ := hMb
      have HAR := Lib.hid (HA1.out.below hb)
      have hz1 := hb.size
      have HOS := Lib.hid os; clear os
      by_cases hyz : y = z
      · have HS := Lib.hid (mapNext hil HT.out (y := (y, M + 1)) (by show (L[i], cnt a L[i] + if L[i] = z then 1 else 0) = (y, M + 1); rw [hy, if_pos hyz, hM]))
        have hyz1 : (y == z) = true := by simpa using hyz
        clear hyz
        have H1 := Lib.hid hM; clear hM
        have HX := Lib.hid hy; clear hy
        go_wp2_with fail
        refine (rCount a y n HN.out _ H1.out A c _ HAR.out).mono ?_
        rintro e w' ⟨rfl, rfl⟩
        go_wp2_with (at_builtin; refine appC _ rfl (.tmp 43) (.tmp 50) rfl w1.heap.size _ s rfl (OwnC.alloc HOS.out _) wr.heap.size y (M + 1) rfl (cellTick _ _ _ _) (by omega) (by simp; omega) ?_; intro v2 w2 o2 _ b2; have B2 := (hb.alloc hz1 _).trans b2)
        go_roundw
        case rel => exact ⟨i + 1, _, by go_num, by omega, by rw [List.length_append]; simp; omega, HS, o2, B2⟩
        case measure => simp [intOf]; omega
      · have HS := Lib.hid (mapNext hil HT.out (y := (y, M)) (by show (L[i], cnt a L[i] + if L[i] = z then 1 else 0) = (y, M); rw [hy, if_neg hyz, hM, Int.add_zero]))
        have hyz1 : (y == z) = false := by simpa using hyz
        clear hyz
        have H1 := Lib.hid hM; clear hM
        have HX := Lib.hid hy; clear hy
        go_wp2_with fail
        refine (rCount a y n HN.out _ H1.out A c _ HAR.out).mono ?_
        rintro e w' ⟨rfl, rfl⟩
        go_wp2_with (at_builtin; refine appC _ rfl (.tmp 43) (.tmp 50) rfl w1.heap.size _ s rfl (OwnC.alloc HOS.out _) wr.heap.size y M rfl (cellTick _ _ _ _) (by omega) (by simp; omega) ?_; intro v2 w2 o2 _ b2; have B2 := (hb.alloc hz1 _).trans b2)
        go_roundw
        case rel => exact ⟨i + 1, _, by go_num, by omega, by rw [List.length_append]; simp; omega, HS, o2, B2⟩
        case measure => simp [intOf]; omega
    · have hE := Lib.hid (mapEnd (by have := HNL.out; omega) HT.out)
      go_wp2
      go_ret
      exact ⟨_, rfl, by rw [← hE.out]; exact os.mono B1.out.size, belowThen B1.out hb⟩
end Go.Proofs.Ytdppccipajfamaa
