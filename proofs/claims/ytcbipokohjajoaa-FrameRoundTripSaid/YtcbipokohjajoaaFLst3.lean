/-
  The contracts of the reference's Int, Ints, AppendInts.
-/
import Derived.Test.YtcbipokohjajoaaFLst2
namespace Go.Proofs.Ytcbipokohjajoaa
open Go.RowKit

set_option maxRecDepth 100000 in
theorem rInt (l : List UInt8) (n : Nat) (hn : l.length = n) (hs : n ≤ 300000) (A : Option Addr) (c : Nat) (w : World) (ha : Rb w A c l) :
    Calls Try.prog 14 #[.slice A n c] w (GivesF (.int .i64 (sgn (valU l))) (resU l) (errU l) w) := by
  have HD := Lib.hid (rUint l n hn hs A c w ha); clear ha hn
  by_cases h : errU l = 0
  · have hv := valLeU l
    obtain ⟨V, hV⟩ : ∃ V, valU l = V := ⟨_, rfl⟩
    obtain ⟨R, hR⟩ : ∃ R, resU l = R := ⟨_, rfl⟩
    rw [h, hV, hR] at HD ⊢
    rw [hV] at hv
    clear h hV hR
    by_cases ho : V % 2 = 1
    · have hq : ((V : Int) % 2 == 1) = true := by simp; omega
      have HX := Lib.hid (show -((V : Int) / 2) - 1 = sgn V by unfold sgn; rw [if_pos ho]; omega)
      clear ho
      go_enter Try.func14, Try.ntmps14
      go_wp2_with fail
      refine HD.out.mono ?_
      rintro e w1 ⟨B, q, d, rfl, hq, r1, hf, b1⟩
      go_wp2
      go_ret3
      rw [HX.out]
      exact ⟨B, q, d, rfl, hq, r1, hf, b1⟩
    · have hq : ((V : Int) % 2 == 1) = false := by simp; omega
      have HX := Lib.hid (show ((V : Int) / 2) = sgn V by unfold sgn; rw [if_neg ho]; omega)
      clear ho
      go_enter Try.func14, Try.ntmps14
      go_wp2_with fail
      refine HD.out.mono ?_
      rintro e w1 ⟨B, q, d, rfl, hq, r1, hf, b1⟩
      go_wp2
      go_ret3
      rw [HX.out]
      exact ⟨B, q, d, rfl, hq, r1, hf, b1⟩
  · have hv := valErr h
    rw [hv.1, hv.2] at HD ⊢
    obtain ⟨E, hE⟩ : ∃ E, errU l = E := ⟨_, rfl⟩
    rw [hE] at h HD ⊢
    have hE0 : ((E : Int) != 0) = true := by simp; omega
    clear hE hv h
    go_enter Try.func14, Try.ntmps14
    go_wp2_with fail
    refine HD.out.mono ?_
    rintro e w1 ⟨B, q, d, rfl, hq, r1, hf, b1⟩
    go_wp2
    go_ret3
    exact ⟨none, 0, 0, rfl, Lib.hid rfl, Rb.nil, Lib.hid (by simp), b1⟩
theorem maxIf (a : Int) : (if a < 0 then 0 else a) = max a 0 := by split <;> omega
set_option maxRecDepth 100000 in
set_option maxHeartbeats 1000000 in
theorem rIntsR (l : List UInt8) (most : Int) (n : Nat) (hn : l.length = n) (hs : n ≤ 300000) (A : Option Addr) (c : Nat) (w : World) (ha : Rb w A c l) :
    Calls Try.prog 21 #[.slice A n c, .int .i64 most] w (GivesN (intsD l most) w) := by
  have HD := Lib.hid (rUint l n hn hs A c w ha); clear ha
  have hrl := resLenLe l
  rw [hn] at hrl
  clear hn
  by_cases h : errU l = 0
  · have hvl := valLeU l
    obtain ⟨t, ht⟩ : ∃ t, intsD l most = t := ⟨_, rfl⟩
    rw [ht]
    by_cases hb : max most 0 < (valU l : Int)
    · have HT := Lib.hid (show ([], [], 4) = t by rw [← ht]; unfold intsD; rw [errDBig h hb]; rfl)
      obtain ⟨V, hV⟩ : ∃ V, valU l = V := ⟨_, rfl⟩
      rw [h, hV] at HD
      rw [hV] at hb
      have hb' : (if most < 0 then 0 else most) < (V : Int) := by rw [maxIf]; exact hb
      clear h hV ht hvl
      rcases Int.lt_or_le most 0 with hm | hm
      · have hx : (0 : Int) < V := by omega
        clear hb hb'
        go_enter Try.func21, Try.ntmps21
        go_wp2_with fail
        refine HD.out.mono ?_
        rintro e w1 ⟨B, q, d, rfl, hq, r1, hf, b1⟩
        go_wp2
        go_ret3
        exact GivesN.err HT.out b1
      · have hx : most < (V : Int) := by omega
        clear hb hb'
        go_enter Try.func21, Try.ntmps21
        go_wp2_with fail
        refine HD.out.mono ?_
        rintro e w1 ⟨B, q, d, rfl, hq, r1, hf, b1⟩
        go_wp2
        go_ret3
        exact GivesN.err HT.out b1
    · have HT := Lib.hid (show ints (valU l) (resU l) = t by rw [← ht]; unfold intsD; rw [if_pos (errDOk h hb)])
      obtain ⟨V, hV⟩ : ∃ V, valU l = V := ⟨_, rfl⟩
      obtain ⟨R0, hR⟩ : ∃ R0, resU l = R0 := ⟨_, rfl⟩
      rw [h, hV, hR] at HD
      rw [hV, hR] at HT
      rw [hV] at hb hvl
      rw [hR] at hrl
      have hb' : ¬ (if most < 0 then 0 else most) < (V : Int) := by rw [maxIf]; exact hb
      clear h hV ht hR hb
      go_enter Try.func21, Try.ntmps21
      go_wp2_with fail
      refine HD.out.mono ?_
      rintro e w1 ⟨B, q, d, rfl, HQ, r1, hf, b1⟩
      have hqn := hrl
      rw [HQ.out] at hqn
      have R1 := Lib.hid r1
      clear r1 hrl HD
      go_wp2
      all_goals
        go_loopw [8, 10, 11] (fun vr vl vi wr => ∃ (i : Nat) (p : List Int) (R : List UInt8) (q : Nat) (B : Option Addr) (d : Nat), vi = .int .i64 i ∧ i ≤ V ∧ p.length = i ∧ vr = .slice B q d ∧ Hid (R.length = q) ∧ q + i ≤ 300000 ∧ Rb wr B d R ∧ OwnI wr w.heap.size vl p ∧ Hid (comb p (ints (V - i) R) = t) ∧ Below w.heap.size w wr) (fun _ _ vi _ => V - (intOf vi).toNat)
        case atStart => exact ⟨0, [], R0, q, B, d, rfl, Nat.zero_le _, rfl, rfl, HQ, by omega, R1.out, OwnI.nil _ _, Lib.hid (by rw [combNil]; exact HT.out), b1⟩
        case round =>
          clear HT HQ R1 b1
          obtain ⟨i, p, R, q, B, d, rfl, hi, hp, rfl, HQ, hqi, r1, os, HC, hb⟩ := hrel
          have hz := hb.size
          by_cases hlt : i < V
          · first
            | (exfalso; omega)
            | (
                obtain ⟨m, hm⟩ : ∃ m, V - i = m + 1 := ⟨V - i - 1, by omega⟩
                rw [hm] at HC
                have HDD := Lib.hid (rInt R q HQ.out (by omega) B d wr r1)
                have OS := Lib.hid os; clear os r1
                have HP := Lib.hid hp; clear hp
                by_cases he : errU R = 0
                · have HC2 := Lib.hid ((combNext (p := p) (k := m) he).symm.trans HC.out)
                  have hrs := resLen he
                  rw [HQ.out] at hrs
                  rw [he] at HDD
                  obtain ⟨V2, hV2⟩ : ∃ V2, sgn (valU R) = V2 := ⟨_, rfl⟩
                  obtain ⟨R2, hR2⟩ : ∃ R2, resU R = R2 := ⟨_, rfl⟩
                  rw [hV2] at HDD HC2
                  rw [hR2] at HDD HC2 hrs
                  clear hV2 hR2 he HC
                  go_wp2_with fail
                  refine HDD.out.mono ?_
                  rintro e w2 ⟨B2, q2, d2, rfl, hq2, r2, HF2, b2⟩
                  have hrs2 := hrs
                  rw [hq2.out] at hrs2
                  have OS2 := Lib.hid (ownChg OS.out (Chg.ofBelow b2 (fun _ => True)) (fun _ _ => trivial))
                  have HB2 := Lib.hid (belowThen hb b2)
                  have hz2 := HB2.out.size
                  clear hrs
                  go_wp2_with (at_builtin; refine appIG _ rfl (.tmp 42) (.tmp 44) rfl w.heap.size _ p rfl (OwnI.alloc OS2.out _) (some ⟨w2.heap.size, 0, none⟩) 1 1 [V2] rfl rfl (Rd.litOne w2 _) (by rw [HP.out]; simp; omega) (by simp; omega) ?_; intro v3 w3 o3 g3 b3)
                  go_roundw
                  case rel => exact ⟨i + 1, _, R2, q2, B2, d2, by go_num, by omega, by rw [List.length_append, HP.out]; rfl, rfl, hq2, by omega, (r2.alloc _).chg (Chg.ofGrown g3 (F := fun k => wr.heap.size ≤ k) (fun k hk he => by have := World.ownsRow.lt OS.out k he; omega)) (fun ad ha _ => HF2.out ad ha), o3, Lib.hid (by rw [show V - (i + 1) = m by omega]; exact HC2.out), (HB2.out.alloc hz2 _).trans b3⟩
                  case measure => simp [intOf]; omega
                · have HC2 := Lib.hid ((combErr (p := p) (k := m) he).symm.trans HC.out)
                  have hv2 := valErr he
                  rw [hv2.1, hv2.2] at HDD
                  obtain ⟨E, hE⟩ : ∃ E, errU R = E := ⟨_, rfl⟩
                  rw [hE] at HDD HC2 he
                  have hE0 : ((E : Int) != 0) = true := by simp; omega
                  clear hE hv2 he HC
                  go_wp2_with fail
                  refine HDD.out.mono ?_
                  rintro e w2 ⟨B2, q2, d2, rfl, hq2, r2, HF2, b2⟩
                  go_wp2
                  go_ret3
                  exact GivesN.err HC2.out (belowThen hb b2))
          · have hvi : V - i = 0 := by omega
            have HC2 := Lib.hid (show (p, R, 0) = t by have h := HC.out; rw [hvi, combZero] at h; exact h)
            obtain ⟨AL, cL, rfl, rL, _⟩ := OwnI.rd os
            have RL := Lib.hid rL
            have RR := Lib.hid r1
            clear hvi HC os rL
            rw [hp]
            go_wp2
            go_ret3
            exact GivesN.mk HC2.out hp HQ.out RL.out RR.out hb
  · have HT := Lib.hid (show ([], [], errU l) = intsD l most by unfold intsD; rw [errDNo h, if_neg h])
    have hv := valErr h
    rw [hv.1, hv.2] at HD
    obtain ⟨E, hE⟩ : ∃ E, errU l = E := ⟨_, rfl⟩
    rw [hE] at HD HT h
    have hE0 : ((E : Int) != 0) = true := by simp; omega
    clear hv hE h
    go_enter Try.func21, Try.ntmps21
    go_wp2_with fail
    refine HD.out.mono ?_
    rintro e w1 ⟨B, q, d, rfl, hq, r1, hf, b1⟩
    go_wp2
    go_ret3
    exact GivesN.err HT.out b1
set_option maxRecDepth 100000 in
set_option maxHeartbeats 1000000 in
theorem rAppIs (l : List UInt8) (L : List Int) (n m : Nat) (hn : l.length = n) (hm : L.length = m) (hs : n ≤ 100000) (hs2 : m ≤ 10000) (hL : ∀ x ∈ L, -9223372036854775808 ≤ x ∧ x ≤ 9223372036854775807) (A B : Option Addr) (c d : Nat) (w : World) (ha : Rb w A c l) (hb : Rd w B d L) :
    Calls Try.prog 26 #[.slice A n c, .slice B m d] w (GivesO (appIs l L) w) := by
  have hle := hb.le
  have hmax := hb.max
  unfold maxLen at hmax
  rw [hm] at hle
  have HA := Lib.hid ha; clear ha
  have HN := Lib.hid hn; clear hn
  have HB := Lib.hid hb; clear hb
  have HM := Lib.hid hm; clear hm
  have HL := Lib.hid hL; clear hL
  go_enter Try.func26, Try.ntmps26
  go_wp2
  go_loop [5] (fun vi => ∃ (k : Nat), vi = .int .i64 k ∧ k ≤ m ∧ Hid ((L.take k).all fitS = true)) (fun vi => m - (intOf vi).toNat)
  case atStart => exact ⟨0, rfl, Nat.zero_le _, Lib.hid (by simp)⟩
  case round =>
    obtain ⟨k, rfl, hk, HF⟩ := hrel
    by_cases hlt : k < m
    · have hkl : k < L.length := by have := HM.out; omega
      obtain ⟨ad, hAd, hbl, hcw⟩ := HB.out.one hkl
      subst hAd
      by_cases hf : fitS L[k] = true
      · have HF2 := Lib.hid (allNext hkl HF.out hf)
        have HC := Lib.hid (rFits L[k] true hf w)
        obtain ⟨x, hxx⟩ : ∃ x, L[k] = x := ⟨_, rfl⟩
        rw [hxx] at hcw HC
        clear hxx hf
        go_wp2_with fail
        refine HC.out.mono ?_
        rintro e w0 ⟨rfl, rfl⟩
        go_wp2
        go_round
        case rel => exact ⟨k + 1, by go_num, by omega, HF2⟩
        case measure => simp [intOf]; omega
      · have HC := Lib.hid (rFits L[k] false (by simpa using hf) w)
        have HR := Lib.hid (appIsNo (l := l) hkl (by simpa using hf))
        rw [HR.out]
        obtain ⟨x, hxx⟩ : ∃ x, L[k] = x := ⟨_, rfl⟩
        rw [hxx] at hcw HC
        clear hxx hf
        go_wp2_with fail
        refine HC.out.mono ?_
        rintro e w0 ⟨rfl, rfl⟩
        go_wp2_with (at_builtin; refine appB _ rfl (.tmp 20) (.tmp 21) rfl w.heap.size _ [] rfl (OwnB.made w w.heap.size (Nat.le_refl _)) A n c l rfl HN.out.symm (HA.out.alloc _) (by have := HN.out; simp; omega) (by simp) ?_; intro v2 w2 o2 b2)
        rw [List.nil_append] at o2
        go_ret
        exact GivesO.of o2 (((Below.refl _ w).alloc (Nat.le_refl _) _).trans b2)
    · have HF3 := HF.out
      rw [List.take_of_length_le (by have := HM.out; omega)] at HF3
      have HR := Lib.hid (appIsOk (l := l) HF3)
      have HAL := Lib.hid HF3
      have HU := Lib.hid (rAppU l n HN.out (by omega) (m : Int) A c w HA.out)
      rw [encUNat (by omega)] at HU
      have hm9 := encLen m 9 (by omega) (by omega)
      have hlen : (l ++ encL m).length ≤ n + 9 := by rw [List.length_append, HN.out]; omega
      obtain ⟨M, hM⟩ : ∃ M, l ++ encL m = M := ⟨_, rfl⟩
      have hR2 := HR.out
      rw [HM.out, hM] at hR2
      have HR2 := Lib.hid hR2
      rw [hM] at HU hlen
      clear hR2 hM HF3 hm9 HR
      go_wp2_with fail
      refine HU.out.mono ?_
      rintro e w1 ⟨D, q, f, rfl, hq, o1, b1⟩
      have O1 := Lib.hid o1
      clear o1
      go_wp2
      go_loopw [6, 7] (fun vo vi wr => ∃ (k : Nat) (D : Option Addr) (q f : Nat), vi = .int .i64 k ∧ k ≤ m ∧ vo = .slice D q f ∧ Hid ((M ++ (L.take k).flatMap encS).length = q) ∧ OwnB wr w.heap.size (.slice D q f) (M ++ (L.take k).flatMap encS) ∧ Below w.heap.size w wr) (fun _ vi _ => m - (intOf vi).toNat)
      case atStart => exact ⟨0, D, q, f, rfl, Nat.zero_le _, rfl, by simpa using hq, by simpa using O1.out, b1⟩
      case round =>
        clear O1 b1 HU
        obtain ⟨j, D, q, f, rfl, hj, rfl, hq, os, hb⟩ := hrel
        have hz := hb.size
        by_cases hlt2 : j < m
        · have hkl : j < L.length := by have := HM.out; omega
          obtain ⟨ad, hAd, hbl, hcell⟩ := HB.out.one hkl
          have hcw := (hb.cell (p := ad.add j) (by rw [addBlock]; exact hbl)).trans hcell
          subst hAd
          have HNX := Lib.hid (show M ++ (L.take (j + 1)).flatMap encS = (M ++ (L.take j).flatMap encS) ++ encS L[j] by rw [flatMapNext hkl, List.append_assoc])
          have hpl := flatMapLen (L.take j)
          rw [List.length_take] at hpl
          have hq9 : q ≤ n + 9 + 9 * m := by
            have h1 := hq.out
            rw [List.length_append] at h1
            have := HM.out; omega
          obtain ⟨x, hxx⟩ : ∃ x, L[j] = x := ⟨_, rfl⟩
          rw [hxx] at hcw HNX
          obtain ⟨P, hP⟩ : ∃ P, M ++ (L.take j).flatMap encS = P := ⟨_, rfl⟩
          rw [hP] at hq os HNX
          have HCC := Lib.hid (rAppI P q hq.out (by omega) x D f wr os.rb.1)
          clear hxx hcell hP os hpl
          go_wp2_with fail
          refine HCC.out.mono ?_
          rintro e w2 ⟨D2, q2, f2, rfl, hq2, o2, b2⟩
          rw [← HNX.out] at hq2 o2
          have o3 := o2.mono hz
          clear o2
          go_wp2
          go_roundw
          case rel => exact ⟨j + 1, D2, q2, f2, by go_num, by omega, rfl, hq2, o3, belowThen hb b2⟩
          case measure => simp [intOf]; omega
        · have htk : L.take j = L := List.take_of_length_le (by have := HM.out; omega)
          rw [htk, ← HR2.out] at hq os
          have OS := Lib.hid os
          clear os htk
          go_wp2
          go_ret
          exact ⟨D, q, f, rfl, hq, OS.out, hb⟩
end Go.Proofs.Ytcbipokohjajoaa
