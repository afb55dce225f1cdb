/-
  The contract of the specification's Scan.
-/
import Derived.Test.YtnlhkeobfidjkaaDoorLxT
namespace Go.Proofs.YtnlhkeobfidjkaaDoor
open Go Go.RowKit

section
variable {s : ByteArray} {k : Nat} (hk : k < s.size)
include hk
theorem lexBlank (h : cls s[k] = 1) : lexT (s.data.toList.drop k) k = lexT (s.data.toList.drop (k + 1)) (k + 1) := by
  have e : endP (fun c => cls c == 0 + 1) (rst (0 + 1)) (s.data.toList.drop k) = 1 := by
    rw [endYes (j := 0) hk h]
    have : more s[k] (s.data.toList.drop (k + 1)) = 0 := by
      unfold more; rw [h]
      cases s.data.toList.drop (k + 1) with
      | nil => rfl
      | cons a u => rw [List.takeWhile_cons]; simp [rst]
    rw [this]
  exact lexSep (j := 0) hk h (by decide) (by rw [e])
theorem lexHash (h : cls s[k] = 2) {E : Nat} (hE : k + ((s.data.toList.drop k).takeWhile (fun c => c != 10)).length = E) : lexT (s.data.toList.drop k) k = lexT (s.data.toList.drop E) E ∧ k < E ∧ E ≤ s.size := by
  have h35 : s[k] = 35 := by
    have := impU8 (fun c => cls c == 2) (fun c => c == 35) (by decide +kernel) (c := s[k]) (by simpa using h)
    simpa using this
  have hE2 : k + endP (fun c => cls c == 1 + 1) (rst (1 + 1)) (s.data.toList.drop k) = E := by
    rw [endYes (j := 1) hk h, ← hE, dropAt s hk, List.takeWhile_cons, h35]
    show _ = k + (List.takeWhile _ _).length.succ
    have : more 35 (s.data.toList.drop (k + 1)) = ((s.data.toList.drop (k + 1)).takeWhile (fun c => c != 10)).length := by unfold more; rfl
    rw [this]; omega
  exact ⟨lexSep (j := 1) hk h (by decide) hE2, endLe (j := 1) hk h hE2⟩
theorem extEnd : (s.extract k s.size).data.toList = s.data.toList.drop k ∧ 0 < (s.extract k s.size).size ∧ (s.extract k s.size).size ≤ s.size := by
  have e : (s.extract k s.size).size = s.size - k := by rw [ByteArray.size_extract]; omega
  refine ⟨?_, by omega, by omega⟩
  rw [Lib.extract_data]
  exact List.take_of_length_le (by rw [List.length_drop]; exact Nat.le_refl _)
theorem lexRef (h : 3 ≤ cls s[k]) {K : Int} {T : List UInt8} {N E : Int} (hT : refT (s.data.toList.drop k) = (K, T, N, E)) :
    (E = 0 → lexT (s.data.toList.drop k) k = consR ⟨K, T, N, k⟩ (lexT (s.data.toList.drop (k + T.length)) (k + T.length)) ∧ 0 < T.length ∧ k + T.length ≤ s.size) ∧ (E ≠ 0 → lexT (s.data.toList.drop k) k = .error (E, k)) := by
  have hml := moreLe s[k] (s.data.toList.drop (k + 1))
  have hle : (s.data.toList.drop (k + 1)).length = s.size - (k + 1) := List.length_drop
  unfold lexT
  rw [dropAt s hk] at hT ⊢
  rw [refT, if_neg (by omega)] at hT
  rw [lxCons, if_neg (by omega), if_neg (by omega)]
  have hsh := mkTokShift parE parV k (cls s[k]) (s[k] :: (s.data.toList.drop (k + 1)).take (more s[k] (s.data.toList.drop (k + 1)))) 0
  rw [Nat.zero_add] at hsh
  rw [hsh]
  cases hm : mkTok parE parV (cls s[k]) (s[k] :: (s.data.toList.drop (k + 1)).take (more s[k] (s.data.toList.drop (k + 1)))) 0 with
  | error e =>
    rw [hm] at hT
    injection hT with h1 hT
    injection hT with h2 hT
    injection hT with h3 h4
    have hne := mkTokErr parE parV hm
    have hp : e.2 = 0 := by
      unfold mkTok at hm
      split at hm
      · split at hm
        · cases hm
        · cases hm; rfl
      · cases hm
    refine ⟨fun h => absurd (h4.trans h) hne, fun _ => ?_⟩
    simp only
    rw [h4, hp, Nat.zero_add]
  | ok t =>
    rw [hm] at hT
    injection hT with h1 hT
    injection hT with h2 hT
    injection hT with h3 h4
    obtain ⟨e1, e2⟩ := mkTokOk parE parV hm
    have hlen : T.length = more s[k] (s.data.toList.drop (k + 1)) + 1 := by rw [← h2, e1, List.length_cons, List.length_take, Nat.min_eq_left hml]
    refine ⟨fun _ => ⟨?_, by omega, by omega⟩, fun h => absurd h4.symm h⟩
    simp only
    rw [List.drop_drop, show k + 1 + more s[k] (s.data.toList.drop (k + 1)) = k + T.length by omega]
    congr 1
    unfold shT
    rw [h1, h2, h3, e2]
    simp
end
theorem noTen {c : UInt8} (h : c ≠ 10) : (c != 10) = true := by simpa using h
set_option maxRecDepth 100000 in
set_option maxHeartbeats 8000000 in
theorem rScan (s : ByteArray) (hs : s.size ≤ 16384) (w : World) : Calls Tryd.prog 10 #[.string s] w (GivesTk (lexT s.data.toList 0) w) := by
  obtain ⟨R, hR⟩ : ∃ R, lexT s.data.toList 0 = R := ⟨_, rfl⟩
  rw [hR]
  have HR : Hid (combR [] (lexT (s.data.toList.drop 0) 0) = R) := Lib.hid (by rw [combNil, List.drop_zero]; exact hR)
  obtain ⟨W, hWE⟩ : ∃ W, w.alloc (.cells #[.int .i64 0, .int .i64 0] 26) = W := ⟨_, rfl⟩
  have hbW : Below w.heap.size w W := by rw [← hWE]; exact belowAlloc w _
  have hB : Blk W w.heap.size 26 #[.int .i64 0, .int .i64 0] := by rw [← hWE]; exact Blk.new w _ _
  have HB := Lib.hid hB
  have HW := Lib.hid hWE
  have HBW := Lib.hid hbW
  clear hWE hB hR hbW
  go_enter Tryd.func10, Tryd.ntmps10
  go_wp2
  rw [HW.out]
  go_loopw [4, 5] (fun vt va wr => ∃ (acc : List Tok) (k : Nat) (tv : Value), k ≤ s.size ∧ va = .int .i64 k ∧ tv = vt ∧ OwnK wr W.heap.size tv acc ∧ acc.length ≤ k ∧ Below W.heap.size W wr ∧ Hid (combR acc (lexT (s.data.toList.drop k) k) = R)) (fun _ i _ => s.size - (intOf i).toNat)
  case atStart => exact ⟨[], 0, _, Nat.zero_le _, rfl, rfl, OwnK.nil _ _, Nat.zero_le _, Below.refl _ _, HR⟩
  case round =>
    obtain ⟨acc, k, tv, hk, rfl, htv, ho, hak, hb, HA⟩ := hrel
    subst htv
    have HO := Lib.hid ho
    have HBO := Lib.hid hb
    by_cases hkl : k < s.size
    · have hk0 : (0 : Int) ≤ k := by omega
      have hk1 : (k : Int) < s.size := by omega
      have h32 : ((s[k].toNat : Int) == 32) = (s[k] == 32) := u8eq s[k] 32
      have h9 : ((s[k].toNat : Int) == 9) = (s[k] == 9) := u8eq s[k] 9
      have h35 : ((s[k].toNat : Int) == 35) = (s[k] == 35) := u8eq s[k] 35
      rcases g1 : s[k] == 32 with _ | _
      rotate_left
      · have hc := impU8 (fun c => c == 32) (fun c => cls c == 1) (by decide +kernel) g1
        have HX := Lib.hid (show combR acc (lexT (s.data.toList.drop (k + 1)) (k + 1)) = R by rw [← HA.out, lexBlank hkl (by simpa using hc)])
        rw [g1] at h32
        clear g1 h9 h35 hc
        go_wp2
        exact ⟨⟨acc, k + 1, _, by omega, by go_num, rfl, HO.out, by omega, HBO.out, HX⟩, by simp [intOf]; omega⟩
      rcases g2 : s[k] == 9 with _ | _
      rotate_left
      · have hc := impU8 (fun c => c == 9) (fun c => cls c == 1) (by decide +kernel) g2
        have HX := Lib.hid (show combR acc (lexT (s.data.toList.drop (k + 1)) (k + 1)) = R by rw [← HA.out, lexBlank hkl (by simpa using hc)])
        rw [g1] at h32
        rw [g2] at h9
        clear g1 g2 h35 hc
        go_wp2
        exact ⟨⟨acc, k + 1, _, by omega, by go_num, rfl, HO.out, by omega, HBO.out, HX⟩, by simp [intOf]; omega⟩
      rcases g3 : s[k] == 35 with _ | _
      rotate_left
      · have hc := impU8 (fun c => c == 35) (fun c => cls c == 2) (by decide +kernel) g3
        obtain ⟨E, hE⟩ : ∃ E, k + ((s.data.toList.drop k).takeWhile (fun c => c != 10)).length = E := ⟨_, rfl⟩
        obtain ⟨hx1, hx2, hx3⟩ := lexHash hkl (by simpa using hc) hE
        have HX := Lib.hid (show combR acc (lexT (s.data.toList.drop E) E) = R by rw [← HA.out, hx1])
        have HE := Lib.hid hE
        rw [g1] at h32
        rw [g2] at h9
        rw [g3] at h35
        clear g1 g2 g3 hc hE hx1
        obtain ⟨wo, hwo⟩ : ∃ x, x = wr := ⟨wr, rfl⟩
        subst hwo
        go_wp2
        go_loopw [5] (fun va wr => ∃ m : Nat, m ≤ s.size ∧ va = .int .i64 m ∧ wr = wo ∧ Hid (m + ((s.data.toList.drop m).takeWhile (fun c => c != 10)).length = E)) (fun i _ => s.size - (intOf i).toNat)
        case atStart => exact ⟨k, hk, rfl, by trivial, HE⟩
        case round =>
          obtain ⟨m, hm, rfl, rfl, HM⟩ := hrel
          by_cases hml : m < s.size
          · have hm0 : (0 : Int) ≤ m := by omega
            have hm1 : (m : Int) < s.size := by omega
            have dm : decide ((m : Int) < s.size) = true := by simpa using hml
            have h10 : ((s[m].toNat : Int) == 10) = (s[m] == 10) := u8eq s[m] 10
            have h10' : ((s[m].toNat : Int) != 10) = (s[m] != 10) := by unfold bne; rw [h10]
            rcases g4 : s[m] == 10 with _ | _
            · have HY := Lib.hid (show m + 1 + ((s.data.toList.drop (m + 1)).takeWhile (fun c => c != 10)).length = E by rw [← HM.out, twGo s _ hml (by unfold bne; rw [g4]; rfl)]; omega)
              have e2 : (s[m] != 10) = true := by unfold bne; rw [g4]; rfl
              rw [e2] at h10'
              rw [g4] at h10
              clear g4 e2
              go_wp2
              go_roundw
              case rel => exact ⟨m + 1, by omega, by go_num, by trivial, HY⟩
              case measure => simp [intOf]; omega
            · have e2 : (s[m] != 10) = false := by unfold bne; rw [g4]; rfl
              have HY := Lib.hid (show m = E by rw [← HM.out, twStop s _ hml e2]; rfl)
              rw [e2] at h10'
              rw [g4] at h10
              clear g4 e2
              go_wp2
              have HY := HY.out
              subst HY
              exact ⟨⟨acc, m, _, by omega, rfl, rfl, HO.out, by omega, HBO.out, HX⟩, by simp [intOf]; omega⟩
          · have dm : decide ((m : Int) < s.size) = false := by simp; omega
            have HY := Lib.hid (show m = E by rw [← HM.out, twEnd s _ (by omega)]; rfl)
            go_wp2
            have HY := HY.out
            subst HY
            exact ⟨⟨acc, m, _, by omega, rfl, rfl, HO.out, by omega, HBO.out, HX⟩, by simp [intOf]; omega⟩
      have hx := extEnd hkl
      obtain ⟨K, T, N, Er, hT⟩ : ∃ K T N Er, refT (s.data.toList.drop k) = (K, T, N, Er) := ⟨_, _, _, _, rfl⟩
      obtain ⟨TB, hTB⟩ : ∃ TB, bs T = TB := ⟨_, rfl⟩
      have HTK := Lib.hid (fun X => rToken (s.extract k s.size) hx.2.1 (by omega) X)
      rw [hx.1, hT] at HTK
      simp only [tokV, hTB] at HTK
      have hTl : T = TB.data.toList := by rw [← hTB, bsTo]
      have hTs : T.length = TB.size := by rw [hTl]; rfl
      clear hx hTB
      by_cases h3 : 3 ≤ cls s[k]
      · obtain ⟨hX1, hX2⟩ := lexRef hkl h3 hT
        rw [g1] at h32
        rw [g2] at h9
        rw [g3] at h35
        clear g1 g2 g3 h3 hT
        by_cases hE : Er = 0
        · have hEn : (Er != 0) = false := by simpa using hE
          obtain ⟨hx1, hx2, hx3⟩ := hX1 hE
          rw [hTs] at hx1 hx2 hx3
          have HX := Lib.hid (show combR (acc ++ [⟨K, T, N, k⟩]) (lexT (s.data.toList.drop (k + TB.size)) (k + TB.size)) = R by rw [← HA.out, hx1, combCons])
          rw [hTl] at HX
          clear hX1 hX2 hx1
          go_wp2_with fail
          refine (HTK.out _).mono ?_
          rintro e w2 ⟨rfl, b2⟩
          have B2 := Lib.hid (belowThen HBO.out b2)
          have hbl := Blk.new w2 40 #[.int .i64 K, .string TB, .int .i64 N, .int .i64 (k : Int)]
          have HBL := Lib.hid hbl
          have HO3 := Lib.hid (((HO.out.below b2).alloc (.cells #[.int .i64 K, .string TB, .int .i64 N, .int .i64 (k : Int)] 40)).alloc (.cells #[.int .i64 K, .string TB, .int .i64 N, .int .i64 (k : Int)] 40))
          have HEK : Hid (EK ((w2.alloc (.cells #[.int .i64 K, .string TB, .int .i64 N, .int .i64 (k : Int)] 40)).alloc (.cells #[.int .i64 K, .string TB, .int .i64 N, .int .i64 (k : Int)] 40)) (w2.heap.size + 1) 0 ⟨K, TB.data.toList, N, k⟩) := Lib.hid (by
            have := ekNew (w2.alloc (.cells #[.int .i64 K, .string TB, .int .i64 N, .int .i64 (k : Int)] 40)) ⟨K, TB.data.toList, N, k⟩ 40
            rwa [World.size_alloc] at this)
          have HC1 : Hid (((w2.alloc (.cells #[.int .i64 K, .string TB, .int .i64 N, .int .i64 (k : Int)] 40)).alloc (.cells #[.int .i64 K, .string TB, .int .i64 N, .int .i64 (k : Int)] 40)).cell? ⟨w2.heap.size, 1, none⟩ = some (.string TB)) := Lib.hid ((HBL.out.alloc _).cell 1)
          have HO0 : Hid (∀ g, tv.ownBlock = some g → g < wr.heap.size) := Lib.hid fun g hg => (HO.out.lt hg).2
          have hwr : wr.heap.size ≤ w2.heap.size := b2.size
          clear b2 hbl
          go_wp2_with (at_builtin; refine appK _ rfl (.tmp 58) (.tmp 60) rfl W.heap.size _ _ rfl HO3.out (w2.heap.size + 1) ⟨K, TB.data.toList, N, k⟩ rfl HEK.out (by omega) (by have h1 := B2.out.size; simp; omega) ?_; intro v1 w4 o1 hg b4; have hc4 := (World.cell?_of_block (a := ⟨w2.heap.size, 1, none⟩) (hg.block w2.heap.size (by simp; omega) (fun e => by have := HO0.out _ e.symm; omega))).trans HC1.out)
          exact ⟨⟨_, k + TB.size, v1, hx3, by go_num, rfl, o1, by simp; omega, stepK (belowThen B2.out (belowAlloc _ _)) b4, HX⟩, by simp [intOf]; omega⟩
        · have hEn : (Er != 0) = true := by simpa using hE
          have HX := Lib.hid (show .error (Er, k) = R by rw [← HA.out, hX2 hE]; rfl)
          clear hX1 hX2
          go_wp2_with fail
          refine (HTK.out _).mono ?_
          rintro e w2 ⟨rfl, b2⟩
          have B3 := Lib.hid (belowThen (belowThen HBO.out b2) (belowAlloc w2 (.cells #[.int .i64 K, .string TB, .int .i64 N, .int .i64 0] 40)))
          obtain ⟨x0, x1, fz0, fz1⟩ := boxF (HB.out.below' B3.out)
          have B4 := Lib.hid (HB.out.below' B3.out)
          have B5 := Lib.hid (belowThen HBW.out B3.out)
          clear b2
          go_wp2
          refine bodyPost_ret (resTC (stored2 B4.out _ _) rfl _ rfl Tryd.underlying26 rfl infoFault) rfl ?_
          rw [← HX.out]
          exact ⟨below2 B5.out _ _, rfl⟩
      · have hc0 : cls s[k] = 0 := by
          have h1 := impU8 (fun c => !(c == 32 || c == 9) && !(c == 35)) (fun c => cls c == 0 || decide (3 ≤ cls c)) (by decide +kernel) (c := s[k]) (by simp only [g1, g2, g3]; rfl)
          simpa [h3] using h1
        have HX := Lib.hid (show .error (14, k) = R by rw [← HA.out, lexBad hkl hc0]; rfl)
        have hEr : Er = 14 ∧ K = 0 ∧ N = 0 := by
          rw [dropAt s hkl, refT, if_pos (by omega)] at hT
          injection hT with h1 hT
          injection hT with h2 hT
          injection hT with h3 h4
          exact ⟨h4.symm, h1.symm, h3.symm⟩
        obtain ⟨rfl, rfl, rfl⟩ := hEr
        rw [g1] at h32
        rw [g2] at h9
        rw [g3] at h35
        clear g1 g2 g3 h3 hT hc0
        go_wp2_with fail
        refine (HTK.out _).mono ?_
        rintro e w2 ⟨rfl, b2⟩
        have B3 := Lib.hid (belowThen (belowThen HBO.out b2) (belowAlloc w2 (.cells #[.int .i64 0, .string TB, .int .i64 0, .int .i64 0] 40)))
        obtain ⟨x0, x1, fz0, fz1⟩ := boxF (HB.out.below' B3.out)
        have B4 := Lib.hid (HB.out.below' B3.out)
        have B5 := Lib.hid (belowThen HBW.out B3.out)
        clear b2
        go_wp2
        refine bodyPost_ret (resTC (stored2 B4.out _ _) rfl _ rfl Tryd.underlying26 rfl infoFault) rfl ?_
        rw [← HX.out]
        exact ⟨below2 B5.out _ _, rfl⟩
    · have HX := Lib.hid (show .ok acc = R by rw [← HA.out, lexEnd (by omega), combR, List.append_nil])
      obtain ⟨x0, x1, fz0, fz1⟩ := boxF (HB.out.below' HBO.out)
      have B4 := Lib.hid (HB.out.below' HBO.out)
      have B5 := Lib.hid (belowThen HBW.out HBO.out)
      have hlt : w.heap.size < W.heap.size := HB.out.lt
      go_wp2
      refine bodyPost_ret (resTC (stored2 B4.out _ _) rfl _ rfl Tryd.underlying26 rfl infoFault) rfl ?_
      rw [← HX.out]
      exact ⟨below2 B5.out _ _, _, rfl, ownMonoK (ownSetK (ownSetK HO.out _ _ hlt) _ _ hlt) (by omega)⟩
end Go.Proofs.YtnlhkeobfidjkaaDoor
