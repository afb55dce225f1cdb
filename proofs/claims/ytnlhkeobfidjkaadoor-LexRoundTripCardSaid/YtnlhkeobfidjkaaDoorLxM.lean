/-
  The contract of the specification's Join.
-/
import Derived.Test.YtnlhkeobfidjkaaDoorLxK
import Derived.Test.YtnlhkeobfidjkaaDoorLxH
namespace Go.Proofs.YtnlhkeobfidjkaaDoor
open Go Go.RowKit

theorem bsApp (a b : List UInt8) : bs (a ++ b) = bs a ++ bs b := by
  apply ByteArray.ext
  simp [bs]
theorem bsApp2 (a b c : ByteArray) : a ++ (b ++ c) = a ++ b ++ c := by
  apply ByteArray.ext
  simp [Array.append_assoc]
set_option maxRecDepth 100000 in
set_option maxHeartbeats 8000000 in
theorem rJoin (l : List Tok) (n : Nat) (hn : l.length = n) (hn1 : n ≤ 1000) (hT : ∀ t ∈ l, t.text.length ≤ 140737488351232) (A : Option Addr) (c : Nat) (w : World) (hr : Rk w A c l) :
    Calls Tryd.prog 13 #[.slice A n c] w (GivesJ (joinR l) w) := by
  obtain ⟨R, hR⟩ : ∃ R, joinR l = R := ⟨_, rfl⟩
  rw [hR]
  have HR := Lib.hid hR
  have HN := Lib.hid hn
  have HT := Lib.hid hT
  have HRK := Lib.hid (fun X (hX : Below w.heap.size w X) => hr.below hX)
  clear hR hn hr hT
  go_enter Tryd.func13, Tryd.ntmps13
  go_wp2
  go_loopw [4] (fun vk wr => ∃ k : Nat, k ≤ n ∧ vk = .int .i64 k ∧ Below w.heap.size w wr ∧ Hid (∀ i (_ : i < l.length), i < k → okB9 l[i] = true)) (fun i _ => n - (intOf i).toNat)
  case atStart => exact ⟨0, Nat.zero_le _, rfl, Below.refl _ _, Lib.hid fun i _ h => by omega⟩
  case round =>
    obtain ⟨k, hk, rfl, hb, HA⟩ := hrel
    by_cases hkn : k < n
    · have HKL := Lib.hid (show k < l.length by rw [HN.out]; exact hkn)
      obtain ⟨b, o, rfl, _, x0, x1, x2, x3⟩ := (HRK.out wr hb).one HKL.out
      have HTX := Lib.hid (HT.out _ (List.getElem_mem HKL.out))
      obtain ⟨s, hs⟩ : ∃ s, bs (l[k]'HKL.out).text = s := ⟨_, rfl⟩
      have HTE := Lib.hid (tokEq _ hs)
      have hsz : s.size = (l[k]'HKL.out).text.length := by rw [← hs]; exact bsSize _
      have hsm : s.size ≤ 140737488351232 := by rw [hsz]; exact HTX.out
      rw [hs] at x1
      obtain ⟨t, ht⟩ : ∃ t, l[k]'HKL.out = t := ⟨_, rfl⟩
      rw [ht] at x0 x2 x3 HTE
      have HTT := Lib.hid ht
      obtain ⟨K, V, q, r, hK, hV, hq, hr⟩ : ∃ K V q r, t.kind = K ∧ t.n = V ∧ t.pos = q ∧ okB9 t = r := ⟨_, _, _, _, rfl, rfl, rfl, rfl⟩
      rw [hK] at x0 HTE
      rw [hV] at x2 HTE
      rw [hq] at x3 HTE
      have HVAL := Lib.hid (fun X => rValid K V q s (by omega) X)
      rw [HTE.out, hr] at HVAL
      have HQ := Lib.hid hr
      have HB := Lib.hid hb
      have hk0 : (0 : Int) ≤ k := by omega
      have hk1 : (k : Int) < n := by omega
      clear hs hsz ht hK hV hq hr hb hsm
      cases r
      · have HX : Hid (R = ([], 14)) := Lib.hid (by rw [← HR.out]; exact joinBad HKL.out (by rw [HTT.out]; exact HQ.out))
        go_wp2_with fail
        refine (HVAL.out _).mono ?_
        rintro e w2 ⟨rfl, b2⟩
        have B2 := Lib.hid b2
        clear b2
        go_wp2
        go_ret2
        exact givesJ HX.out rfl rfl (belowThen HB.out B2.out)
      · go_wp2_with fail
        refine (HVAL.out _).mono ?_
        rintro e w2 ⟨rfl, b2⟩
        have B2 := Lib.hid (belowThen HB.out b2)
        clear b2
        go_wp2
        go_roundw
        case rel => exact ⟨k + 1, by omega, by go_num, B2.out, Lib.hid (okNext HA.out HKL.out (by rw [HTT.out]; exact HQ.out))⟩
        case measure => simp [intOf]; omega
    · have hkn2 : k = n := by omega
      subst hkn2
      have HALL := Lib.hid (show ∀ i (_ : i < l.length), okB9 l[i] = true from fun i hi => HA.out i hi (by rw [← HN.out]; exact hi))
      have HB := Lib.hid hb
      clear hb
      go_wp2
      go_loopw [5, 6] (fun vs vj w3 => ∃ j : Nat, j ≤ k ∧ vs = .string (bs (cat l j)) ∧ vj = .int .i64 j ∧ w3 = wr ∧ Hid ((cat l j).length ≤ 16384)) (fun _ i _ => k - (intOf i).toNat)
      case atStart => exact ⟨0, Nat.zero_le _, rfl, rfl, rfl, Lib.hid (by simp [cat])⟩
      case round =>
        obtain ⟨j, hj, rfl, rfl, rfl, HZ⟩ := hrel
        by_cases hjn : j < k
        · have HKL := Lib.hid (show j < l.length by rw [HN.out]; exact hjn)
          obtain ⟨b, o, rfl, _, x0, x1, x2, x3⟩ := (HRK.out wr HB.out).one HKL.out
          have HTX := Lib.hid (HT.out _ (List.getElem_mem HKL.out))
          have HCN := Lib.hid (catNext HKL.out)
          obtain ⟨s, hs⟩ : ∃ s, bs (l[j]'HKL.out).text = s := ⟨_, rfl⟩
          rw [hs] at x1
          obtain ⟨S0, hS0⟩ : ∃ S0, bs (cat l j) = S0 := ⟨_, rfl⟩
          have hsz : s.size ≤ 140737488351232 := by rw [← hs, bsSize]; exact HTX.out
          have hS0z : S0.size ≤ 16384 := by rw [← hS0, bsSize]; exact HZ.out
          have HC0 : Hid (sepL l j = [] → bs (cat l (j + 1)) = S0 ++ s) := Lib.hid fun h => by rw [HCN.out, h, List.nil_append, bsApp, hS0, hs]
          have HC1 : Hid (sepL l j = [32] → bs (cat l (j + 1)) = S0 ++ ⟨#[32]⟩ ++ s) := Lib.hid fun h => by rw [HCN.out, h, bsApp, bsApp, hS0, hs, bsApp2]; rfl
          have HLN : Hid (∀ S1, bs (cat l (j + 1)) = S1 → 16384 < S1.size → R = ([], 4)) := Lib.hid fun S1 h1 h2 => by
            rw [← HR.out]
            exact joinLong HALL.out (k := j + 1) (by rw [HN.out]; omega) (by rw [← bsSize, h1]; exact h2)
          have HLE : Hid (∀ S1, bs (cat l (j + 1)) = S1 → S1.size ≤ 16384 → (cat l (j + 1)).length ≤ 16384) := Lib.hid fun S1 h1 h2 => by rw [← bsSize, h1]; exact h2
          rw [hS0]
          have e4 : l[j]?.map (·.kind) = some (l[j]'HKL.out).kind := by rw [List.getElem?_eq_getElem HKL.out]; rfl
          obtain ⟨K, hK⟩ : ∃ K, (l[j]'HKL.out).kind = K := ⟨_, rfl⟩
          rw [hK] at x0 e4
          have hj0 : (0 : Int) ≤ j := by omega
          have hj1 : (j : Int) < k := by omega
          clear hs hS0 hK x2 x3
          by_cases hj00 : j = 0
          · subst hj00
            have HCC := Lib.hid (HC0.out rfl)
            clear e4
            by_cases hz : 16384 < (S0 ++ s).size
            · have HX : Hid (R = ([], 4)) := Lib.hid (HLN.out _ HCC.out hz)
              have hz2 : 16384 < (S0 ++ s).size := hz
              simp only [ByteArray.size_append] at hz2
              try rw [show (⟨#[32]⟩ : ByteArray).size = 1 from rfl] at hz2
              go_wp2
              go_ret2
              exact givesJ HX.out rfl rfl HB.out
            · have HXL := Lib.hid (HLE.out _ HCC.out (by omega))
              have hz2 : ¬ 16384 < (S0 ++ s).size := hz
              simp only [ByteArray.size_append] at hz2
              try rw [show (⟨#[32]⟩ : ByteArray).size = 1 from rfl] at hz2
              go_wp2
              go_roundw
              case rel => exact ⟨0 + 1, by omega, by rw [HCC.out], by go_num, trivial, HXL⟩
              case measure => simp [intOf]; omega
          · obtain ⟨i, rfl⟩ : ∃ i, j = i + 1 := ⟨j - 1, by omega⟩
            obtain ⟨b', o', e', _, y0, _, _, _⟩ := (HRK.out wr HB.out).one (k := i) (by rw [HN.out]; omega)
            injection e' with e'
            injection e' with e1 e2
            subst e1; subst e2
            have e3 : l[i]?.map (·.kind) = some (l[i]'(by rw [HN.out]; omega)).kind := by rw [List.getElem?_eq_getElem]; rfl
            obtain ⟨p, hp⟩ : ∃ p, (l[i]'(by rw [HN.out]; omega)).kind = p := ⟨_, rfl⟩
            rw [hp] at y0 e3
            have HSP := Lib.hid (show sepL l (i + 1) = if p = 4 ∨ K = 4 then [] else [32] by unfold sepL; simp only [e3, e4, Option.some.injEq])
            have i0 : (0 : Int) ≤ (i : Int) := by omega
            have i1 : (i : Int) < k := by omega
            have i2 : (0 : Int) ≤ (i : Int) + 1 := by omega
            have i3 : (i : Int) + 1 < k := by omega
            have i4 : (0 : Int) < (i : Int) + 1 := by omega
            clear e3 e4 hp
            by_cases g1 : p = 4
            · have f1 : (p != 4) = false := by simpa using g1
              have HCC := Lib.hid (HC0.out (by rw [HSP.out, if_pos (.inl g1)]))
              clear g1
              by_cases hz : 16384 < (S0 ++ s).size
              · have HX : Hid (R = ([], 4)) := Lib.hid (HLN.out _ HCC.out hz)
                have hz2 : 16384 < (S0 ++ s).size := hz
                simp only [ByteArray.size_append] at hz2
                try rw [show (⟨#[32]⟩ : ByteArray).size = 1 from rfl] at hz2
                go_wp2
                go_ret2
                exact givesJ HX.out rfl rfl HB.out
              · have HXL := Lib.hid (HLE.out _ HCC.out (by omega))
                have hz2 : ¬ 16384 < (S0 ++ s).size := hz
                simp only [ByteArray.size_append] at hz2
                try rw [show (⟨#[32]⟩ : ByteArray).size = 1 from rfl] at hz2
                go_wp2
                go_roundw
                case rel => exact ⟨i + 1 + 1, by omega, by rw [HCC.out], by go_num, trivial, HXL⟩
                case measure => simp [intOf]; omega
            · have f1 : (p != 4) = true := by simpa using g1
              by_cases g2 : K = 4
              · have f2 : (K != 4) = false := by simpa using g2
                have HCC := Lib.hid (HC0.out (by rw [HSP.out, if_pos (.inr g2)]))
                clear g1 g2
                by_cases hz : 16384 < (S0 ++ s).size
                · have HX : Hid (R = ([], 4)) := Lib.hid (HLN.out _ HCC.out hz)
                  have hz2 : 16384 < (S0 ++ s).size := hz
                  simp only [ByteArray.size_append] at hz2
                  try rw [show (⟨#[32]⟩ : ByteArray).size = 1 from rfl] at hz2
                  go_wp2
                  go_ret2
                  exact givesJ HX.out rfl rfl HB.out
                · have HXL := Lib.hid (HLE.out _ HCC.out (by omega))
                  have hz2 : ¬ 16384 < (S0 ++ s).size := hz
                  simp only [ByteArray.size_append] at hz2
                  try rw [show (⟨#[32]⟩ : ByteArray).size = 1 from rfl] at hz2
                  go_wp2
                  go_roundw
                  case rel => exact ⟨i + 1 + 1, by omega, by rw [HCC.out], by go_num, trivial, HXL⟩
                  case measure => simp [intOf]; omega
              · have f2 : (K != 4) = true := by simpa using g2
                have HCC := Lib.hid (HC1.out (by rw [HSP.out, if_neg (by omega)]))
                clear g1 g2
                by_cases hz : 16384 < (S0 ++ ⟨#[32]⟩ ++ s).size
                · have HX : Hid (R = ([], 4)) := Lib.hid (HLN.out _ HCC.out hz)
                  have hz2 : 16384 < (S0 ++ ⟨#[32]⟩ ++ s).size := hz
                  simp only [ByteArray.size_append] at hz2
                  try rw [show (⟨#[32]⟩ : ByteArray).size = 1 from rfl] at hz2
                  go_wp2
                  go_ret2
                  exact givesJ HX.out rfl rfl HB.out
                · have HXL := Lib.hid (HLE.out _ HCC.out (by omega))
                  have hz2 : ¬ 16384 < (S0 ++ ⟨#[32]⟩ ++ s).size := hz
                  simp only [ByteArray.size_append] at hz2
                  try rw [show (⟨#[32]⟩ : ByteArray).size = 1 from rfl] at hz2
                  go_wp2
                  go_roundw
                  case rel => exact ⟨i + 1 + 1, by omega, by rw [HCC.out], by go_num, trivial, HXL⟩
                  case measure => simp [intOf]; omega
        · have hjk : j = k := by omega
          subst hjk
          have HX : Hid (R = (cat l j, 0)) := Lib.hid (by
            rw [← HR.out]
            have := joinOk HALL.out (by rw [HN.out]; exact HZ.out)
            rw [this, HN.out])
          go_wp2
          go_ret2
          exact givesJ HX.out rfl rfl HB.out
end Go.Proofs.YtnlhkeobfidjkaaDoor
