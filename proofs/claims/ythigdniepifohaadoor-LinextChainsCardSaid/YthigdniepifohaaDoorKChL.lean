/-
  The law LinextChains.
-/
import Derived.Test.YthigdniepifohaaDoorKChC
import Derived.Test.YthigdniepifohaaDoorKPsR
import Derived.BigQuiet
import Derived.Test.YthigdniepifohaaDoorKLkLaid
import Derived.Test.YthigdniepifohaaDoorCards
import Derived.SevenTiedAt
import Derived.ShutString
import Derived.ChangeMaps5
import Derived.Carry
namespace Go.Proofs.YthigdniepifohaaDoor
open Go Go.RowKit

theorem u8Nat {n : Int} (h : (Lit.int IntKind.u8 n).wf = true) : ∃ m : Nat, n = m ∧ m < 256 := by
  have hw : (decide (IntKind.u8.min ≤ n) && decide (n ≤ IntKind.u8.max)) = true := h
  rw [Bool.and_eq_true, decide_eq_true_iff, decide_eq_true_iff] at hw
  have h1 : (0 : Int) ≤ n := hw.1
  have h2 : n ≤ 255 := hw.2
  exact ⟨n.toNat, by omega, by omega⟩
structure ChSt (w : World) (m n q : Nat) (Y : World) : Prop where
  ex : ∃ A c k, BoxR Y w.heap.size ((m : Int) + n) (.slice A k c) ∧ OwnP Y w.heap.size (.slice A k c) (chP m q) ∧ (chP m q).length = k
  below : Below w.heap.size w Y
theorem chNil (m : Nat) : chP m 1 = [] := by
  unfold chP
  simp
set_option maxRecDepth 100000 in
set_option maxHeartbeats 8000000 in
theorem lawChains (m0 n0 : Nat) (hm0 : m0 < 256) (hn0 : n0 < 256) (w : World) (hT : Tbl w) :
    Calls Tryd.prog 8 #[.int .u8 m0, .int .u8 n0] w fun e w' => e = .returned (.bool true) ∧ Below w.heap.size w w' := by
  have e1 : (m0 : Int).tmod 33 = ((m0 % 33 : Nat) : Int) := rfl
  have e2 : (n0 : Int).tmod 33 = ((n0 % 33 : Nat) : Int) := rfl
  have hm : m0 % 33 ≤ 32 := by omega
  have hn : n0 % 33 ≤ 32 := by omega
  obtain ⟨m, hmm⟩ : ∃ m, m0 % 33 = m := ⟨_, rfl⟩
  obtain ⟨n, hnn⟩ : ∃ n, n0 % 33 = n := ⟨_, rfl⟩
  rw [hmm] at e1 hm
  rw [hnn] at e2 hn
  go_enter Tryd.func8, Tryd.ntmps8
  obtain ⟨W, hW⟩ : ∃ W, w.alloc (.cells #[.int .i64 ((m : Int) + n), .slice none 0 0] 24) = W := ⟨_, rfl⟩
  have HS0 : Hid (ChSt w m n 1 W) := by
    rw [← hW]
    exact Lib.hid ⟨⟨none, 0, 0, BoxR.new w _ _, by rw [chNil]; exact OwnP.nil _ _, by rw [chNil]; rfl⟩, belowAlloc w _⟩
  have HTT := Lib.hid (fun Y (hY : Below w.heap.size w Y) => hT.below hY)
  have HW := Lib.hid hW
  clear hT hW
  go_wp2_with fail
  rw [HW.out]
  go_loopw [8] (fun i Y => ∃ q : Nat, 1 ≤ q ∧ (q ≤ m + n ∨ q = 1) ∧ i = .int .i64 q ∧ Hid (ChSt w m n q Y)) (fun i _ => m + n + 1 - (intOf i).toNat)
  case atStart => exact ⟨1, Nat.le_refl _, .inr rfl, rfl, HS0⟩
  case round =>
    obtain ⟨q, hq1, hq2, rfl, HS⟩ := hrel
    obtain ⟨A, c, k, hB, hO, hl⟩ := HS.out.ex
    obtain ⟨k0, k1, z0, z1⟩ := hB.facts
    have hk64 : k ≤ 64 := by rw [← hl]; exact Nat.le_trans chLen (by omega)
    have hle := hO.rdAt.le
    have hmx := hO.rdAt.max
    rw [hl] at hle
    unfold maxLen at hmx
    by_cases hlt : q < m + n
    · by_cases hqm : q = m
      · have HN := Lib.hid (show ChSt w m n (q + 1) wr from ⟨⟨A, c, k, hB, by
          rw [chS, hqm, decide_eq_false (show ¬ m ≠ m from fun h => h rfl), Bool.and_false]
          simpa [hqm] using hO, by
          rw [chS, hqm, decide_eq_false (show ¬ m ≠ m from fun h => h rfl), Bool.and_false]
          simpa [hqm] using hl⟩, HS.out.below⟩)
        have hne : ((q : Int) != (m : Int)) = false := by simp; omega
        clear hB hO hl
        go_wp2_with fail
        all_goals first
          | (exfalso; omega)
          | go_roundw
        case rel => exact ⟨q + 1, by omega, by omega, by go_num, HN⟩
        case measure => simp [intOf]; omega
      · have hne : ((q : Int) != (m : Int)) = true := by simp; omega
        obtain ⟨X1, hX1⟩ : ∃ X1, wr.alloc (.cells #[.int .i64 ((q : Int) - 1), .int .i64 q] 43) = X1 := ⟨_, rfl⟩
        have sX1 : Below wr.heap.size wr X1 := by rw [← hX1]; exact belowAlloc _ _
        have hr1 : Rp X1 (some ⟨wr.heap.size, 0, none⟩) 1 [((q : Int) - 1, (q : Int))] := by rw [← hX1]; exact cellPair wr _ _ _
        have hO1 := hO.below sX1
        have hzw : w.heap.size ≤ wr.heap.size := HS.out.below.size
        obtain ⟨v2, X2, hrun, hO2, hgr2⟩ := runAppB X1 w.heap.size 22 (.slice A k c) (chP m q) hO1 (some ⟨wr.heap.size, 0, none⟩) 1 1 [((q : Int) - 1, (q : Int))] rfl hr1 (by rw [hl]; omega) (Nat.le_trans hzw sX1.size)
        have hb2 : Below w.heap.size w X2 := (belowThen HS.out.below sX1).grown hgr2 (Nat.le_trans hzw sX1.size) fun g hg => (OwnP.lt hO1 hg).1
        have hB2 := (hB.below sX1).grown hO1 hgr2
        have hcs : chP m (q + 1) = chP m q ++ [((q : Int) - 1, (q : Int))] := by
          rw [chS, decide_eq_true hq1, decide_eq_true hqm]; rfl
        rw [← hcs] at hO2
        obtain ⟨A2, c2, rfl, _, _⟩ := hO2.rd
        obtain ⟨y1, y2, q1, q2⟩ := hB2.facts
        obtain ⟨Z, hZ⟩ : ∃ Z, X2.setCell ⟨w.heap.size, 1, none⟩ (.slice A2 (chP m (q + 1)).length c2) = Z := ⟨_, rfl⟩
        have HN := Lib.hid (show ChSt w m n (q + 1) Z by
          rw [← hZ]
          exact ⟨⟨A2, c2, _, hB2.stored1 _, hO2.boxed1 hB2, rfl⟩, hb2.setCell (Nat.le_refl _) _⟩)
        have hsub : IntKind.i64.wrap ((q : Int) - 1) = (q : Int) - 1 := by rw [IntKind.wrap_i64]; omega
        clear hB hO hl sX1 hr1 hO1 hgr2 hb2 hB2 hO2 hcs
        go_wp2_with (at_builtin; refine Lib.wpList_append_run _ rfl _ _ _ _ rfl _ _ rfl rfl _ _ hrun ?_)
        all_goals first
          | (exfalso; omega)
          | skip
        try rw [hZ]
        go_roundw
        case rel => exact ⟨q + 1, by omega, by omega, by go_num, HN⟩
        case measure => simp [intOf]; omega
    · have hce : chP m q = chP m (m + n) := by
        rcases hq2 with h | h
        · rw [show q = m + n by omega]
        · subst h
          rcases Nat.eq_zero_or_pos (m + n) with h0 | h0
          · rw [h0, chNil]; rfl
          · rw [show m + n = 1 by omega]
      rw [hce] at hO hl
      have hRp := hO.rdAt
      have HRp := Lib.hid (fun Y (hY : Below wr.heap.size wr Y) => hRp.below hY)
      have HKb := Lib.hid (fun Y (hY : Below wr.heap.size wr Y) => (hB.below hY).facts)
      have HBW := Lib.hid HS.out.below
      have eN : ((m + n : Nat) : Int) = (m : Int) + n := by omega
      have h1 := fun Y (hY : Below wr.heap.size wr Y) => iCountOk (m + n) (by omega) (chP m (m + n)) k hl (by omega) (chAcy (by omega)) (chDwnLe (by omega) (by omega)) (by rw [chWays]; exact Nat.le_trans (binLe (by omega)) (by decide)) A c Y (HRp.out Y hY) (HTT.out Y (belowThen HBW.out hY))
      have h2 := fun Y (hY : Below wr.heap.size wr Y) => iDownOk (m + n) (by omega) (chP m (m + n)) k hl (by omega) (chAcy (by omega)) (chDwnLe (by omega) (by omega)) A c Y (HRp.out Y hY) (HTT.out Y (belowThen HBW.out hY))
      have h3 := fun Y => iChoose (m + n) m (by omega) (by omega) Y
      rw [eN] at h1 h2 h3
      rw [chWays] at h1
      obtain ⟨b, hb⟩ : ∃ b, bin (m + n) m = b := ⟨_, rfl⟩
      rw [hb] at h1 h3
      have H1 := Lib.hid h1
      have H2 := Lib.hid h2
      have H3 := Lib.hid h3
      clear h1 h2 h3 hb hB hO hl hRp hce
      go_wp2_with fail
      all_goals first
        | (exfalso; omega)
        | skip
      refine (H1.out wr (Below.refl _ _)).mono ?_
      rintro e w1 ⟨rfl, b1⟩
      clear k0 k1 z0 z1
      obtain ⟨k0, k1, _, _⟩ := HKb.out w1 b1
      go_wp2_with fail
      refine (H2.out w1 b1).mono ?_
      rintro e w2 ⟨D, rfl, hv, h0, b2⟩
      have hD := chDown hv h0
      have B2 := belowThen b1 b2
      have hmul : IntKind.i64.wrap (((m : Int) + 1) * ((n : Int) + 1)) = ((D.length : Nat) : Int) := by
        have hbd : (m + 1) * (n + 1) ≤ 33 * 33 := Nat.mul_le_mul (by omega) (by omega)
        have e3 : ((m : Int) + 1) * ((n : Int) + 1) = (((m + 1) * (n + 1) : Nat) : Int) := by rw [Int.natCast_mul]; rfl
        rw [e3, ← hD, IntKind.wrap_i64]
        omega
      clear hv h0 k0 k1
      go_wp2_with fail
      refine (awOk w2 (HTT.out _ (belowThen HBW.out B2))).mono ?_
      rintro e w3 ⟨rfl, b3⟩
      have B3 := belowThen B2 b3
      go_wp2_with fail
      refine (H3.out w3).mono ?_
      rintro e w4 ⟨rfl, b4⟩
      have B4 := belowThen B3 b4
      go_wp2
      all_goals first
        | (exfalso; omega)
        | (go_ret; exact ⟨rfl, belowThen HBW.out B4⟩)
end Go.Proofs.YthigdniepifohaaDoor

namespace Go.Proofs.YthigdniepifohaaDoor.linextChains
open Go Go.ChangeShapes Go.WideShapes Go.ChangeAt Go.WideMaps Go.WideElems Go.RowKit Go.ChangeMaps

set_option maxRecDepth 100000 in
theorem lifted (os : Os) (started : os.Started) (H : Type) (enc : TypeId × Value → H) :
    ReturnsInHanded {} Tryd.checked os 8 .any (fun w args => (Rows.linextChainsSpec.pre enc Tryd.prog Tryd.f8 [] false w args ∧ laidMetH Tryd.prog laidT w) ∧ sizedMet enc Tryd.prog Tryd.f8 (OpenSpec.ofChange Rows.linextChainsSpec) false w args)
      (Rows.linextChainsSpec.post enc Tryd.prog Tryd.f8 false true false false) := by
  refine returnsInHanded_of_change_and (C := Tryd.checked) (X := fun w _ => laidMetH Tryd.prog laidT w) (fun _ _ _ hh h => h.of_heap hh) ownKnob0 started (by kernel_rfl) Tryd.func8
    (ChangeSpec.witness_shaped (enc := enc) (C := Tryd.checked) (os := os) (X := fun w _ => laidMetH Tryd.prog laidT w) false (World.doorLaid Tryd.prog 400 os) #[.int .u8 0, .int .u8 0] 8 rfl (World.shaped_of_RefB (by kernel_rfl) (by kernel_rfl)) (by kernel_rfl) (by kernel_rfl) (by kernel_rfl) (doorT os _)) ?_
  intro W base args ds gs before hval0 hW _ _ hL _
  have hval : ∀ (j : Nat) t v, Tryd.f8.params[j]? = some t → args[j]? = some v → Value.okWide Tryd.prog W .any base t v := hval0
  have hW' := hW
  obtain ⟨p, q, hA0, hV, rfl, hfz, hnd⟩ := hW
  have hA : DataW.TrodAll enc Tryd.prog W 0 (fun _ => true) true Tryd.f8.params.toList args.toList ds p := hA0
  rw [Tryd.params8] at hA hval
  obtain ⟨v0, vs0, d0, ds0, p0, q0, hargs, rfl, rfl, h0, r0⟩ := trodAll_cons hA
  obtain ⟨v1, vs1, d1, ds1, p1, q1, rfl, rfl, rfl, h1, r1⟩ := trodAll_cons r0
  obtain ⟨rfl, rfl, rfl⟩ := trodAll_nil r1
  obtain rfl : args = #[v0, v1] := by cases args; simp_all
  obtain ⟨rfl, rfl⟩ := trodVars_none hV
  have g0 := h0
  have g1 := h1
  obtain ⟨a0, rfl, rfl, rfl, w0⟩ := open_int Tryd.underlying5 (hval 0 5 v0 rfl rfl) h0
  obtain ⟨a1, rfl, rfl, rfl, w1⟩ := open_int Tryd.underlying5 (hval 1 5 v1 rfl rfl) h1
  clear hA0 hval0
  obtain ⟨m0, rfl, hm0⟩ := u8Nat w0
  obtain ⟨m1, rfl, hm1⟩ := u8Nat w1
  simp only [List.append_nil] at hW'
  refine (lawChains m0 m1 hm0 hm1 W (metT hL)).mono fun e W' ⟨he, hb⟩ => ?_
  subst he
  exact ⟨_, rfl, _, _, _, [], _, [], hW', trodAll_cons_mk (shut_bool Tryd.underlying4 _) trodAll_mk0, trodAll_cons_mk (Below.trod laidOut0 (by kernel_rfl) (of_decide_eq_true (by kernel_rfl)) g0 hb (fun y hy => by cases hy)) (trodAll_cons_mk (Below.trod laidOut0 (by kernel_rfl) (of_decide_eq_true (by kernel_rfl)) g1 hb (fun y hy => by cases hy)) (trodAll_mk0)), rfl, hb.frame _, fun h => by cases h⟩

theorem over : Rows.linextChainsRow.holds Tryd.pinned (OpenSpec.ofChange Rows.linextChainsSpec) :=
  OpenClaim.holds_of_wide 8 Tryd.f8 rfl rfl rfl rfl rfl rfl rfl ⟨rfl, rfl, rfl, rfl, rfl⟩ rfl rfl rfl rfl rfl (by kernel_rfl) Tryd.func8 (by kernel_rfl)
    (of_decide_eq_true (by kernel_rfl)) (by unfold Func.isWrapper; first | (rw [if_pos (by decide +kernel)]; kernel_rfl) | (rw [if_neg (by decide +kernel)]; exact ⟨rfl, rfl⟩))
    (fun os started H enc _ => lifted os started H enc)

theorem proved : Rows.LinextChainsCardSaid :=
  Claim7.holds_tied_plain_at .later [] [.data] true Rows.linextChainsCard.stood.harness false
    over (fun _ h => by cases h) (by kernel_rfl) (fun _ h => by cases h) linextChains_row_tie rfl ⟨rfl, rfl⟩ (by kernel_rfl) rfl
    (fun f fn hf hfn => by
      obtain rfl : f = 8 := Option.some.inj ((show Tryd.prog.funcNamed Rows.linextChainsRow.func = some 8 by kernel_rfl).symm.trans hf) |>.symm
      obtain rfl : fn = Tryd.f8 := (Option.some.inj (Tryd.func8.symm.trans hfn)).symm
      exact ⟨by kernel_rfl, fun j t ht => by
        rw [Tryd.params8] at ht
        have hm : t ∈ [5, 5] := by simpa using Array.mem_of_getElem? ht
        have hall : ([5, 5].all fun u => !Tryd.prog.wantsStandIn u) = true := by kernel_rfl
        exact (show Tryd.prog.wantsStandIn t = false by simpa using List.all_eq_true.1 hall t hm)⟩)
    (by kernel_rfl)
#print axioms proved
end Go.Proofs.YthigdniepifohaaDoor.linextChains
