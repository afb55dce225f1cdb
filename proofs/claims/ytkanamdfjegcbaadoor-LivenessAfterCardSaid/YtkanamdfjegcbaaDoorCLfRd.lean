/-
  The specification's Dead, given what its live gives where all registers count at the exit.
-/
import Derived.Test.YtkanamdfjegcbaaDoorCLfRc
import Derived.Test.YtkanamdfjegcbaaDoorCLf4
namespace Go.Proofs.YtkanamdfjegcbaaDoor
open Go Go.RowKit Go.Shelf

/-- What the specification's live gives where all registers count at the exit. -/
def LiveT (C : List I8) : Prop := ∀ (nm : ByteArray) (n : Nat) (A : Option Addr) (c : Nat) (w : World), C.length = n → CdW w A c C →
  Calls Tryd.prog 42 #[fnV nm A n c, .bool true] w fun e w' => e = .returned (.slice (some ⟨w.heap.size + 1, 0, none⟩) (n + 1) (n + 1)) ∧ RdL w' (some ⟨w.heap.size + 1, 0, none⟩) (n + 1) (lvLs C true) ∧ Below w.heap.size w w'
set_option maxRecDepth 100000 in
set_option maxHeartbeats 8000000 in
theorem rDead13 (nm : ByteArray) (C : List I8) (HLT : cfE C = 0 → LiveT C) (n : Nat) (hn : C.length = n) (A : Option Addr) (c : Nat) (w : World) (h : CdW w A c C) :
    Calls Tryd.prog 20 #[fnV nm A n c] w (GivesE9 (deR C) (cfE C) w) := by
  obtain ⟨W, hWE⟩ : ∃ W, w.alloc (.cells #[.string nm, .slice A n c] 24) = W := ⟨_, rfl⟩
  have hbW : Below w.heap.size w W := by rw [← hWE]; exact belowAlloc w _
  have hBF : Blk W w.heap.size 24 #[.string nm, .slice A n c] := by rw [← hWE]; exact Blk.new w _ _
  have HKB := Lib.hid (fun X (hX : Below W.heap.size W X) => (⟨(hBF.below' hX).cell 0, (hBF.below' hX).cell 1⟩ : X.cell? ⟨w.heap.size, 0, none⟩ = some (.string nm) ∧ X.cell? ⟨w.heap.size, 1, none⟩ = some (.slice A n c)))
  have HWR := Lib.hid (rWrong nm C n hn A c W (h.below hbW))
  have HCD := Lib.hid (h.below hbW)
  have hle := h.rd.le
  have hmx := h.rd.max
  rw [hn] at hle
  unfold maxLen at hmx
  have HW := Lib.hid hWE
  have HBW := Lib.hid hbW
  have HN := Lib.hid hn
  obtain ⟨k0, k1⟩ := HKB.out W (Below.refl _ _)
  by_cases hc : cfE C = 0
  rotate_left
  · have e2 : deR C = [] := by unfold deR; rw [if_neg hc]
    have hne : (cfE C != 0) = true := by simpa using hc
    rw [e2]
    clear hc e2 hbW hBF hWE h hn HLT
    unfold fnV at HWR ⊢
    go_enter Tryd.func20, Tryd.ntmps20
    go_wp2_with fail
    rw [HW.out]
    refine HWR.out.mono ?_
    rintro e w1 ⟨rfl, b1⟩
    go_wp2
    go_ret2
    exact ⟨none, 0, rfl, Rd.nil, belowThen HBW.out b1⟩
  have e2 : deR C = deL C n := by unfold deR; rw [if_pos hc, hn]
  have hok := cfOk hc
  have h64 := hok.len
  rw [hn] at h64
  rw [hc] at HWR
  rw [e2, hc]
  have HRG : Hid (∀ y, y ≤ n → Regs (lvB C true y)) := Lib.hid fun y _ r hr => lvRg hok hr
  have HRN : Hid (∀ k, Regs (anyB C true k)) := Lib.hid fun k r hr => by
    obtain ⟨y, _, h2⟩ := List.any_eq_true.1 hr
    exact lvRg hok h2
  obtain ⟨n1, hn1⟩ : ∃ n1, n + 1 = n1 := ⟨_, rfl⟩
  have HLV := Lib.hid (fun X (hX : Below W.heap.size W X) => HLT hc nm n A c X hn (HCD.out.below hX))
  have HAF := Lib.hid (fun k (hk : k < n) X (hX : Below W.heap.size W X) Ag cg hg => rAfterS nm C hc n hn A c X (HCD.out.below hX) (lvB C true) HRG.out Ag n1 cg hn1 hg k hk)
  unfold lvLs at HLV
  rw [hn, hn1] at HLV
  unfold GivesL at HAF
  unfold fnV at HWR HLV HAF ⊢
  clear hc hok e2 hbW hBF hWE h hn hn1 HLT
  go_enter Tryd.func20, Tryd.ntmps20
  go_wp2_with fail
  rw [HW.out]
  refine HWR.out.mono ?_
  rintro e w1 ⟨rfl, b1⟩
  have HB1 := Lib.hid b1
  have HL1 := Lib.hid (HLV.out w1 b1)
  clear k0 k1
  obtain ⟨k0, k1⟩ := HKB.out w1 b1
  clear b1
  go_wp2_with fail
  refine HL1.out.mono ?_
  rintro e w2 ⟨rfl, rl, b2⟩
  have HB2 := Lib.hid (belowThen HB1.out b2)
  have HRL := Lib.hid rl
  obtain ⟨w3, hw3⟩ : ∃ w3, w2.alloc (.cells #[] 3) = w3 := ⟨_, rfl⟩
  have HB3 : Hid (Below w2.heap.size w2 w3) := Lib.hid (by rw [← hw3]; exact belowAlloc _ _)
  have HO0 : Hid (OwnI w3 w2.heap.size (.slice (some ⟨w2.heap.size, 0, none⟩) 0 0) (deL C 0)) := Lib.hid (by rw [← hw3]; exact ⟨rfl, .inr ⟨w2.heap.size, 0, #[], rfl, Nat.le_refl _, heap_alloc_new w2 _, Nat.le_refl _, by unfold maxLen; omega, rfl, rfl⟩⟩)
  have HW3 := Lib.hid hw3
  clear k0 k1 rl b2 hw3 HL1 HLV
  go_wp2_with fail
  rw [HW3.out]
  go_loopg [6, 7] n (fun g v i X => ∃ k : Nat, k + g = n ∧ i = .int .i64 k ∧ Hid (OwnI X w2.heap.size v (deL C k)) ∧ Hid (Below w2.heap.size w2 X))
  case atStart => exact ⟨0, by omega, rfl, HO0, HB3⟩
  case round =>
    clear HO0
    obtain ⟨k, hk, rfl, HO, HB⟩ := hrel
    have HBK := Lib.hid (belowThen HB2.out HB.out)
    obtain ⟨m0, m1⟩ := HKB.out wr HBK.out
    cases gk with
    | zero =>
      have hkn : k = n := by omega
      subst hkn
      have hkk : ¬ ((k : Int) < (k : Int)) := by omega
      obtain ⟨A9, c9, rfl, hr9, _⟩ := HO.out.rd
      have HR9 := Lib.hid hr9
      obtain ⟨q9, hq9⟩ : ∃ q9, (deL C k).length = q9 := ⟨_, rfl⟩
      rw [hq9]
      have HQ9 := Lib.hid hq9
      clear hr9 hq9
      go_wp2
      go_ret2
      exact ⟨A9, c9, by rw [HQ9.out]; rfl, HR9.out, belowThen HBW.out HBK.out⟩
    | succ g3 =>
      have hkn : k < n := by omega
      have hkC : k < C.length := by rw [HN.out]; exact hkn
      have hk0 : (0 : Int) ≤ k := by omega
      have hk1 : (k : Int) < n := by omega
      obtain ⟨qi, off, hA, hqi, hEI⟩ := HCD.out.rd.one hkC
      obtain ⟨d, hd⟩ : ∃ d, deB C k = d := ⟨_, rfl⟩
      have HD := Lib.hid hd
      unfold deB at hd
      rw [getDAt hkC] at hd
      obtain ⟨ii, hii⟩ : ∃ ii, C[k] = ii := ⟨_, rfl⟩
      rw [hii] at hEI hd
      clear hii
      obtain ⟨op, ra, rb, rc, obj, m, fn, ord⟩ := ii
      have HEI : Hid (∀ Z, Below W.heap.size W Z → EI Z qi (off + k * 8) (I8.mk8 op ra rb rc obj m fn ord)) := Lib.hid fun Z hZ => stabI W Z qi _ _ hqi hZ hEI
      obtain ⟨R, hR⟩ : ∃ R, (I8.mk8 op ra rb rc obj m fn ord).dfR = R := ⟨_, rfl⟩
      obtain ⟨p, hp⟩ : ∃ p, (I8.mk8 op ra rb rc obj m fn ord).dfB = p := ⟨_, rfl⟩
      obtain ⟨vi, hvi⟩ : ∃ vi, visL op = vi := ⟨_, rfl⟩
      have HDE := Lib.hid (rDefs (I8.mk8 op ra rb rc obj m fn ord) R p hR hp wr)
      have HVI := Lib.hid (fun X => rVisM op vi hvi X)
      simp only at hd
      rw [hR, hp, hvi] at hd
      subst hA
      obtain ⟨i0, i1, i2, i3, i4, i5, i6, i7⟩ := HEI.out wr HBK.out
      simp only at i0 i1 i2 i3 i4 i5 i6 i7
      clear hEI hqi hkC hR hp hvi
      go_wp2_with fail
      refine HDE.out.mono ?_
      rintro e w4 ⟨rfl, b4⟩
      have HB4 := Lib.hid (belowThen HB.out b4)
      have HBK4 := Lib.hid (belowThen HBK.out b4)
      have HO4 := Lib.hid (HO.out.below b4)
      have HNO : Hid (d = false → ∀ X, Below w4.heap.size w4 X → OwnI X w2.heap.size u6 (deL C (k + 1))) := Lib.hid fun e X hX => by
        rw [deNo (HD.out.trans e)]
        exact HO4.out.below hX
      clear m0 m1 i0 i1 i2 i3 i4 i5 i6 i7 b4 HDE
      obtain ⟨m0, m1⟩ := HKB.out w4 HBK4.out
      obtain ⟨i0, i1, i2, i3, i4, i5, i6, i7⟩ := HEI.out w4 HBK4.out
      simp only at i0 i1 i2 i3 i4 i5 i6 i7
      cases p with
      | false =>
        have HF := Lib.hid (HNO.out (by rw [← hd]; rfl) w4 (Below.refl _ _))
        clear hd HNO
        go_wp2
        go_roundg g3
        case measure => omega
        case rel => exact ⟨k + 1, by omega, by go_num, HF, HB4⟩
      | true =>
        go_wp2_with fail
        refine (HVI.out _).mono ?_
        rintro e w5 ⟨rfl, rfl⟩
        cases vi with
        | true =>
          have HF := Lib.hid (HNO.out (by rw [← hd]; rfl) w4 (Below.refl _ _))
          clear hd HNO
          go_wp2
          go_roundg g3
          case measure => omega
          case rel => exact ⟨k + 1, by omega, by go_num, HF, HB4⟩
        | false =>
          have HA4 := HAF.out k hkn w4 HBK4.out _ _ (HRL.out.below HB4.out)
          obtain ⟨q6, hq6⟩ : ∃ q6, (nowL (lvB C true) (scV C k)).length = q6 := ⟨_, rfl⟩
          rw [hq6] at HA4
          have HA4 := Lib.hid HA4
          have HQ6 := Lib.hid hq6
          clear hq6
          go_wp2_with fail
          refine HA4.out.mono ?_
          rintro e w6 ⟨A6, c6, rfl, r6, b6⟩
          obtain ⟨lv, hlv⟩ : ∃ lv, anyB C true k R = lv := ⟨_, rfl⟩
          have hmb : memB (nowL (lvB C true) (scV C k)) R = lv := by
            rw [nowAny, ← hlv]
            unfold memB
            rw [Bool.eq_iff_iff, ← rgLMem (HRN.out k)]
            simp
          have HH := rHas _ R lv hmb A6 c6 w6 r6
          rw [HQ6.out] at HH
          have HH := Lib.hid HH
          have HB6 := Lib.hid (belowThen HB4.out b6)
          have HBS := Lib.hid b6
          rw [hlv] at hd
          clear hlv hmb r6 b6 m0 m1 i0 i1 i2 i3 i4 i5 i6 i7 HA4
          go_wp2_with fail
          refine HH.out.mono ?_
          rintro e w7 ⟨rfl, rfl⟩
          cases lv with
          | true =>
            have HF := Lib.hid (HNO.out (by rw [← hd]; rfl) w6 HBS.out)
            clear hd HNO
            go_wp2
            go_roundg g3
            case measure => omega
            case rel => exact ⟨k + 1, by omega, by go_num, HF, HB6⟩
          | false =>
            have HDY := Lib.hid (deYes (HD.out.trans (show d = true by rw [← hd]; rfl)))
            have HO6 := Lib.hid (HO4.out.below HBS.out)
            have HSZ := Lib.hid HB6.out.size
            have hdl := deLen (C := C) (k := k)
            clear hd HNO
            go_wp2_with (first
              | (at_builtin; refine appI _ rfl (.tmp 54) (.tmp 56) rfl w2.heap.size _ _ rfl (HO6.out.alloc _) (some ⟨w6.heap.size, 0, none⟩) 1 1 [(k : Int)] rfl rfl (Rd.lit w6 [(k : Int)] 3 (by simp)) (by simp; omega) (by have := HSZ.out; simp; omega) ?_; intro v1 w8 o1 _ d1; rw [← HDY.out] at o1; have HF := Lib.hid o1; have HH := Lib.hid (((HB6.out.alloc HSZ.out (.cells #[.int .i64 (k : Int)] 3))).trans d1); clear o1 d1)
              | fail)
            go_roundg g3
            case measure => omega
            case rel => exact ⟨k + 1, by omega, by go_num, HF, HH⟩
end Go.Proofs.YtkanamdfjegcbaaDoor
