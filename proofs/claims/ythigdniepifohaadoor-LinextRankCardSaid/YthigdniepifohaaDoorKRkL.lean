/-
  The law LinextRank.
-/
import Derived.Test.YthigdniepifohaaDoorKLFw
import Derived.Test.YthigdniepifohaaDoorKLkLaid
import Derived.Test.YthigdniepifohaaDoorCards
import Derived.SevenTiedAt
import Derived.ShutString
import Derived.ChangeMaps5
import Derived.Carry
namespace Go.Proofs.YthigdniepifohaaDoor
open Go Go.RowKit

noncomputable def rkOk (N : Int) (n : Nat) (l : Prs) : Bool := fewB N n 6 && okR N l && acyR N l
set_option maxRecDepth 100000 in
theorem rkNo (N : Int) (l : Prs) (n : Nat) (hn : l.length = n) (hc : rkOk N n l = false) (A : Option Addr) (c : Nat) (w : World) (ha : Rp w A c l) (hT : Tbl w) :
    Calls Tryd.prog 7 #[relV N A n c] w fun e w' => e = .returned (.bool true) ∧ Below w.heap.size w w' := by
  obtain ⟨W, hW⟩ : ∃ W, w.alloc (.cells #[.int .i64 N, .slice A n c] 24) = W := ⟨_, rfl⟩
  have hbW : Below w.heap.size w W := by rw [← hW]; exact belowAlloc w _
  have HB : Hid (BoxR W w.heap.size N (.slice A n c)) := by rw [← hW]; exact Lib.hid (BoxR.new w N _)
  obtain ⟨k0, k1, _, _⟩ := HB.out.facts
  have HF := Lib.hid (lFew N n 6 A c W)
  have HV := Lib.hid (fun X (hX : Below W.heap.size W X) => rValid N l n hn (okR N l) rfl A c X ((ha.below hbW).below hX))
  have HC := Lib.hid (fun X (hX : Below W.heap.size W X) => rAcyclic N l n hn (acyR N l) rfl A c X ((ha.below hbW).below hX))
  have HA := Lib.hid (fun X (hX : Below W.heap.size W X) => awOk X ((hT.below hbW).below hX))
  have HK := Lib.hid (fun X (hX : Below W.heap.size W X) => (HB.out.below hX).facts)
  have HBW := Lib.hid hbW
  have HW := Lib.hid hW
  unfold rkOk at hc
  clear hbW hW ha hT HB
  by_cases hf : fewB N n 6 = true
  · rw [hf, Bool.true_and] at hc
    rw [hf] at HF
    by_cases hv : okR N l = true
    · rw [hv, Bool.true_and] at hc
      rw [hv] at HV
      rw [hc] at HC
      clear hf hv hc
      go_enter Tryd.func7, Tryd.ntmps7
      go_wp2_with fail
      rw [HW.out]
      refine HF.out.mono ?_
      rintro e w1 ⟨rfl, b1⟩
      clear k0 k1
      obtain ⟨k0, k1, _, _⟩ := HK.out w1 b1
      go_wp2_with fail
      refine (HV.out w1 b1).mono ?_
      rintro e w2 ⟨rfl, b2⟩
      have B2 := belowThen b1 b2
      clear k0 k1
      obtain ⟨k0, k1, _, _⟩ := HK.out w2 B2
      go_wp2_with fail
      refine (HC.out w2 B2).mono ?_
      rintro e w3 ⟨rfl, b3⟩
      have B3 := belowThen B2 b3
      clear k0 k1
      go_wp2_with fail
      refine (HA.out w3 B3).mono ?_
      rintro e w4 ⟨rfl, b4⟩
      have B4 := belowThen B3 b4
      go_wp2
      go_ret
      exact ⟨rfl, belowThen HBW.out B4⟩
    · rw [Bool.eq_false_iff.2 hv] at HV
      clear hf hv hc
      go_enter Tryd.func7, Tryd.ntmps7
      go_wp2_with fail
      rw [HW.out]
      refine HF.out.mono ?_
      rintro e w1 ⟨rfl, b1⟩
      clear k0 k1
      obtain ⟨k0, k1, _, _⟩ := HK.out w1 b1
      go_wp2_with fail
      refine (HV.out w1 b1).mono ?_
      rintro e w2 ⟨rfl, b2⟩
      have B2 := belowThen b1 b2
      clear k0 k1
      go_wp2_with fail
      refine (HA.out w2 B2).mono ?_
      rintro e w4 ⟨rfl, b4⟩
      have B4 := belowThen B2 b4
      go_wp2
      go_ret
      exact ⟨rfl, belowThen HBW.out B4⟩
  · rw [Bool.eq_false_iff.2 hf] at HF
    clear hf hc
    go_enter Tryd.func7, Tryd.ntmps7
    go_wp2_with fail
    rw [HW.out]
    refine HF.out.mono ?_
    rintro e w1 ⟨rfl, b1⟩
    clear k0 k1
    go_wp2_with fail
    refine (HA.out w1 b1).mono ?_
    rintro e w4 ⟨rfl, b4⟩
    have B4 := belowThen b1 b4
    go_wp2
    go_ret
    exact ⟨rfl, belowThen HBW.out B4⟩
theorem nILen (l : List Nat) : (nI l).length = l.length := by unfold nI; exact List.length_map _
set_option maxRecDepth 100000 in
set_option maxHeartbeats 4000000 in
theorem rkYes (N : Nat) (l : Prs) (n : Nat) (hn : l.length = n) (hN : N ≤ 6) (hn6 : n ≤ 60) (hc : acyR N l = true) (A : Option Addr) (c : Nat) (w : World) (ha : Rp w A c l) (hT : Tbl w) :
    Calls Tryd.prog 7 #[relV N A n c] w fun e w' => e = .returned (.bool true) ∧ Below w.heap.size w w' := by
  obtain ⟨W, hW⟩ : ∃ W, w.alloc (.cells #[.int .i64 N, .slice A n c] 24) = W := ⟨_, rfl⟩
  have hbW : Below w.heap.size w W := by rw [← hW]; exact belowAlloc w _
  have HB : Hid (BoxR W w.heap.size N (.slice A n c)) := by rw [← hW]; exact Lib.hid (BoxR.new w N _)
  obtain ⟨k0, k1, _, _⟩ := HB.out.facts
  have hok := acyOk hc
  have hws := waysSix hN (f := hasP l)
  have hK := dwnLe N (by omega) (hasP l)
  obtain ⟨M, hM⟩ : ∃ M, ways N (hasP l) N 0 = M := ⟨_, rfl⟩
  have hMl : M ≤ 46656 := by rw [← hM]; exact hws
  have hEL : (exts N (hasP l) N 0).length = M := by rw [← hM]; rfl
  have HF : Hid (Calls Tryd.prog 10 #[relV N A n c, .int .i64 6] W fun e w' => e = .returned (.bool true) ∧ Below W.heap.size W w') := by
    have h := lFew N n 6 A c W
    rw [show fewB N n 6 = true by unfold fewB; rw [decide_eq_true (show (N : Int) ≤ 6 by omega), decide_eq_true hn6]; rfl] at h
    exact Lib.hid h
  have HV := Lib.hid (fun X (hX : Below W.heap.size W X) => rValid N l n hn true hok A c X ((ha.below hbW).below hX))
  have HC := Lib.hid (fun X (hX : Below W.heap.size W X) => rAcyclic N l n hn true hc A c X ((ha.below hbW).below hX))
  have HA := Lib.hid (fun X (hX : Below W.heap.size W X) => awOk X ((hT.below hbW).below hX))
  have HK := Lib.hid (fun X (hX : Below W.heap.size W X) => (HB.out.below hX).facts)
  have H1 := Lib.hid (fun X (hX : Below W.heap.size W X) => iCountOk N (by omega) l n hn (by omega) hc hK (by omega) A c X ((ha.below hbW).below hX) ((hT.below hbW).below hX))
  have H2 := Lib.hid (fun X (hX : Below W.heap.size W X) => iAllOk N (by omega) l n hn (by omega) hc A c 1048576 (by omega) (by omega) (by rw [hEL]; omega) X ((ha.below hbW).below hX) ((hT.below hbW).below hX))
  have H3 := Lib.hid (fun X (hX : Below W.heap.size W X) => iFirstOk N (by omega) l n hn (by omega) hc A c X ((ha.below hbW).below hX) ((hT.below hbW).below hX))
  have H4 := Lib.hid (fun (i : Nat) (hi : i < M) X (hX : Below W.heap.size W X) => iNthOk N (by omega) l n hn (by omega) hc hK (by omega) A c i (by omega) X ((ha.below hbW).below hX) ((hT.below hbW).below hX))
  have H5 := Lib.hid (fun (o : List Int) (m : Nat) (hm : o.length = m) (hal : allowB N (hasP l) o = true) B d X (hX : Below W.heap.size W X) (ho : Rd X B d o) => iRankOk N (by omega) l n hn (by omega) hc hK (by omega) o m hm hal A c B d X ((ha.below hbW).below hX) ((hT.below hbW).below hX) ho)
  have H6 := Lib.hid (fun (o : List Int) (m : Nat) (hm : o.length = m) (hal : allowB N (hasP l) o = true) B d X (hX : Below W.heap.size W X) (ho : Rd X B d o) => by
    have h := iIs N l n hn A c o m hm B d X ((ha.below hbW).below hX) ((hT.below hbW).below hX) ho
    rw [show isB N l o = true by unfold isB; rw [hok, Bool.true_and]; exact hal] at h
    exact h)
  have hpos : 1 ≤ M := by
    have := waysPos (acyQ hc) (k := N) (s := 0) (by rw [outZero]; omega)
    omega
  rw [hM] at H1
  have HE := Lib.hid hEL
  have HFST := Lib.hid (show ∀ h0 : 0 < (exts N (hasP l) N 0).length, nI (exts N (hasP l) N 0)[0] = (fstL N (hasP l) N 0).map Int.ofNat from fun h0 => by
    have h1 := fstGet (acyQ hc) (k := N) (s := 0) (by rw [outZero]; omega)
    rw [List.getElem?_eq_getElem h0, Option.some_inj] at h1
    rw [h1]
    rfl)
  have HBW := Lib.hid hbW
  have HW := Lib.hid hW
  clear hbW hW ha hT HB hK hws hM hEL hok
  go_enter Tryd.func7, Tryd.ntmps7
  go_wp2_with fail
  rw [HW.out]
  refine HF.out.mono ?_
  rintro e w1 ⟨rfl, b1⟩
  clear k0 k1
  obtain ⟨k0, k1, _, _⟩ := HK.out w1 b1
  go_wp2_with fail
  refine (HV.out w1 b1).mono ?_
  rintro e w2 ⟨rfl, b2⟩
  have B2 := belowThen b1 b2
  clear k0 k1
  obtain ⟨k0, k1, _, _⟩ := HK.out w2 B2
  go_wp2_with fail
  refine (HC.out w2 B2).mono ?_
  rintro e w3 ⟨rfl, b3⟩
  have B3 := belowThen B2 b3
  clear k0 k1
  obtain ⟨k0, k1, _, _⟩ := HK.out w3 B3
  go_wp2_with fail
  refine (H1.out w3 B3).mono ?_
  rintro e w4 ⟨rfl, b4⟩
  have B4 := belowThen B3 b4
  clear k0 k1
  obtain ⟨k0, k1, _, _⟩ := HK.out w4 B4
  go_wp2_with fail
  refine (H2.out w4 B4).mono ?_
  rintro e w5 ⟨v5, vs, rfl, o5, l5, b5⟩
  have B5 := belowThen B4 b5
  obtain ⟨AL, cL, rfl, rL⟩ := RdL.ofOwn o5 l5
  have hll : ((exts N (hasP l) N 0).map nI).length = M := by rw [List.length_map]; exact HE.out
  rw [hll]
  have HL := Lib.hid rL
  clear rL o5 l5 k0 k1
  obtain ⟨k0, k1, _, _⟩ := HK.out w5 B5
  go_wp2_with fail
  refine (H3.out w5 B5).mono ?_
  rintro e w6 ⟨v6, rfl, o6, b6⟩
  have B6 := belowThen B5 b6
  obtain ⟨AF, cF, rfl, rF, _⟩ := o6.rd
  clear k0 k1 o6
  have HL6 := Lib.hid (HL.out.below b6)
  obtain ⟨a0, A0, c0, rfl, g0, r0⟩ := HL6.out.one (k := 0) (by rw [hll]; omega)
  have hx0 : ((exts N (hasP l) N 0).map nI)[0]'(by rw [hll]; omega) = (fstL N (hasP l) N 0).map Int.ofNat := by
    rw [List.getElem_map]
    exact HFST.out _
  rw [hx0] at g0 r0
  have hlf : ((fstL N (hasP l) N 0).map Int.ofNat).length = (fstL N (hasP l) N 0).length := List.length_map _
  rw [hlf] at g0
  have g0 : w6.cell? a0 = some (Value.slice A0 (fstL N (hasP l) N 0).length c0) := by
    have e : a0.add 0 = a0 := by obtain ⟨b, o, q⟩ := a0; rfl
    rw [e] at g0
    exact g0
  have HI := Lib.hid (fun X (hX : Below w6.heap.size w6 X) => intsEq _ _ _ hlf hlf A0 AF c0 cF X (r0.below hX) (rF.below hX))
  have d1 : ((M : Int) != (M : Int)) = false := by simp
  have d2 : decide ((M : Int) < 1) = false := decide_eq_false (by omega)
  clear r0 rF hx0 b1 b2 b3 b4 b5 b6 B2 B3 B4 B5
  go_wp2_with fail
  refine (HI.out w6 (Below.refl _ _)).mono ?_
  rintro e w7 ⟨rfl, b7⟩
  have HL7 := Lib.hid (HL6.out.below b7)
  have HB7 := Lib.hid (belowThen B6 b7)
  clear g0 HL HL6 HI HFST b7 B6 d1 d2 hll
  go_wp2
  go_loopw [9] (fun i wr => ∃ k : Nat, k ≤ M ∧ i = .int .i64 k ∧ Below w7.heap.size w7 wr) (fun i _ => M - (intOf i).toNat)
  case atStart => exact ⟨0, Nat.zero_le _, rfl, Below.refl _ _⟩
  case round =>
    obtain ⟨k, hk, rfl, hb⟩ := hrel
    have HBk := Lib.hid hb
    have HWk := Lib.hid (belowThen HB7.out hb)
    clear hb
    obtain ⟨k0, k1, _, _⟩ := HK.out wr HWk.out
    by_cases hlt : k < M
    · have hi : k < (exts N (hasP l) N 0).length := by rw [HE.out]; exact hlt
      obtain ⟨x1, x2, x3⟩ := extAt hi
      obtain ⟨o, ho⟩ : ∃ o, nI (exts N (hasP l) N 0)[k] = o := ⟨_, rfl⟩
      have hge : ((exts N (hasP l) N 0).map nI)[k]'(by rw [List.length_map]; exact hi) = o := by rw [List.getElem_map]; exact ho
      rw [ho] at x2 x3
      have hx : (nthL N (hasP l) N 0 k).map Int.ofNat = o := by rw [x1]; exact ho
      have hc4 := Lib.hid (H4.out k hlt wr HWk.out)
      rw [hx] at hc4
      have HX := Lib.hid (And.intro x2 x3)
      have HNX := Lib.hid hx
      clear x1 x2 x3 hx ho
      go_wp2_with fail
      refine hc4.out.mono ?_
      rintro e w8 ⟨v, rfl, o8, b8⟩
      obtain ⟨AX, cX, rfl, rX, _⟩ := o8.rd
      have HW8 := Lib.hid (belowThen HWk.out b8)
      obtain ⟨a1, A1, c1, ea, g1, r1⟩ := ((HL7.out.below HBk.out).below b8).one (k := k) (by rw [List.length_map]; exact hi)
      cases ea
      rw [hge] at g1 r1
      have RX := Lib.hid rX
      have R1 := Lib.hid r1
      have HB8 := Lib.hid (belowThen HBk.out b8)
      clear k0 k1 o8 rX r1 b8 hc4 hge
      obtain ⟨k0, k1, _, _⟩ := HK.out w8 HW8.out
      obtain ⟨m, hm⟩ : ∃ m, o.length = m := ⟨_, rfl⟩
      rw [hm] at g1
      have hd8 : Below w8.heap.size w8 w8.drew := (Below.refl _ _).drew
      have HC5 := Lib.hid (fun X (hX : Below w8.heap.size w8 X) => H5.out o m hm HX.out.2 A1 c1 X (belowThen HW8.out hX) (R1.out.below hX))
      rw [HX.out.1] at HC5
      have HK8 := Lib.hid (fun X (hX : Below w8.heap.size w8 X) => show Below w8.heap.size w8 X ∧ X.cell? (a0.add k) = some (.slice A1 m c1) ∧ X.cell? ⟨w.heap.size, 0, none⟩ = some (.int .i64 N) ∧ X.cell? ⟨w.heap.size, 1, none⟩ = some (.slice A n c) from
        ⟨hX, (hX.cell (by exact World.block_lt_of_cell? _ _ g1)).trans g1, (HK.out X (belowThen HW8.out hX)).1, (HK.out X (belowThen HW8.out hX)).2.1⟩)
      have hk0 : (0 : Int) ≤ k := by omega
      have hk1 : (k : Int) < M := by omega
      go_wp2_with fail
      go_region_held3 (fun X => Below w8.heap.size w8 X ∧ X.cell? (a0.add k) = some (.slice A1 m c1) ∧ X.cell? ⟨w.heap.size, 0, none⟩ = some (.int .i64 N) ∧ X.cell? ⟨w.heap.size, 1, none⟩ = some (.slice A n c))
        (first
          | with_reducible assumption
          | with_reducible exact HK8.out _ hd8
          | exact HK8.out _ (belowThen hd8 bk))
        (first | (go_at_call 24; refine (HC5.out _ (‹Below w8.heap.size w8 _ ∧ _›).1).mono ?_; rintro e wa ⟨he, bk⟩; have he : e = .returned (.tuple #[.int .i64 (k : Int), .int .i64 0]) := he; subst he))
      have hall := ‹Below w8.heap.size w8 _ ∧ _›
      obtain ⟨h89, g1, k0, k1⟩ := hall
      have HW9 := Lib.hid (belowThen HW8.out h89)
      have HRX9 := Lib.hid (RX.out.below h89)
      have HR19 := Lib.hid (R1.out.below h89)
      have HB9 := Lib.hid (belowThen HB8.out h89)
      have hic := Lib.hid (intsEq o m m hm hm AX A1 cX c1 wa HRX9.out HR19.out)
      have d1 : ((k : Int) != (k : Int)) = false := by simp
      clear hk0 hk1 HK8 HC5
      go_wp2_with fail
      refine hic.out.mono ?_
      rintro e w10 ⟨rfl, b10⟩
      have HW10 := Lib.hid (belowThen HW9.out b10)
      have his := Lib.hid (H6.out o m hm HX.out.2 AX cX w10 HW10.out (HRX9.out.below b10))
      clear k0 k1 g1
      obtain ⟨k0, k1, _, _⟩ := HK.out w10 HW10.out
      go_wp2_with fail
      refine his.out.mono ?_
      rintro e w11 ⟨rfl, b11⟩
      have hfin := belowThen (belowThen HB9.out b10) b11
      go_wp2
      go_roundw
      case rel => exact ⟨k + 1, by omega, by go_num, hfin⟩
      case measure => simp [intOf]; omega
    · have hkM : k = M := by omega
      subst hkM
      have hA := Lib.hid (HA.out wr HWk.out)
      go_wp2_with fail
      refine hA.out.mono ?_
      rintro e w8 ⟨rfl, b8⟩
      go_wp2
      go_ret
      exact ⟨rfl, belowThen HBW.out (belowThen HWk.out b8)⟩
theorem okNon {N : Int} {l : Prs} (h : okR N l = true) : 0 ≤ N := by
  unfold okR at h
  exact (of_decide_eq_true h).1
theorem lawRank (N : Int) (l : Prs) (n : Nat) (hn : l.length = n) (A : Option Addr) (c : Nat) (w : World) (ha : Rp w A c l) (hT : Tbl w) :
    Calls Tryd.prog 7 #[relV N A n c] w fun e w' => e = .returned (.bool true) ∧ Below w.heap.size w w' := by
  cases h : rkOk N n l with
  | false => exact rkNo N l n hn h A c w ha hT
  | true =>
    unfold rkOk fewB at h
    simp only [Bool.and_eq_true, decide_eq_true_eq] at h
    obtain ⟨⟨⟨h1, h2⟩, h3⟩, h4⟩ := h
    obtain ⟨m, rfl⟩ : ∃ m : Nat, N = m := ⟨N.toNat, by
      have h0 : 0 ≤ N := okNon h3
      omega⟩
    exact rkYes m l n hn (by omega) h2 h4 A c w ha hT
end Go.Proofs.YthigdniepifohaaDoor

namespace Go.Proofs.YthigdniepifohaaDoor.linextRank
open Go Go.ChangeShapes Go.WideShapes Go.ChangeAt Go.WideMaps Go.WideElems Go.RowKit Go.ChangeMaps

set_option maxRecDepth 100000 in
theorem lifted (os : Os) (started : os.Started) (H : Type) (enc : TypeId × Value → H) :
    ReturnsInHanded {} Tryd.checked os 7 .any (fun w args => (Rows.linextRankSpec.pre enc Tryd.prog Tryd.f7 [] false w args ∧ laidMetH Tryd.prog laidT w) ∧ sizedMet enc Tryd.prog Tryd.f7 (OpenSpec.ofChange Rows.linextRankSpec) false w args)
      (Rows.linextRankSpec.post enc Tryd.prog Tryd.f7 false true false false) := by
  refine returnsInHanded_of_change_and (C := Tryd.checked) (X := fun w _ => laidMetH Tryd.prog laidT w) (fun _ _ _ hh h => h.of_heap hh) ownKnob0 started (by kernel_rfl) Tryd.func7
    (ChangeSpec.witness_shaped (enc := enc) (C := Tryd.checked) (os := os) (X := fun w _ => laidMetH Tryd.prog laidT w) false (World.doorLaid Tryd.prog 400 os) #[.agg #[.int .i64 0, .slice none 0 0]] 8 rfl (World.shaped_of_RefB (by kernel_rfl) (by kernel_rfl)) (by kernel_rfl) (by kernel_rfl) (by kernel_rfl) (doorT os _)) ?_
  intro W base args ds gs before hval0 hW _ _ hL _
  have hval : ∀ (j : Nat) t v, Tryd.f7.params[j]? = some t → args[j]? = some v → Value.okWide Tryd.prog W .any base t v := hval0
  have hW' := hW
  obtain ⟨p, q, hA0, hV, rfl, hfz, hnd⟩ := hW
  have hA : DataW.TrodAll enc Tryd.prog W 0 (fun _ => true) true Tryd.f7.params.toList args.toList ds p := hA0
  rw [Tryd.params7] at hA hval
  obtain ⟨v0, vs0, d0, ds0, p0, q0, hargs, rfl, rfl, h0, r0⟩ := trodAll_cons hA
  obtain ⟨rfl, rfl, rfl⟩ := trodAll_nil r0
  obtain rfl : args = #[v0] := by cases args; simp_all
  obtain ⟨rfl, rfl⟩ := trodVars_none hV
  have g0 := h0
  obtain ⟨N0, A0, n0, c0, l0, rfl, e0, rp0⟩ := openRel (hval 0 24 v0 rfl rfl) h0
  clear hA0 hval0
  simp only [List.append_nil] at hW'
  refine (lawRank N0 l0 n0 e0 A0 c0 W rp0 (metT hL)).mono fun e W' ⟨he, hb⟩ => ?_
  subst he
  exact ⟨_, rfl, _, _, _, [], _, [], hW', trodAll_cons_mk (shut_bool Tryd.underlying4 _) trodAll_mk0, trodAll_cons_mk (Below.trod laidOut0 (by kernel_rfl) (of_decide_eq_true (by kernel_rfl)) g0 hb (fun y hy => by simpa using hW'.lt y (by simp [hy]))) (trodAll_mk0), rfl, hb.frame _, fun h => by cases h⟩

theorem over : Rows.linextRankRow.holds Tryd.pinned (OpenSpec.ofChange Rows.linextRankSpec) :=
  OpenClaim.holds_of_wide 7 Tryd.f7 rfl rfl rfl rfl rfl rfl rfl ⟨rfl, rfl, rfl, rfl, rfl⟩ rfl rfl rfl rfl rfl (by kernel_rfl) Tryd.func7 (by kernel_rfl)
    (of_decide_eq_true (by kernel_rfl)) (by unfold Func.isWrapper; first | (rw [if_pos (by decide +kernel)]; kernel_rfl) | (rw [if_neg (by decide +kernel)]; exact ⟨rfl, rfl⟩))
    (fun os started H enc _ => lifted os started H enc)

theorem proved : Rows.LinextRankCardSaid :=
  Claim7.holds_tied_plain_at .later [] [.data] true Rows.linextRankCard.stood.harness false
    over (fun _ h => by cases h) (by kernel_rfl) (fun _ h => by cases h) linextRank_row_tie rfl ⟨rfl, rfl⟩ (by kernel_rfl) rfl
    (fun f fn hf hfn => by
      obtain rfl : f = 7 := Option.some.inj ((show Tryd.prog.funcNamed Rows.linextRankRow.func = some 7 by kernel_rfl).symm.trans hf) |>.symm
      obtain rfl : fn = Tryd.f7 := (Option.some.inj (Tryd.func7.symm.trans hfn)).symm
      exact ⟨by kernel_rfl, fun j t ht => by
        rw [Tryd.params7] at ht
        have hm : t ∈ [24] := by simpa using Array.mem_of_getElem? ht
        have hall : ([24].all fun u => !Tryd.prog.wantsStandIn u) = true := by kernel_rfl
        exact (show Tryd.prog.wantsStandIn t = false by simpa using List.all_eq_true.1 hall t hm)⟩)
    (by kernel_rfl)
#print axioms proved
end Go.Proofs.YthigdniepifohaaDoor.linextRank
