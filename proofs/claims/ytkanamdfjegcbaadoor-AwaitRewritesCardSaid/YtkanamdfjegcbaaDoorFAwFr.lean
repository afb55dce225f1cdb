/-
  The specification's Find, given what its Condition gives.
-/
import Derived.Test.YtkanamdfjegcbaaDoorFAwF
import Derived.Test.YtkanamdfjegcbaaDoorFAwC
namespace Go.Proofs.YtkanamdfjegcbaaDoor
open Go Go.RowKit

/-- What is asked of Condition. -/
def CondOk : Prop := ∀ (nm : ByteArray) (C : List I8) (m : Nat), C.length = m → ∀ n : Nat, n ≤ 1000 → ∀ (A : Option Addr) (c : Nat) (w : World), RdE 8 EI w A c C →
    Calls Tryd.prog 60 #[.agg #[.string nm, .slice A m c], .int .i64 (n : Int)] w (GivesCn C n w)
set_option maxRecDepth 100000 in
set_option maxHeartbeats 4000000 in
theorem rFind14 (HCO : CondOk) {a : PgA} {p : Prg} (w : World) (hP : PgW w a p) (hW : p.Wf) (hsm : p.small = true) :
    Calls Tryd.prog 28 #[a.val] w (GivesN (spR p) p.chk.1 w) := by
  obtain ⟨W, hWE⟩ : ∃ W, w.alloc (.cells a.fs 54) = W := ⟨_, rfl⟩
  have hbW : Below w.heap.size w W := by rw [← hWE]; exact belowAlloc w _
  have hB : PBox W w.heap.size a := by rw [← hWE]; exact Blk.new w _ _
  have HK := Lib.hid (fun Y (hY : Below W.heap.size W Y) => (hB.below hY).facts)
  have HCK := Lib.hid (rCheckP W (hP.below hbW) hW hsm)
  have HF := Lib.hid (fun Y (hY : Below W.heap.size W Y) => ((hP.below hbW).below hY).funcs.at_)
  have HL := Lib.hid hP.l4
  have hle := hP.funcs.le
  have hmx := hP.funcs.max
  have few := (fewOf hsm).2.2.2.1
  rw [hP.l4] at hle few
  unfold maxLen at hmx
  have HSH := Lib.hid (shortOf hsm)
  have HW := Lib.hid hWE
  have HBW := Lib.hid hbW
  obtain ⟨F, hF⟩ : ∃ F, p.funcs = F := ⟨_, rfl⟩
  unfold GivesN spR Prg.spins
  rw [hF] at HF HL HSH ⊢
  have HQL := Lib.hid (fun k n (hk : k < F.length) (hn : n ≤ 100) => spGLen HSH.out (k := k) (n := n) hk hn)
  have HCO' := Lib.hid HCO
  obtain ⟨⟨x, y, z⟩, hx⟩ : ∃ x, p.chk = x := ⟨_, rfl⟩
  unfold err3 at HCK
  rw [hx] at HCK ⊢
  simp only at HCK ⊢
  obtain ⟨A1, n1, c1, A2, n2, c2, A3, n3, c3, A4, n4, c4, A5, n5, c5⟩ := a
  simp only [PgA.val, PgA.fs] at *
  clear hP hW hsm hWE hbW hB hx hF HCO
  by_cases hne : x = 0
  rotate_left
  · have hq : (x != 0) = true := by simpa using hne
    rw [if_neg hne]
    clear hne
    go_enter Tryd.func28, Tryd.ntmps28
    obtain ⟨f0, f1, f2, f3, f4⟩ := HK.out W (Below.refl _ _)
    go_wp2_with fail
    rw [HW.out]
    go_wp2_with fail
    refine HCK.out.mono ?_
    rintro e w1 ⟨rfl, b1⟩
    go_wp2
    go_ret2
    exact ⟨_, rfl, OwnN.nil _ _, belowThen HBW.out b1⟩
  subst hne
  rw [if_pos rfl]
  go_enter Tryd.func28, Tryd.ntmps28
  obtain ⟨f0, f1, f2, f3, f4⟩ := HK.out W (Below.refl _ _)
  go_wp2_with fail
  rw [HW.out]
  go_wp2_with fail
  refine HCK.out.mono ?_
  rintro e w1 ⟨rfl, b1⟩
  have HB1 := Lib.hid b1
  clear f0 f1 f2 f3 f4
  obtain ⟨f0, f1, f2, f3, f4⟩ := HK.out w1 b1
  clear b1
  go_wp2
  go_loopg [7, 8] n4 (fun g v i wr => ∃ k : Nat, k + g = n4 ∧ i = .int .i64 k ∧ OwnN wr w1.heap.size v (spF F k) ∧ Below w1.heap.size w1 wr)
  case atStart => exact ⟨0, by omega, rfl, OwnN.nil _ _, Below.refl _ _⟩
  case round =>
    obtain ⟨k, hk, rfl, ho, hb⟩ := hrel
    have HO := Lib.hid ho
    have HB := Lib.hid hb
    clear f0 f1 f2 f3 f4
    obtain ⟨f0, f1, f2, f3, f4⟩ := HK.out wr (belowThen HB1.out hb)
    cases gk with
    | zero =>
      have hkn : k = n4 := by omega
      subst hkn
      have hjz : ¬ ((k : Int) < k) := by omega
      have HX : Hid (spF F F.length = spF F k) := Lib.hid (by rw [HL.out])
      clear ho hb
      go_wp2
      go_ret2
      exact ⟨_, rfl, by rw [HX.out]; exact HO.out.mono (Nat.le_trans HBW.out.size HB1.out.size), belowThen HBW.out (belowThen HB1.out HB.out)⟩
    | succ go =>
      have hk0 : (0 : Int) ≤ k := by omega
      have hk1 : (k : Int) < n4 := by omega
      have hkl : k < F.length := by rw [HL.out]; omega
      obtain ⟨b, off, hA, hblt, hrow⟩ := HF.out W (Below.refl _ _) (by omega)
      obtain ⟨g1, v, g2, Ac, m, c, rfl, hm, hr⟩ := hrow k hkl
      have hA : A4 = some ⟨b, off, none⟩ := hA
      subst hA
      have hsh := HSH.out _ (List.getElem_mem hkl)
      rw [hm] at hsh
      obtain ⟨nm, hnm⟩ : ∃ nm, F[k].1 = nm := ⟨_, rfl⟩
      rw [hnm] at g1
      rename World => wo
      have HCL := Lib.hid (fun n (hn : n ≤ 1000) X (hX : Below W.heap.size W X) => HCO'.out nm F[k].2 m hm n hn Ac c X (hr.below stabI hX))
      have HYES := Lib.hid (fun n h => spGYes (F := F) (n := n) hkl h)
      have HNO := Lib.hid (fun n h => spGNo (F := F) (n := n) hkl h)
      have HEN := Lib.hid (spGEnd (F := F) (n := m) hkl (by rw [hm]; omega) (by rw [hm]; omega))
      have HZE := Lib.hid (spGZero F k)
      have HLN := Lib.hid (fun n hn => HQL.out k n hkl hn)
      have HG := Lib.hid (fun X (hX : Below W.heap.size W X) => (⟨(hX.cell hblt).trans g1, (hX.cell hblt).trans g2⟩ : X.cell? ⟨b, off + k * 2, none⟩ = some (.string nm) ∧ X.cell? ⟨b, off + k * 2 + 1, none⟩ = some (.slice Ac m c)))
      obtain ⟨C, hC⟩ : ∃ C, F[k].2 = C := ⟨_, rfl⟩
      rw [hC] at HCL HYES HNO
      have hcm := hr.max
      have hcl := hr.le
      rw [hm] at hcl
      unfold maxLen at hcm
      clear g1 g2
      obtain ⟨g1, g2⟩ := HG.out wo (belowThen HB1.out hb)
      clear ho hb hrow hm hr hnm hkl hblt hC
      go_wp2
      go_loopg [7, 9] m (fun g2 v i wy => ∃ n : Nat, n + g2 = m ∧ i = .int .i64 n ∧ OwnN wy w1.heap.size v (spG F k n) ∧ Below w1.heap.size w1 wy)
      case atStart => exact ⟨0, by omega, rfl, by rw [HZE.out]; exact HO.out, HB.out⟩
      case round =>
        obtain ⟨n, hng, rfl, ho, hb⟩ := hrel
        have HO2 := Lib.hid ho
        have HB2 := Lib.hid hb
        clear f0 f1 f2 f3 f4 g1 g2
        obtain ⟨f0, f1, f2, f3, f4⟩ := HK.out wr (belowThen HB1.out hb)
        obtain ⟨h1, h2⟩ := HG.out wr (belowThen HB1.out hb)
        cases gk with
        | zero =>
          have hnm : n = m := by omega
          subst hnm
          have hjz : ¬ ((n : Int) < n) := by omega
          have HX : Hid (OwnN wr w1.heap.size u7 (spF F (k + 1))) := Lib.hid (by rw [← HEN.out]; exact ho)
          clear ho hb
          go_wp2
          go_roundg go
          case measure => omega
          case rel => exact ⟨k + 1, by omega, by go_num, HX.out, HB2.out⟩
        | succ g2 =>
          have hn0 : (0 : Int) ≤ n := by omega
          have hn1 : (n : Int) < m := by omega
          have HCC := Lib.hid (HCL.out n (by omega) wr (belowThen HB1.out hb))
          unfold GivesCn at HCC
          obtain ⟨I, hI⟩ : ∃ I, cnI C n = I := ⟨_, rfl⟩
          rw [hI] at HCC
          obtain ⟨i0, i1, i2, i3, i4, i5, i6, i7⟩ := I
          unfold I8.val at HCC
          simp only at HCC
          clear hI ho hb
          cases hsp : spB C n
          · have HN := Lib.hid (HNO.out n hsp)
            rw [hsp] at HCC
            clear hsp
            go_wp2_with fail
            refine HCC.out.mono ?_
            rintro e w3 ⟨rfl, b3⟩
            have B3 := belowThen b3 (belowAlloc w3 (.cells #[.int .i64 i0, .int .i64 i1, .int .i64 i2, .int .i64 i3, .int .i64 i4, .int .i64 i5, .int .i64 i6, .int .i64 i7] 44))
            have HB3 := Lib.hid B3
            clear B3 b3
            go_wp2
            go_roundg g2
            case measure => omega
            case rel => exact ⟨n + 1, by omega, by go_num, by rw [HN.out]; exact HO2.out.below HB3.out, belowThen HB2.out HB3.out⟩
          · have HN := Lib.hid (HYES.out n hsp)
            rw [hsp] at HCC
            clear hsp
            go_wp2_with fail
            refine HCC.out.mono ?_
            rintro e w3 ⟨rfl, b3⟩
            obtain ⟨wa, hwa⟩ : ∃ wa, w3.alloc (.cells #[.int .i64 i0, .int .i64 i1, .int .i64 i2, .int .i64 i3, .int .i64 i4, .int .i64 i5, .int .i64 i6, .int .i64 i7] 44) = wa := ⟨_, rfl⟩
            have hba := belowThen b3 (show Below w3.heap.size w3 wa by rw [← hwa]; exact belowAlloc _ _)
            obtain ⟨wl, hwl⟩ : ∃ wl, wa.alloc (.cells #[.int .i64 (k : Int), .int .i64 (n : Int), .int .i64 ((n : Int) + 2)] 67) = wl := ⟨_, rfl⟩
            have hbl : Below wa.heap.size wa wl := by rw [← hwl]; exact belowAlloc _ _
            have hBl : Blk wl wa.heap.size 67 (snC (k, n)).toArray := by rw [← hwl]; exact Blk.new _ _ _
            have hln := HLN.out n (by omega)
            have hb4 := belowThen hba hbl
            have hsz : w1.heap.size ≤ wl.heap.size := Nat.le_trans HB2.out.size hb4.size
            obtain ⟨v', w', hrun, ho', hgr, hblk⟩ := (HO2.out.below hb4).push (by omega) hsz hBl 56
            have HO' : Hid (OwnN w' w1.heap.size v' (spG F k (n + 1))) := Lib.hid (by rw [HN.out]; exact ho')
            have HB' : Hid (Below w1.heap.size w1 w') := Lib.hid ((HO2.out.below hb4).grown hsz hgr (belowThen HB2.out hb4))
            clear hbl hBl ho' hgr hblk hln hb4 hsz hba b3
            go_wp2_with (at_builtin; (try rw [hwa]); (try rw [hwl]); refine Lib.wpList_append_run _ rfl _ _ _ _ rfl _ _ rfl rfl _ _ hrun ?_)
            go_roundg g2
            case measure => omega
            case rel => exact ⟨n + 1, by omega, by go_num, HO'.out, HB'.out⟩
end Go.Proofs.YtkanamdfjegcbaaDoor
