/-
  The contract of simplify.Program.
-/
import Derived.Test.YtpkagpobobmnfaaGreatDoorPSm
import Derived.Test.YtpkagpobobmnfaaGreatDoorPSf
import Derived.Test.YtpkagpobobmnfaaGreatDoorPSe
import Derived.Test.YtpkagpobobmnfaaGreatDoorPSo
import Derived.Test.YtpkagpobobmnfaaGreatDoorPSfU
import Derived.Test.YtpkagpobobmnfaaGreatDoorPSy
import Derived.Test.YtpkagpobobmnfaaGreatDoorPPgX6
import Derived.Test.YtpkagpobobmnfaaGreatDoorPPk
import Derived.Test.YtpkagpobobmnfaaGreatDoorPPgCr
import Derived.Test.YtpkagpobobmnfaaGreatDoorPYz
import Derived.Test.YtpkagpobobmnfaaGreatDoorPOp
import Derived.Deep.RegionHeld3
namespace Go.Proofs.YtpkagpobobmnfaaGreatDoor
open Go Go.RowKit

theorem passFold : PassOk 19 fdL := fun nm C hok n hn A c w h => by
  have := iFoldFF nm C n hn A c w h
  rw [nmR0 (cfMk hok), cdR0 (cfMk hok), cfMk hok] at this
  exact this
theorem passThread : PassOk 20 thL := fun nm C hok n hn A c w h => by
  have := iThreadFF nm C n hn A c w h
  rw [nmR0 (cfMk hok), cdR0 (cfMk hok), cfMk hok] at this
  exact this
theorem passPrune : PassOk 21 prL := fun nm C hok n hn A c w h => by
  have := iPruneFF nm C n hn A c w h
  rw [nmR0 (cfMk hok), cdR0 (cfMk hok), cfMk hok] at this
  exact this
theorem short9 {p : Prg} (h : p.small = true) : ∀ f ∈ p.funcs, f.2.length ≤ 100 := by
  unfold Prg.small Prg.short at h
  rw [Bool.and_eq_true] at h
  intro f hf
  have := List.all_eq_true.1 h.2 f hf
  simpa using this
def Prg.none9 : Prg := ⟨[], [], [], [], []⟩
noncomputable def smpR (p : Prg) : Prg := if p.chk.1 = 0 then smpP p else Prg.none9
def GivesPp (p : Prg) (w : World) (e : Ending) (w' : World) : Prop := ∃ a' : PgA, e = .returned (.tuple #[a'.val, .int .i64 p.chk.1]) ∧ PgW w' a' (smpR p) ∧ Below w.heap.size w w'
theorem pgNone9 (w : World) : PgW w ⟨none, 0, 0, none, 0, 0, none, 0, 0, none, 0, 0, none, 0, 0⟩ Prg.none9 := ⟨rfl, rfl, rfl, rfl, rfl, RdE.nil, RdE.nil, RdE.nil, RdE.nil, RdE.nil⟩
theorem infoPg9 : (Tryz.prog.info? 43).map (·.size) = some 5 := by kernel_rfl
theorem blkFacts59 {W : World} {b : Nat} {T : TypeId} {x0 x1 x2 x3 x4 : Value} (h : Blk W b T #[x0, x1, x2, x3, x4]) : (W.cell? ⟨b, 0, none⟩ = some x0 ∧ W.cell? ⟨b, 1, none⟩ = some x1 ∧ W.cell? ⟨b, 2, none⟩ = some x2 ∧ W.cell? ⟨b, 3, none⟩ = some x3 ∧ W.cell? ⟨b, 4, none⟩ = some x4) ∧ W.frozen? ⟨b, 0, none⟩ = false ∧ W.frozen? ⟨b, 1, none⟩ = false ∧ W.frozen? ⟨b, 2, none⟩ = false ∧ W.frozen? ⟨b, 3, none⟩ = false ∧ W.frozen? ⟨b, 4, none⟩ = false :=
  ⟨⟨h.cell 0, h.cell 1, h.cell 2, h.cell 3, h.cell 4⟩, h.frozen 0, h.frozen 1, h.frozen 2, h.frozen 3, h.frozen 4⟩
theorem stored59 {W : World} {b : Nat} {T : TypeId} {x0 x1 x2 x3 x4 : Value} (h : Blk W b T #[x0, x1, x2, x3, x4]) (v0 v1 v2 v3 v4 : Value) : Blk (put5 W b v0 v1 v2 v3 v4) b T #[v0, v1, v2, v3, v4] := ((((h.set 0 v0).set 1 v1).set 2 v2).set 3 v3).set 4 v4
theorem only9 {W : World} {b : Nat} {T : TypeId} (h : Blk W b T zer5) : OnlySl W b := fun o v e => by
  rw [h.cell] at e
  match o, e with
  | 0, e | 1, e | 2, e | 3, e | 4, e => exact ⟨_, _, _, (Option.some.inj e).symm⟩
  | o + 5, e => simp [zer5] at e
set_option maxRecDepth 100000 in
set_option maxHeartbeats 4000000 in
theorem iProgram {a : PgA} {p : Prg} (w : World) (hP : PgW w a p) (hW : p.Wf) (hsm : p.small = true) (hL : Laid7 w) :
    Calls Tryz.prog 15 #[a.val] w (GivesPp p w) := by
  obtain ⟨W0, hW0⟩ : ∃ W, w.alloc (.cells a.fs 43) = W := ⟨_, rfl⟩
  obtain ⟨W, hWE⟩ : ∃ W, W0.alloc (.cells zer5 43) = W := ⟨_, rfl⟩
  have hbW : Below w.heap.size w W := by rw [← hWE, ← hW0]; exact belowThen (belowAlloc w _) (belowAlloc _ _)
  have hB : PBox W w.heap.size a := by rw [← hWE, ← hW0]; exact (Blk.new w _ _).alloc _
  have hR : Blk W (w.heap.size + 1) 43 zer5 := by rw [← hWE, ← hW0]; exact Blk.new1 w _ _ _
  have HRB := Lib.hid hR
  have HK := Lib.hid (fun Y (hY : Below W.heap.size W Y) => (hB.below hY).facts)
  have HCK := Lib.hid (iCheckP W (hP.below hbW) hW (hL.below hbW).ins (hL.below hbW).nm)
  have few := fewOf hsm
  have HCL := Lib.hid (fun X (hX : Below W.heap.size W X) => iClone8 p a X ((hP.below hbW).below hX) (by have := hP.l1; omega) (by have := hP.l2; omega) (by have := hP.l3; omega) (by have := hP.l4; omega) (by have := hP.l5; omega) (fun f hf => by have := short9 hsm f hf; omega))
  have HLD := Lib.hid (fun X (hX : Below W.heap.size W X) => (hL.below hbW).below hX)
  have HWF := Lib.hid hW.ins
  have HFO := Lib.hid (fun (h : p.chk.1 = 0) => fnOkOf h)
  have HLL := Lib.hid (And.intro hP.l1 (And.intro hP.l2 (And.intro hP.l3 (And.intro hP.l4 hP.l5))))
  have HW := Lib.hid hWE
  have HW0 := Lib.hid hW0
  have HBW := Lib.hid hbW
  have HRR : Hid (p.chk.1 = 0 → smpR p = smpP p) := Lib.hid fun h => by unfold smpR; rw [if_pos h]
  have HRN : Hid (p.chk.1 ≠ 0 → smpR p = Prg.none9) := Lib.hid fun h => by unfold smpR; rw [if_neg h]
  unfold GivesPp
  unfold err3 at HCK
  obtain ⟨x, hx⟩ : ∃ x, p.chk.1 = x := ⟨_, rfl⟩
  obtain ⟨x1, hx1⟩ : ∃ x, p.chk.2.1 = x := ⟨_, rfl⟩
  obtain ⟨x2, hx2⟩ : ∃ x, p.chk.2.2 = x := ⟨_, rfl⟩
  rw [hx, hx1, hx2] at HCK
  rw [hx] at HRR HRN HFO ⊢
  obtain ⟨A1, n1, c1, A2, n2, c2, A3, n3, c3, A4, n4, c4, A5, n5, c5⟩ := a
  simp only [PgA.val, PgA.fs] at *
  clear hP hW hL hsm hWE hbW hB hx hx1 hx2 few hR hW0
  unfold zer5 at HW
  by_cases hne : x = 0
  rotate_left
  · have hq : (x != 0) = true := by simpa using hne
    have HN := Lib.hid (HRN.out hne)
    clear hne HRR HRN HCL HFO
    go_enter Tryz.func15, Tryz.ntmps15
    obtain ⟨f0, f1, f2, f3, f4⟩ := HK.out W (Below.refl _ _)
    go_wp2_with fail
    rw [HW0.out, HW.out]
    go_wp2_with fail
    refine HCK.out.mono ?_
    rintro e w1 ⟨rfl, b1⟩
    have HRB1 := Lib.hid (HRB.out.below' b1)
    have HB1 := Lib.hid b1
    obtain ⟨⟨r0, r1, r2, r3, r4⟩, fr0, fr1, fr2, fr3, fr4⟩ := blkFacts59 HRB1.out
    clear b1 f0 f1 f2 f3 f4
    go_wp2_with fail
    refine bodyPost_ret ((stored59 HRB1.out _ _ _ _ _).res2 rfl _ rfl Tryz.underlying43 rfl infoPg9) rfl ?_
    exact ⟨⟨none, 0, 0, none, 0, 0, none, 0, 0, none, 0, 0, none, 0, 0⟩, rfl, by rw [HN.out]; exact pgNone9 _, below5 (belowThen HBW.out HB1.out) (Nat.le_succ _) _ _ _ _ _⟩
  subst hne
  have HRW := Lib.hid (HRR.out rfl)
  have HFN := Lib.hid (HFO.out rfl)
  rw [HRW.out]
  clear HRR HRN HFO
  go_enter Tryz.func15, Tryz.ntmps15
  obtain ⟨f0, f1, f2, f3, f4⟩ := HK.out W (Below.refl _ _)
  go_wp2_with fail
  rw [HW0.out, HW.out]
  go_wp2_with fail
  refine HCK.out.mono ?_
  rintro e w1 ⟨rfl, b1⟩
  have HRB1 := Lib.hid (HRB.out.below' b1)
  have HB1 := Lib.hid b1
  clear f0 f1 f2 f3 f4
  obtain ⟨f0, f1, f2, f3, f4⟩ := HK.out w1 b1
  have HCL1 := Lib.hid (HCL.out w1 b1)
  clear b1 HCL
  go_wp2_with fail
  refine HCL1.out.mono ?_
  rintro e w2 ⟨a', rfl, b2, hc⟩
  have HC := Lib.hid hc
  have HB2 := Lib.hid b2
  clear f0 f1 f2 f3 f4
  obtain ⟨w3, hw3⟩ : ∃ w3, w2.alloc (.cells a'.fs 43) = w3 := ⟨_, rfl⟩
  have hb3 : Below w2.heap.size w2 w3 := by rw [← hw3]; exact belowAlloc _ _
  have hg3 : PBox w3 w2.heap.size a' := by rw [← hw3]; exact Blk.new w2 _ _
  have HG3 := Lib.hid hg3
  have HB3 := Lib.hid hb3
  have HST := Lib.hid (fun (h : 0 < a'.n4) => PpSt.start hc h b2 hb3 hg3 (Nat.le_refl _))
  have HW3 := Lib.hid hw3
  clear hw3 b2 hc hb3 hg3
  obtain ⟨D1, k1, e1, D2, k2, e2, D3, k3, e3, D4, k4, e4, D5, k5, e5⟩ := a'
  simp only [PgA.fs] at *
  have hle4 := HC.out.pg.funcs.le
  have hmx4 := HC.out.pg.funcs.max
  have hl4 := HC.out.pg.l4
  simp only at hle4 hmx4 hl4
  unfold maxLen at hmx4
  obtain ⟨f0, f1, f2, f3, f4⟩ := HG3.out.facts
  simp only at f0 f1 f2 f3 f4
  rcases Nat.eq_zero_or_pos k4 with hz | hz
  · subst hz
    have HNIL : Hid (PgW w3 ⟨D1, k1, e1, D2, k2, e2, D3, k3, e3, D4, 0, e4, D5, k5, e5⟩ (smpP p)) := Lib.hid (by
      have h := HC.out.pg.below HB3.out
      have e : smpP p = p := by
        obtain ⟨pv, pm, pc, pf, pt⟩ := p
        cases pf with
        | nil => rfl
        | cons x t => simp at hl4
      rw [e]
      exact h)
    have HRB2 := Lib.hid (HRB1.out.below' (belowThen HB2.out HB3.out))
    go_wp2_with fail
    rw [HW3.out]
    go_wp2_with fail
    go_loopg [24] 0 (fun g i wr => i = .int .i64 0 ∧ Hid (wr = w3))
    case atStart => exact ⟨rfl, Lib.hid rfl⟩
    obtain ⟨rfl, HE⟩ := hrel
    obtain rfl := HE.out
    obtain ⟨⟨r0, r1, r2, r3, r4⟩, fr0, fr1, fr2, fr3, fr4⟩ := blkFacts59 HRB2.out
    have hz0 : ¬ ((0 : Int) < ((0 : Nat) : Int)) := by omega
    go_wp2_with fail
    refine bodyPost_ret ((stored59 HRB2.out _ _ _ _ _).res2 rfl _ rfl Tryz.underlying43 rfl infoPg9) rfl ?_
    refine ⟨⟨D1, k1, e1, D2, k2, e2, D3, k3, e3, D4, 0, e4, D5, k5, e5⟩, rfl, ?_, below5 (belowThen HBW.out (belowThen HB1.out (belowThen HB2.out HB3.out))) (Nat.le_succ _) _ _ _ _ _⟩
    exact HNIL.out.but (only9 HRB2.out) (but5 _ _ _ _ _ _ _)
  obtain ⟨b, off, hst0⟩ := HST.out hz
  have hD4 : D4 = some ⟨b, off, none⟩ := hst0.adr
  subst hD4
  have HS0 := Lib.hid hst0
  clear hst0 HST
  go_wp2_with fail
  rw [HW3.out]
  go_wp2_with fail
  go_loopg [24] k4 (fun g i wr => ∃ k : Nat, k + g = k4 ∧ i = .int .i64 k ∧ PpSt w1 w2.heap.size ⟨D1, k1, e1, D2, k2, e2, D3, k3, e3, some ⟨b, off, none⟩, k4, e4, D5, k5, e5⟩ p b off k wr)
  case atStart => exact ⟨0, by omega, rfl, HS0.out⟩
  case round =>
    obtain ⟨k, hk, rfl, hst⟩ := hrel
    have HX := Lib.hid hst
    obtain ⟨f0, f1, f2, f3, f4⟩ := hst.box.facts
    simp only at f0 f1 f2 f3 f4
    cases gk with
    | zero =>
      have hkm : k = k4 := by omega
      subst hkm
      have hjz : ¬ ((k : Int) < k) := by omega
      have HRB2 := Lib.hid (HRB1.out.below' hst.bel)
      obtain ⟨⟨r0, r1, r2, r3, r4⟩, fr0, fr1, fr2, fr3, fr4⟩ := blkFacts59 HRB2.out
      have HPG : Hid (PgW wr ⟨D1, k1, e1, D2, k2, e2, D3, k3, e3, some ⟨b, off, none⟩, k, e4, D5, k5, e5⟩ (smpP p)) := Lib.hid (hst.done (by omega) HC.out.pg.l1 HC.out.pg.l2 HC.out.pg.l3 hl4 HC.out.pg.l5 (by show k ≤ e4; omega) (by unfold maxLen; exact hmx4))
      clear hst
      go_wp2_with fail
      refine bodyPost_ret ((stored59 HRB2.out _ _ _ _ _).res2 rfl _ rfl Tryz.underlying43 rfl infoPg9) rfl ?_
      refine ⟨⟨D1, k1, e1, D2, k2, e2, D3, k3, e3, some ⟨b, off, none⟩, k, e4, D5, k5, e5⟩, rfl, ?_, below5 (belowThen HBW.out (belowThen HB1.out HX.out.bel)) (Nat.le_succ _) _ _ _ _ _⟩
      exact HPG.out.but (only9 HRB2.out) (but5 _ _ _ _ _ _ _)
    | succ g2 =>
      have hk0 : (0 : Int) ≤ k := by omega
      have hk1 : (k : Int) < k4 := by omega
      have hkl : k < p.funcs.length := by omega
      obtain ⟨h1, B, m, d, h2, h3, h4, h5⟩ := hst.at_ k hkl
      have eC : smpAt p k k hkl = p.funcs[k].2 := by unfold smpAt; rw [if_neg (Nat.lt_irrefl _)]
      rw [eC] at h3 h4
      obtain ⟨hok, _⟩ := HFN.out p.funcs[k] (List.getElem_mem hkl)
      obtain ⟨nm, hnm⟩ : ∃ nm, p.funcs[k].1 = nm := ⟨_, rfl⟩
      rw [hnm] at h1
      have HSI := Lib.hid (fun X (hX : Below wr.heap.size wr X) => iSimplest passFold passThread passPrune nm p.funcs[k].2 hok m h3 B d X ⟨h4.below stabI hX, HWF.out _ (List.getElem_mem hkl), HLD.out X (belowThen (belowThen HB1.out hst.bel) hX)⟩)
      obtain ⟨m2, hm2⟩ : ∃ m2, (smp p.funcs[k].2).length = m2 := ⟨_, rfl⟩
      have HNX := Lib.hid (fun Y (hY : Below wr.heap.size wr Y) B' d' (hr : RdE 8 EI Y B' d' (smp p.funcs[k].2)) (hf : OffB B' m2 b) => hst.step hkl hY hnm hm2 hr hf)
      unfold GivesSm fnV at HSI
      rw [hm2] at HSI
      have HKC := Lib.hid (fun X (hX : Below wr.heap.size wr X) => ((hst.below hX).box.facts).2.2.2.1)
      simp only at HKC
      have S0 := HKC.out wr.drew ((Below.refl _ wr).drew)
      have HFZ := Lib.hid (fun X (hX : Below wr.heap.size wr X) => (by obtain ⟨cur, hc⟩ := (hst.below hX).blk; exact ⟨hc.frozen _, hc.frozen _⟩ : X.frozen? ⟨b, off + k * 2, none⟩ = false ∧ X.frozen? ⟨b, off + k * 2 + 1, none⟩ = false))
      have HCE := Lib.hid (fun X (hX : Below wr.heap.size wr X) => (by obtain ⟨q1, B', m', d', q2, _⟩ := (hst.below hX).at_ k hkl; exact ⟨⟨_, q1⟩, ⟨_, q2⟩⟩ : (∃ v, X.cell? ⟨b, off + k * 2, none⟩ = some v) ∧ ∃ v, X.cell? ⟨b, off + k * 2 + 1, none⟩ = some v))
      have HBB := Lib.hid (show w2.heap.size ≠ b from hst.ne)
      clear hst h3 h4 h5 eC hnm hm2 hok
      go_wp2_with fail
      clear f0 f1 f2 f3 f4
      refine wp_region_held_drew (S := fun X => X.cell? ⟨w2.heap.size, 3, none⟩ = some (.slice (some ⟨b, off, none⟩) k4 e4)) (by kernel_rfl) S0 (fun hHeld => ?_)
      refine wpAnyH_take (i := 0) (oi := ⟨some 27, _, _, _, _, _⟩) (v := ?v0_0) rfl (by kernel_rfl) (by kernel_rfl) (by kernel_rfl) (fun _ _ _ h => h) (Or.inl ⟨by rfl, ?h0_0⟩) (by assumption) ?r0_0
      case h0_0 => (intro w hSw; (try dsimp only at hSw); go_simp; try with_reducible rfl)
      (try simp only [Act.put, List.setIfInBounds_toArray, List.set_cons_zero, List.set_cons_succ])
      refine wpAnyH_take (i := 1) (oi := ⟨some 28, _, _, _, _, _⟩) (v := ?v1_1) rfl (by kernel_rfl) (by kernel_rfl) (by kernel_rfl) (fun _ _ _ h => h) (Or.inl ⟨by rfl, ?h1_1⟩) (by assumption) ?r1_1
      case h1_1 => (intro w hSw; (try dsimp only at hSw); go_simp; try with_reducible rfl)
      (try simp only [Act.put, List.setIfInBounds_toArray, List.set_cons_zero, List.set_cons_succ])
      refine wpAnyH_take (i := 2) (oi := ⟨some 29, _, _, _, _, _⟩) (v := ?v2_2) rfl (by kernel_rfl) (by kernel_rfl) (by kernel_rfl) (fun _ _ _ h => h) (Or.inl ⟨by rfl, ?h2_2⟩) (by assumption) ?r2_2
      case h2_2 => (intro w hSw; (try dsimp only at hSw); go_simp; try with_reducible rfl)
      (try simp only [Act.put, List.setIfInBounds_toArray, List.set_cons_zero, List.set_cons_succ])
      refine wpAnyH_take (i := 3) (oi := ⟨some 30, _, _, _, _, _⟩) (v := ?v3_3) rfl (by kernel_rfl) (by kernel_rfl) (by kernel_rfl) (fun _ _ _ h => h) (Or.inl ⟨by rfl, ?h3_3⟩) (by assumption) ?r3_3
      case h3_3 => (intro w hSw; (try dsimp only at hSw); go_simp; try with_reducible rfl)
      (try simp only [Act.put, List.setIfInBounds_toArray, List.set_cons_zero, List.set_cons_succ])
      refine wpAnyH_take (i := 4) (oi := ⟨some 31, _, _, _, _, _⟩) (v := ?v4_4) rfl (by kernel_rfl) (by kernel_rfl) (by kernel_rfl) (fun _ _ _ h => h) (Or.inl ⟨by rfl, ?h4_4⟩) (by assumption) ?r4_4
      case h4_4 => (intro w hSw; (try dsimp only at hSw); go_simp; try with_reducible rfl)
      (try simp only [Act.put, List.setIfInBounds_toArray, List.set_cons_zero, List.set_cons_succ])
      refine wpAnyH_take (i := 5) (oi := ⟨some 32, _, _, _, _, _⟩) (v := ?v5_5) rfl (by kernel_rfl) (by kernel_rfl) (by kernel_rfl) (fun _ _ _ h => h) (Or.inl ⟨by rfl, ?h5_5⟩) (by assumption) ?r5_5
      case h5_5 => (intro w hSw; (try dsimp only at hSw); go_simp; try with_reducible rfl)
      (try simp only [Act.put, List.setIfInBounds_toArray, List.set_cons_zero, List.set_cons_succ])
      refine wpAnyH_take (i := 6) (oi := ⟨some 33, _, _, _, _, _⟩) (v := ?v6_6) rfl (by kernel_rfl) (by kernel_rfl) (by kernel_rfl) (fun _ _ _ h => h) (Or.inl ⟨by rfl, ?h6_6⟩) (by assumption) ?r6_6
      case h6_6 => (intro w hSw; (try dsimp only at hSw); go_simp; try with_reducible rfl)
      (try simp only [Act.put, List.setIfInBounds_toArray, List.set_cons_zero, List.set_cons_succ])
      refine wpAnyH_ready (rs := [7]) (by kernel_rfl) (by simp) ?_
      refine AllReadyH.cons (o := ⟨some 34, _, _, _, _, _⟩) rfl (fun K hK => ?_) (AllReadyH.nil)
      go_simp
      refine hK.out _ _ S0 (fun hHeld => ?_)
      clear hK K
      (try simp only [Act.put, List.setIfInBounds_toArray, List.set_cons_zero, List.set_cons_succ])
      refine wpAnyH_ready (rs := [8]) (by kernel_rfl) (by simp) ?_
      refine AllReadyH.cons (o := ⟨some 35, _, _, _, _, _⟩) rfl (fun K hK => ?_) (AllReadyH.nil)
      go_simp
      refine (HSI.out _ ((Below.refl _ wr).drew)).mono ?_
      rintro e w9 ⟨A9, c9, rfl, ⟨rd9, fr9⟩, b9⟩
      have G9 := belowThen ((Below.refl _ wr).drew) b9
      obtain ⟨z1, z2⟩ := HFZ.out w9 G9
      obtain ⟨⟨y1, hy1⟩, ⟨y2, hy2⟩⟩ := HCE.out w9 G9
      have HN9 := Lib.hid (HNX.out w9 G9 A9 c9 rd9 (fun _ ad had => by have h1 := fr9 ad had; have h2 := HX.out.lt; have h3 : wr.drew.heap.size = wr.heap.size := rfl; omega))
      try dsimp only
      refine hK.out _ _ (HKC.out _ G9) (fun hHeld => ?_)
      clear hK K
      (try simp only [Act.put, List.setIfInBounds_toArray, List.set_cons_zero, List.set_cons_succ])
      refine wpAnyH_take (i := 9) (oi := ⟨some 36, _, _, _, _, _⟩) (v := ?v9_9) rfl (by kernel_rfl) (by kernel_rfl) (by kernel_rfl) (fun _ _ _ h => h) (Or.inl ⟨by rfl, ?h9_9⟩) (by assumption) ?r9_9
      case h9_9 => (intro w hSw; (try dsimp only at hSw); go_simp; try with_reducible rfl)
      (try simp only [Act.put, List.setIfInBounds_toArray, List.set_cons_zero, List.set_cons_succ])
      refine wpAnyH_ready (rs := [10]) (by kernel_rfl) (by simp) ?_
      refine AllReadyH.cons (o := ⟨none, _, _, _, _, _⟩) rfl (fun K hK => ?_) (AllReadyH.nil)
      go_simp
      refine hK.out _ _ (HN9.out.box.facts.2.2.2.1) (fun hHeld => ?_)
      clear hK K
      (try simp only [Act.put, List.setIfInBounds_toArray, List.set_cons_zero, List.set_cons_succ])
      refine wpAnyH_done (by kernel_rfl) ?_ _
      go_wp2_with fail
      go_roundg g2
      case measure => omega
      case rel => exact ⟨k + 1, by omega, by go_num, HN9.out⟩
end Go.Proofs.YtpkagpobobmnfaaGreatDoor

namespace Go.Proofs.YtpkagpobobmnfaaGreatDoor
open Go Go.RowKit

theorem small15 {p : Prg} (h1 : p.vars.length ≤ 20) (h2 : p.muts.length ≤ 20) (h3 : p.conds.length ≤ 20) (h4 : p.funcs.length ≤ 4) (h5 : p.thr.length ≤ 20) (h : ∀ j (hj : j < p.funcs.length), p.funcs[j].2.length ≤ 30) : p.small = true := by
  unfold Prg.small Prg.few Prg.short
  simp only [Bool.and_eq_true, decide_eq_true_eq]
  refine ⟨by omega, List.all_eq_true.2 fun f hf => ?_⟩
  obtain ⟨j, hj, rfl⟩ := List.mem_iff_getElem.1 hf
  have := h j hj
  simpa using (by omega : p.funcs[j].2.length ≤ 100)
def GivesQs (p : Prg) (w : World) (e : Ending) (w' : World) : Prop := ∃ r, e = .returned (.bool r) ∧ (r = true → p.small = true) ∧ Below w.heap.size w w'
set_option maxRecDepth 100000 in
set_option maxHeartbeats 4000000 in
theorem rSmall15 {a : PgA} {p : Prg} (w : World) (hP : PgW w a p) : Calls Tryz.prog 13 #[a.val] w (GivesQs p w) := by
  have HF := Lib.hid (fun X (hX : Below w.heap.size w X) k (hk : k < p.funcs.length) => (hP.below hX).funcs.one hk)
  have HL := Lib.hid hP.l4
  have HE := Lib.hid (And.intro hP.l1 (And.intro hP.l2 (And.intro hP.l3 hP.l5)))
  have m1 := hP.vars.max
  have m2 := hP.muts.max
  have m3 := hP.conds.max
  have m4 := hP.funcs.max
  have m5 := hP.thr.max
  have e1 := hP.vars.le
  have e2 := hP.muts.le
  have e3 := hP.conds.le
  have e4 := hP.funcs.le
  have e5 := hP.thr.le
  rw [hP.l1] at e1
  rw [hP.l2] at e2
  rw [hP.l3] at e3
  rw [hP.l4] at e4
  rw [hP.l5] at e5
  unfold maxLen at m1 m2 m3 m4 m5
  obtain ⟨A1, n1, c1, A2, n2, c2, A3, n3, c3, A4, n4, c4, A5, n5, c5⟩ := a
  simp only [PgA.val, PgA.fs] at *
  have hb0 := belowAlloc w (.cells #[.slice A1 n1 c1, .slice A2 n2 c2, .slice A3 n3 c3, .slice A4 n4 c4, .slice A5 n5 c5] 43)
  clear hP
  by_cases h4 : 4 < n4
  · go_enter Tryz.func13, Tryz.ntmps13
    go_wp2
    all_goals first
      | (exfalso; omega)
      | (go_ret; exact ⟨false, rfl, (fun h => by cases h), hb0⟩)
  by_cases h1 : 20 < n1
  · go_enter Tryz.func13, Tryz.ntmps13
    go_wp2
    all_goals first
      | (exfalso; omega)
      | (go_ret; exact ⟨false, rfl, (fun h => by cases h), hb0⟩)
  by_cases h2 : 20 < n2
  · go_enter Tryz.func13, Tryz.ntmps13
    go_wp2
    all_goals first
      | (exfalso; omega)
      | (go_ret; exact ⟨false, rfl, (fun h => by cases h), hb0⟩)
  by_cases h3 : 20 < n3
  · go_enter Tryz.func13, Tryz.ntmps13
    go_wp2
    all_goals first
      | (exfalso; omega)
      | (go_ret; exact ⟨false, rfl, (fun h => by cases h), hb0⟩)
  by_cases h5 : 20 < n5
  · go_enter Tryz.func13, Tryz.ntmps13
    go_wp2
    all_goals first
      | (exfalso; omega)
      | (go_ret; exact ⟨false, rfl, (fun h => by cases h), hb0⟩)
  go_enter Tryz.func13, Tryz.ntmps13
  go_wp2
  all_goals (try (exfalso; omega))
  go_loopg [36] n4 (fun g i wr => ∃ k : Nat, k + g = n4 ∧ i = .int .i64 k ∧ Below w.heap.size w wr ∧ Hid (∀ j (hj : j < p.funcs.length), j < k → p.funcs[j].2.length ≤ 30))
  case atStart => exact ⟨0, by omega, rfl, hb0, Lib.hid fun j _ h => by omega⟩
  case round =>
    obtain ⟨k, hk, rfl, hb, HA⟩ := hrel
    cases gk with
    | zero =>
      have hkm : k = n4 := by omega
      subst hkm
      have hjz : ¬ ((k : Int) < k) := by omega
      have HS := Lib.hid (small15 (p := p) (by have := HE.out.1; omega) (by have := HE.out.2.1; omega) (by have := HE.out.2.2.1; omega) (by have := HL.out; omega) (by have := HE.out.2.2.2; omega) (fun j hj => HA.out j hj (by have := HL.out; omega)))
      go_wp2
      go_ret
      exact ⟨true, rfl, fun _ => HS.out, hb⟩
    | succ g2 =>
      have hk0 : (0 : Int) ≤ k := by omega
      have hk1 : (k : Int) < n4 := by omega
      have hkl : k < p.funcs.length := by have := HL.out; omega
      obtain ⟨b, off, eA, hb1, hx0, v, hx1, B, m, d, rfl, hm, hr⟩ := HF.out wr hb k hkl
      have eA : A4 = some ⟨b, off, none⟩ := eA
      subst eA
      have hle := hr.le
      have hmx := hr.max
      rw [hm] at hle
      unfold maxLen at hmx
      obtain ⟨nm, hnm⟩ : ∃ nm, p.funcs[k].1 = nm := ⟨_, rfl⟩
      rw [hnm] at hx0
      have HM := Lib.hid hm
      have hbx := belowThen hb (belowAlloc wr (.cells #[.string nm, .slice B m d] 24))
      clear hm hr hnm
      by_cases h30 : 30 < m
      · have d1 : decide ((30 : Int) < (m : Int)) = true := decide_eq_true (by omega)
        go_wp2
        all_goals first
          | (exfalso; omega)
          | skip
        go_ret
        exact ⟨false, rfl, (fun h => by cases h), hbx⟩
      · have d1 : decide ((30 : Int) < (m : Int)) = false := decide_eq_false (by omega)
        go_wp2
        all_goals first
          | (exfalso; omega)
          | skip
        go_roundg g2
        case measure => omega
        case rel => exact ⟨k + 1, by omega, by go_num, hbx, Lib.hid fun j hj h => by
          rcases Nat.lt_succ_iff_lt_or_eq.1 h with h | h
          · exact HA.out j hj h
          · subst h; have := HM.out; omega⟩
end Go.Proofs.YtpkagpobobmnfaaGreatDoor
