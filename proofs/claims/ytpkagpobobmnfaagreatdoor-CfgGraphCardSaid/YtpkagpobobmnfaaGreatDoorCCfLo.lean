/-
  The contract of Loops.
-/
import Derived.Test.YtpkagpobobmnfaaGreatDoorCCfLa
import Derived.BigRegionIn
namespace Go.Proofs.YtpkagpobobmnfaaGreatDoor
open Go Go.RowKit Go.Shelf
attribute [local go_sem] Oper.semAt_some

def kpN (b : Bool) (y : Nat) : List Nat := match b with
  | true => [y]
  | false => []
theorem bgLS {C : List I8} {n h y : Nat} {ps : List Nat} (b : Bool) (hb : dmB n (sc C) h y = b) : (ps ++ [y]).filter (fun s => dmB n (sc C) h s) = (ps.filter fun s => dmB n (sc C) h s) ++ kpN b y := by
  rw [List.filter_append, List.filter_cons, List.filter_nil, hb]
  cases b <;> rfl
theorem bkB_none {C : List I8} {n : Nat} (h : ∀ h, h < n → (bgL C h = [] ↔ bkB n (sc C) h = false)) {k : Nat} (hk : k < n) : (bgL C k = [] → bkB n (sc C) k = false) ∧ (bkB n (sc C) k = false → bgL C k = []) := ⟨(h k hk).1, (h k hk).2⟩
set_option maxRecDepth 100000 in
set_option maxHeartbeats 40000000 in
set_option linter.unusedSimpArgs false in
theorem iLoops (nm : ByteArray) (C : List I8) (n : Nat) (hn : C.length = n) (A : Option Addr) (c : Nat) (w : World) (h : CdW w A c C) :
    Calls Tryz.prog 26 #[fnV nm A n c] w (GivesQ9 (loR C) (cfE C) w) := by
  obtain ⟨W, hW⟩ : ∃ W, w.alloc (.cells #[.string nm, .slice A n c] 24) = W := ⟨_, rfl⟩
  have hbW : Below w.heap.size w W := by rw [← hW]; exact belowAlloc w _
  have hB : Blk W w.heap.size 24 #[.string nm, .slice A n c] := by rw [← hW]; exact Blk.new w _ _
  have k0 : W.cell? ⟨w.heap.size, 0, none⟩ = some (.string nm) := hB.cell 0
  have k1 : W.cell? ⟨w.heap.size, 1, none⟩ = some (.slice A n c) := hB.cell 1
  have HCO := Lib.hid (iCodeOf nm C n hn A c W (h.below hbW))
  have HCW := Lib.hid (fun X (hX : Below W.heap.size W X) => ((h.below hbW).below hX).rd)
  have HW := Lib.hid hW
  have HBW := Lib.hid hbW
  have hle := h.rd.le
  have hmx := h.rd.max
  rw [hn] at hle
  unfold maxLen at hmx
  clear h hB hW hbW
  unfold fnV at HCO ⊢
  by_cases hc : cfE C = 0
  rotate_left
  · have hne : (cfE C != 0) = true := by simpa using hc
    have e2 : loR C = [] := by unfold loR; rw [if_neg hc]
    rw [e2]
    rw [cdV1 hc] at HCO
    generalize cfE C = E at HCO hne ⊢
    clear hc e2
    refine (callsIn_wide (n := 8)).1 ?_
    refine callsIn_of_wp_marks Tryz.func26 rfl trivial ?_ rfl
    simp only [Tryz.ntmps26, List.size_toArray, List.length_cons, List.length_nil, Nat.reduceAdd, Nat.reduceSub, Array.replicate_succ, Array.replicate_zero, List.push_toArray, List.append_toArray, List.nil_append, List.cons_append]
    gi_wp2_with fail
    rw [HW.out]
    refine ⟨trivial, (callsIn_wide.2 HCO.out).mono ?_⟩
    rintro e w1 ⟨rfl, b1⟩
    gi_wp2
    exact ⟨_, results_tmp2 rfl _ _ _, none, 0, rfl, ⟨[], Rds.nil, rfl, fun _ h => absurd h (by simp)⟩, belowThen HBW.out b1⟩
  have hok := cfOk hc
  have h64 := hok.len
  rw [hn] at h64
  have e2 : loR C = lpP n (sc C) n := by unfold loR; rw [if_pos hc, hn]
  rw [e2, hc]
  rw [cdV0 hc, hc] at HCO
  clear e2 hc
  have HDM := Lib.hid (fun X (hX : Below W.heap.size W X) => iDoms C hok n hn A c X (HCW.out X hX))
  have HPV := Lib.hid (fun X (hX : Below W.heap.size W X) => iPrev C hok n hn A c X (HCW.out X hX))
  have HBO := Lib.hid (fun h (hh : h < n) Ad Ap cd cp b6 b7 b10 m hm A c w hd hp h6 h7 h10 ha => iBody C hok n hn h hh Ad Ap cd cp b6 b7 b10 (n + 1) (Nat.le_succ n) m hm A c w hd hp h6 h7 h10 ha)
  have HBK := Lib.hid (fun h (_ : h < n) => bgLNone (C := C) (h := h))
  have hbl : ∀ h, bgL C h = (pv C h).filter fun s => dmB C.length (sc C) h s := fun _ => rfl
  have HBL := Lib.hid hbl
  rw [hn] at HBK HBL
  have HPN := Lib.hid (fun h y (hy : y ∈ pv C h) => hn ▸ (pvMem.1 hy).1)
  have hpl0 : ∀ h, (pv C h).length ≤ 2 * n := fun h => by rw [← hn]; exact pvKLen C.length
  have HPL := Lib.hid hpl0
  obtain ⟨n1, hn1⟩ : ∃ n1, n + 1 = n1 := ⟨_, rfl⟩
  rw [hn1] at HPV HBO
  have HN1 := Lib.hid hn1
  clear hok hn hn1 hbl hpl0
  refine (callsIn_wide (n := 8)).1 ?_
  refine callsIn_of_wp_marks Tryz.func26 rfl trivial ?_ rfl
  simp only [Tryz.ntmps26, List.size_toArray, List.length_cons, List.length_nil, Nat.reduceAdd, Nat.reduceSub, Array.replicate_succ, Array.replicate_zero, List.push_toArray, List.append_toArray, List.nil_append, List.cons_append]
  gi_wp2_with fail
  rw [HW.out]
  refine ⟨trivial, (callsIn_wide.2 HCO.out).mono ?_⟩
  rintro e w1 ⟨rfl, b1⟩
  have HD1 := Lib.hid (HDM.out w1 b1)
  have HB1 := Lib.hid b1
  clear k0 k1 b1
  gi_wp2_with fail
  refine ⟨trivial, (callsIn_wide.2 HD1.out).mono ?_⟩
  rintro e w2 ⟨Ad, cd, rfl, hrd, b2⟩
  have HB2 := Lib.hid (belowThen HB1.out b2)
  have HP2 := Lib.hid (HPV.out w2 HB2.out)
  have HRD := Lib.hid hrd
  clear hrd b2
  gi_wp2_with fail
  refine ⟨trivial, (callsIn_wide.2 HP2.out).mono ?_⟩
  rintro e w5 ⟨Ap, cp, rfl, hrp, b5⟩
  have HB5 := Lib.hid (belowThen HB2.out b5)
  have HRD5 := Lib.hid (HRD.out.below b5)
  have HRP5 := Lib.hid hrp
  clear hrp b5
  gi_wp2_with fail
  obtain ⟨V, hV⟩ : ∃ V, ((w5.alloc (.cells #[.slice Ad n cd] 57)).alloc (.cells #[.slice Ap n1 cp] 57)) = V := ⟨_, rfl⟩
  have hbV : Below w5.heap.size w5 V := by rw [← hV]; exact belowThen (belowAlloc w5 _) (belowAlloc _ _)
  have hb6 : Boxed V w5.heap.size 57 (.slice Ad n cd) := by rw [← hV]; exact (Boxed.new w5 _ _).alloc _
  have hb7 : Boxed V (w5.heap.size + 1) 57 (.slice Ap n1 cp) := by
    rw [← hV]
    have h := Boxed.new (w5.alloc (.cells #[.slice Ad n cd] 57)) 57 (.slice Ap n1 cp)
    rwa [World.size_alloc] at h
  have HC6 := Lib.hid (fun X (hX : Below V.heap.size V X) => ((hX.block _ hb6.lt).trans hb6 : Boxed X w5.heap.size 57 (.slice Ad n cd)))
  have HC7 := Lib.hid (fun X (hX : Below V.heap.size V X) => ((hX.block _ hb7.lt).trans hb7 : Boxed X (w5.heap.size + 1) 57 (.slice Ap n1 cp)))
  have HRD := Lib.hid (fun X (hX : Below V.heap.size V X) => (HRD5.out.below hbV).below hX)
  have HRP := Lib.hid (fun X (hX : Below V.heap.size V X) => (HRP5.out.below hbV).below hX)
  have HBV := Lib.hid (belowThen HB5.out hbV)
  have HVE := Lib.hid hV
  have hen := entL1
  clear hV hbV hb6 hb7
  rw [HVE.out]
  obtain ⟨INV, hINV⟩ : ∃ INV : Act → World → Prop, INV = (fun a' w' => ∃ (u : Nat → Value) (Ds : List Nat) (k : Nat) (v : Value), a' = { tmps := #[.agg #[.string nm, .slice A n c], .pointer (some ⟨w.heap.size, 0, none⟩), .slice none 0 0, .int .i64 0, .slice A n c, .int .i64 0, .pointer (some ⟨w5.heap.size, 0, none⟩), .pointer (some ⟨w5.heap.size + 1, 0, none⟩), v, .func (.func 55) #[] #[.pointer (some ⟨w5.heap.size + 1, 0, none⟩)], u 10, u 11, u 12, u 13, .tuple #[.slice A n c, .int .i64 0], .agg #[.string nm, .slice A n c], .tuple #[.slice A n c, .int .i64 0], .slice A n c, .int .i64 0, .int .i64 0, .bool false, undef, .slice A n c, .slice Ad n cd, .slice A n c, .slice Ap n1 cp, .func (.func 55) #[] #[.pointer (some ⟨w5.heap.size + 1, 0, none⟩)], .slice A n c, .int .i64 (n : Int), .int .i64 (k : Int), u 30, u 31, u 32, u 33, u 34, u 35, u 36, u 37, u 38, u 39, u 40, u 41, u 42, u 43, u 44, u 45, u 46, u 47, u 48, u 49, u 50, u 51, u 52, u 53, u 54, u 55, u 56, u 57, u 58, u 59, u 60, u 61, u 62], defers := Ds.map markR } ∧ Hid (LoSt V n (sc C) k v w') ∧ Hid (OpenR Ds w' ∧ Ds.Nodup ∧ ∀ D ∈ Ds, V.heap.size ≤ D) ∧ k ≤ n) := ⟨_, rfl⟩
  obtain ⟨MU, hMU⟩ : ∃ MU : Act → World → Nat, MU = (fun a' _ => n - (intOf (a'.tmps.getD 29 undef)).toNat) := ⟨_, rfl⟩
  have HINV := Lib.hid hINV
  have HMU := Lib.hid hMU
  clear hINV hMU
  refine wpIn_loop INV MU ?_ ?_
  · rw [HINV.out]
    exact ⟨fun _ => undef, [], 0, .slice none 0 0, rfl, Lib.hid ⟨⟨[], OwnL.nil _ _, trivial⟩, Below.refl _ _⟩, Lib.hid ⟨(fun _ h => by cases h), List.nodup_nil, (fun _ h => by cases h)⟩, Nat.zero_le _⟩
  intro a' wl hi
  rw [HINV.out] at hi
  obtain ⟨u, Ds, h, v, rfl, HS, HO, hk⟩ := hi
  by_cases hlt : h < n
  · have hk0 : (0 : Int) ≤ h := by omega
    have hk1 : (h : Int) < n := by omega
    obtain ⟨X1, hX1⟩ : ∃ X1, (wl.alloc (.cells #[.int .i64 (h : Int)] 3)).alloc (.cells #[.slice none 0 0] 33) = X1 := ⟨_, rfl⟩
    have hbl : Below wl.heap.size wl X1 := by rw [← hX1]; exact belowThen (belowAlloc wl _) (belowAlloc _ _)
    have hbx : Boxed X1 wl.heap.size 3 (.int .i64 (h : Int)) := by rw [← hX1]; exact (Boxed.new wl _ _).alloc _
    have hbb : Boxed X1 (wl.heap.size + 1) 33 (.slice none 0 0) := by
      rw [← hX1]
      have h0 := Boxed.new (wl.alloc (.cells #[.int .i64 (h : Int)] 3)) 33 (.slice none 0 0)
      rwa [World.size_alloc] at h0
    have hz1 : X1.heap.size = wl.heap.size + 2 := by rw [← hX1]; simp
    have HBX := Lib.hid (belowThen HS.out.bel hbl)
    have HC := Lib.hid (backK (pv C) n1 h (by have := HN1.out; omega) Ap cp (w5.heap.size + 1) V X1 HBX.out (HRP.out V (Below.refl _ V)) (Boxed.cell (HC7.out X1 HBX.out)))
    have kc := hbx.cell
    have HX1 := Lib.hid hX1
    have HBL1 := Lib.hid hbl
    have HHB := Lib.hid hbx
    have HBB := Lib.hid hbb
    have HZ1 := Lib.hid hz1
    clear hX1 hbl hbx hbb hz1
    gi_wp2_with fail
    rw [HX1.out]
    refine ⟨trivial, (callsIn_wide.2 HC.out).mono ?_⟩
    rintro e Y ⟨rfl, Ay0, cy0, my0, hry0, hseq, hY⟩
    rw [HZ1.out] at hseq ⊢
    have HSQ := Lib.hid (hseq 7 (by omega))
    have hge := entVal1
    have hbY : Below X1.heap.size X1 Y := by rw [hY]; exact belowAlloc X1 _
    have hzY : Y.heap.size = wl.heap.size + 3 := by rw [hY]; simp [HZ1.out]
    have HQB := Lib.hid (blkLt (B := wl.heap.size + 1) hry0 (by have := HS.out.bel.size; omega) (Nat.succ_pos _))
    have HP0 : Hid (LoIn C n wl h (pv C h) [] Y) := Lib.hid ⟨⟨.slice none 0 0, (hbY.block _ HBB.out.lt).trans HBB.out, OwnI.nil _ _⟩, (hbY.block _ HHB.out.lt).trans HHB.out, belowThen HBL1.out hbY, Nat.zero_le _⟩
    have HZY := Lib.hid hzY
    have HBY := Lib.hid hbY
    have HYE := Lib.hid hY
    clear hseq hbY hzY kc hry0 hY
    gi_wp2
    refine rangeClos (F := Fence.wide) (n := 8) rfl (by omega) (gf := 100) (lb := #[.pointer (some ⟨wl.heap.size + 2, 0, none⟩)]) rfl trivial hge (encs := encN) (Kp := KeepL Ay0 (pv C h)) (L := pv C h) (w0 := Y) HSQ.out (fun h k => h.trans k) (fun W l o o' _ h hc _ => Keep2.put _ _ W l o o' h hc) (Below.refl _ _) (fun _ => rfl)
      (fun ps X => LoIn C n wl h (pv C h) ps X) (fun _ _ _ => False) ?hI (fun _ _ _ _ _ h => h.elim) HP0.out
      (fun _ y => { tmps := #[.agg #[.string nm, .slice A n c], .pointer (some ⟨w.heap.size, 0, none⟩), .slice none 0 0, .int .i64 0, .slice A n c, .int .i64 0, .pointer (some ⟨w5.heap.size, 0, none⟩), .pointer (some ⟨w5.heap.size + 1, 0, none⟩), v, .func (.func 55) #[] #[.pointer (some ⟨w5.heap.size + 1, 0, none⟩)], .pointer (some ⟨wl.heap.size, 0, none⟩), .pointer (some ⟨wl.heap.size + 1, 0, none⟩), .int .i64 (y : Int), u 13, .tuple #[.slice A n c, .int .i64 0], .agg #[.string nm, .slice A n c], .tuple #[.slice A n c, .int .i64 0], .slice A n c, .int .i64 0, .int .i64 0, .bool false, undef, .slice A n c, .slice Ad n cd, .slice A n c, .slice Ap n1 cp, .func (.func 55) #[] #[.pointer (some ⟨w5.heap.size + 1, 0, none⟩)], .slice A n c, .int .i64 (n : Int), .int .i64 (h : Int), .bool true, .int .i64 (h : Int), .func (.func 55) #[] #[.pointer (some ⟨w5.heap.size + 1, 0, none⟩)], .int .i64 (h : Int), .func (.func 100) #[] #[.pointer (some ⟨wl.heap.size + 2, 0, none⟩)], .int .i64 (y : Int), u 36, u 37, u 38, u 39, u 40, u 41, u 42, u 43, u 44, u 45, u 46, u 47, u 48, u 49, u 50, u 51, u 52, u 53, u 54, u 55, u 56, u 57, u 58, u 59, u 60, u 61, u 62], defers := [] }) (fun _ W => W) (fun _ W => World.grownBy.refl W none) (fun _ W => Keep2.refl _ _ W) ?assign ?body ?done (fun _ _ _ _ _ h _ => h.elim)
    case assign =>
      intro l y X K hK
      unfold encN
      gi_wp2
      exact hK
    case hI =>
      rintro ps X X' row hi hgr hr
      exact hi.own hgr (fun q e => ⟨(hr q e).1, by obtain ⟨_, o2, ho2, hn⟩ := hr q e; exact ⟨o2, ho2, hn⟩⟩) (by have := HZY.out; omega)
    case body =>
      rintro l ps y rest X U hLL hi hwl hlX _
      have hym : y ∈ pv C h := by rw [hLL]; simp
      have hyn := HPN.out h y hym
      have hpl := HPL.out h
      have hlen : ps.length + 1 ≤ (pv C h).length := by rw [hLL, List.length_append, List.length_cons]; omega
      obtain ⟨U1, hU1⟩ : ∃ U1, U.drew = U1 := ⟨_, rfl⟩
      have hbU : Below V.heap.size V U1 := by rw [← hU1]; exact (belowThen HS.out.bel hi.bel).drew
      have t6 := Boxed.cell (HC6.out U1 hbU)
      have t10 : U1.cell? ⟨wl.heap.size, 0, none⟩ = some (.int .i64 (h : Int)) := by rw [← hU1]; exact hi.hd.cell
      have hrd := HRD.out U1 hbU
      have hcl := hrd.le
      have hcm := hrd.max
      unfold maxLen at hcm
      obtain ⟨add, Ay, cy, hA, _, hcc, hrr⟩ := hrd.one (k := y) hyn
      subst hA
      obtain ⟨my, hmy⟩ : ∃ my, (dmK n (sc C) n y).length = my := ⟨_, rfl⟩
      rw [hmy] at hcc
      obtain ⟨b0, hb0⟩ : ∃ b0, dmB n (sc C) h y = b0 := ⟨_, rfl⟩
      have hmem : memB (dmK n (sc C) n y) (h : Int) = b0 := by
        unfold memB
        rw [← hb0, Bool.eq_iff_iff, decide_eq_true_iff, dmKMem]
        exact ⟨fun ⟨d, e, hd⟩ => (show h = d by omega) ▸ hd, fun hd => ⟨h, rfl, hd⟩⟩
      have HCT := Lib.hid (iContains9 (dmK n (sc C) n y) my hmy (h : Int) b0 hmem Ay cy U1 hrr)
      obtain ⟨⟨vb, hvb, hob⟩, h3, h4, h5⟩ := hi
      have hvb : Boxed U1 (wl.heap.size + 1) 33 vb := by rw [← hU1]; exact hvb
      have hob : OwnI U1 (wl.heap.size + 2) vb ((ps.filter fun s => dmB n (sc C) h s).map Int.ofNat) := by rw [← hU1]; exact hob
      have h3 : Boxed U1 wl.heap.size 3 (.int .i64 (h : Int)) := by rw [← hU1]; exact h3
      have h4 : Below wl.heap.size wl U1 := by rw [← hU1]; exact h4.drew
      have hfl : (ps.filter fun s => dmB n (sc C) h s).length ≤ ps.length := List.length_filter_le _ _
      have hFS := bgLS (C := C) (n := n) (h := h) (y := y) (ps := ps) b0 hb0
      have hUU : KeepsOthers U U1 := by rw [← hU1]; exact KeepsOthers.drew U
      have hKU : KeepL Ay0 (pv C h) U U1 := by rw [← hU1]; exact ⟨Nat.le_refl _, fun _ _ _ h _ => h⟩
      have HNO := Lib.hid (fun (e : b0 = false) => (show KeepsFrom Y.heap.size U U1 ∧ KeepL Ay0 (pv C h) U U1 ∧ LoIn C n wl h (pv C h) (ps ++ [y]) U1 from
        ⟨hUU.from _, hKU, ⟨⟨vb, hvb, by rw [hFS, e]; simpa [kpN] using hob⟩, h3, h4, by rw [List.length_append]; exact hlen⟩⟩))
      obtain ⟨Ab2, cb2, w2, hrun, hf, ⟨ux, hu, hu1⟩, hb2, ho2, hbe, hk⟩ := push9 hvb hob (by omega) (by have := hvb.lt; omega) (by rw [List.length_map]; omega) (y : Int) 33
      have HYES := Lib.hid (fun (e : b0 = true) => (show KeepsFrom Y.heap.size U (w2.setCell ⟨wl.heap.size + 1, 0, none⟩ (.slice Ab2 (((ps.filter fun s => dmB n (sc C) h s).map Int.ofNat).length + 1) cb2)) ∧ KeepL Ay0 (pv C h) U (w2.setCell ⟨wl.heap.size + 1, 0, none⟩ (.slice Ab2 (((ps.filter fun s => dmB n (sc C) h s).map Int.ofNat).length + 1) cb2)) ∧ LoIn C n wl h (pv C h) (ps ++ [y]) (w2.setCell ⟨wl.heap.size + 1, 0, none⟩ (.slice Ab2 (((ps.filter fun s => dmB n (sc C) h s).map Int.ofNat).length + 1) cb2)) from by
        refine ⟨(hUU.trans hk).from _, hKU.trans ⟨hbe.size, fun q hq o ho _ => (hbe.block q ?_).trans ho⟩, ⟨⟨_, hb2, ?_⟩, (hbe.block _ (by omega)).trans h3, h4.trans (belowLow9 hbe (by omega)), by rw [List.length_append]; exact hlen⟩⟩
        · have := HQB.out
          rcases hq with rfl | rfl <;> exact this
        · rw [hFS, e, List.map_append]
          exact ho2))
      have kv := hvb.cell
      obtain ⟨A1, c1, rfl, _, _⟩ := hob.rd
      obtain ⟨q1, hq1⟩ : ∃ q, ((ps.filter fun s => dmB n (sc C) h s).map Int.ofNat).length = q := ⟨_, rfl⟩
      rw [hq1] at HYES hrun kv
      have hy0 : (0 : Int) ≤ y := by omega
      have hy1 : (y : Int) < n := by omega
      clear hvb hob h3 h4 h5 hb2 ho2 hbe hk hlen hpl hLL hq1 hUU hKU hFS hfl hmem hrd hrr hmy hbU hym hwl hlX
      gi_wp2_with fail
      refine wpIn_region_any (by kernel_rfl) ?_
      change wpAnyIn _ _ _ _ _ _ _ _ _ (World.drew _)
      rw [hU1]
      clear hU1
      refine mergeAny fun G hG => ?_
      have hq111111 : G 0 #[true, true, true, true, true, true] { tmps := #[.agg #[.string nm, .slice A n c], .pointer (some ⟨w.heap.size, 0, none⟩), .slice none 0 0, .int .i64 0, .slice A n c, .int .i64 0, .pointer (some ⟨w5.heap.size, 0, none⟩), .pointer (some ⟨w5.heap.size + 1, 0, none⟩), v, .func (.func 55) #[] #[.pointer (some ⟨w5.heap.size + 1, 0, none⟩)], .pointer (some ⟨wl.heap.size, 0, none⟩), .pointer (some ⟨wl.heap.size + 1, 0, none⟩), .int .i64 (y : Int), u 13, .tuple #[.slice A n c, .int .i64 0], .agg #[.string nm, .slice A n c], .tuple #[.slice A n c, .int .i64 0], .slice A n c, .int .i64 0, .int .i64 0, .bool false, undef, .slice A n c, .slice (some add) n cd, .slice A n c, .slice Ap n1 cp, .func (.func 55) #[] #[.pointer (some ⟨w5.heap.size + 1, 0, none⟩)], .slice A n c, .int .i64 (n : Int), .int .i64 (h : Int), .bool true, .int .i64 (h : Int), .func (.func 55) #[] #[.pointer (some ⟨w5.heap.size + 1, 0, none⟩)], .int .i64 (h : Int), .func (.func 100) #[] #[.pointer (some ⟨wl.heap.size + 2, 0, none⟩)], .int .i64 (y : Int), .slice (some add) n cd, .int .i64 (y : Int), .pointer (some (add.add y)), .slice Ay my cy, .int .i64 (h : Int), .bool b0, u 42, u 43, u 44, u 45, u 46, u 47, u 48, u 49, u 50, u 51, u 52, u 53, u 54, u 55, u 56, u 57, u 58, u 59, u 60, u 61, u 62], defers := [] } U1 := by
        refine (hG _ _ _ _).2 ?_
        refine wpAnyIn_done (by kernel_rfl) ?_ _
        cases b0 with
        | false =>
          gi_wp2
          first | exact HNO.out rfl | exact HNO.out trivial
        | true =>
          gi_wp2_with (gi_at_builtin; refine wpListIn_app9 _ rfl (.tmp 42) (.tmp 44) 33 rfl rfl rfl hrun ?_)
          gi_wp2
          first | exact HYES.out rfl | exact HYES.out trivial
      have hq111110 : G 1 #[true, true, true, true, true, false] { tmps := #[.agg #[.string nm, .slice A n c], .pointer (some ⟨w.heap.size, 0, none⟩), .slice none 0 0, .int .i64 0, .slice A n c, .int .i64 0, .pointer (some ⟨w5.heap.size, 0, none⟩), .pointer (some ⟨w5.heap.size + 1, 0, none⟩), v, .func (.func 55) #[] #[.pointer (some ⟨w5.heap.size + 1, 0, none⟩)], .pointer (some ⟨wl.heap.size, 0, none⟩), .pointer (some ⟨wl.heap.size + 1, 0, none⟩), .int .i64 (y : Int), u 13, .tuple #[.slice A n c, .int .i64 0], .agg #[.string nm, .slice A n c], .tuple #[.slice A n c, .int .i64 0], .slice A n c, .int .i64 0, .int .i64 0, .bool false, undef, .slice A n c, .slice (some add) n cd, .slice A n c, .slice Ap n1 cp, .func (.func 55) #[] #[.pointer (some ⟨w5.heap.size + 1, 0, none⟩)], .slice A n c, .int .i64 (n : Int), .int .i64 (h : Int), .bool true, .int .i64 (h : Int), .func (.func 55) #[] #[.pointer (some ⟨w5.heap.size + 1, 0, none⟩)], .int .i64 (h : Int), .func (.func 100) #[] #[.pointer (some ⟨wl.heap.size + 2, 0, none⟩)], .int .i64 (y : Int), .slice (some add) n cd, .int .i64 (y : Int), .pointer (some (add.add y)), .slice Ay my cy, .int .i64 (h : Int), u 41, u 42, u 43, u 44, u 45, u 46, u 47, u 48, u 49, u 50, u 51, u 52, u 53, u 54, u 55, u 56, u 57, u 58, u 59, u 60, u 61, u 62], defers := [] } U1 := by
        refine (hG _ _ _ _).2 ?_
        refine wpAnyIn_ready (rs := [5]) (by kernel_rfl) (by simp) ?_
        refine AllReadyIn.cons rfl (fun K hK => ?_) (AllReadyIn.nil)
        · go_simp
          gi_wp2_with fail
          refine ⟨trivial, (CallsIn.inRound l (callsIn_wide.2 HCT.out)).mono ?_⟩
          rintro e W5 ⟨rfl, rfl⟩
          refine hK _ _ ?_
          clear hK K
          (try simp only [Act.put, List.setIfInBounds_toArray, List.set_cons_zero, List.set_cons_succ])
          exact (hG _ _ _ _).1 hq111111
      have hq111100 : G 2 #[true, true, true, true, false, false] { tmps := #[.agg #[.string nm, .slice A n c], .pointer (some ⟨w.heap.size, 0, none⟩), .slice none 0 0, .int .i64 0, .slice A n c, .int .i64 0, .pointer (some ⟨w5.heap.size, 0, none⟩), .pointer (some ⟨w5.heap.size + 1, 0, none⟩), v, .func (.func 55) #[] #[.pointer (some ⟨w5.heap.size + 1, 0, none⟩)], .pointer (some ⟨wl.heap.size, 0, none⟩), .pointer (some ⟨wl.heap.size + 1, 0, none⟩), .int .i64 (y : Int), u 13, .tuple #[.slice A n c, .int .i64 0], .agg #[.string nm, .slice A n c], .tuple #[.slice A n c, .int .i64 0], .slice A n c, .int .i64 0, .int .i64 0, .bool false, undef, .slice A n c, .slice (some add) n cd, .slice A n c, .slice Ap n1 cp, .func (.func 55) #[] #[.pointer (some ⟨w5.heap.size + 1, 0, none⟩)], .slice A n c, .int .i64 (n : Int), .int .i64 (h : Int), .bool true, .int .i64 (h : Int), .func (.func 55) #[] #[.pointer (some ⟨w5.heap.size + 1, 0, none⟩)], .int .i64 (h : Int), .func (.func 100) #[] #[.pointer (some ⟨wl.heap.size + 2, 0, none⟩)], .int .i64 (y : Int), .slice (some add) n cd, .int .i64 (y : Int), .pointer (some (add.add y)), .slice Ay my cy, u 40, u 41, u 42, u 43, u 44, u 45, u 46, u 47, u 48, u 49, u 50, u 51, u 52, u 53, u 54, u 55, u 56, u 57, u 58, u 59, u 60, u 61, u 62], defers := [] } U1 := by
        refine (hG _ _ _ _).2 ?_
        refine wpAnyIn_ready (rs := [4]) (by kernel_rfl) (by simp) ?_
        refine AllReadyIn.cons rfl (fun K hK => ?_) (AllReadyIn.nil)
        · go_simp
          refine hK _ _ ?_
          clear hK K
          (try simp only [Act.put, List.setIfInBounds_toArray, List.set_cons_zero, List.set_cons_succ])
          exact (hG _ _ _ _).1 hq111110
      have hq111010 : G 2 #[true, true, true, false, true, false] { tmps := #[.agg #[.string nm, .slice A n c], .pointer (some ⟨w.heap.size, 0, none⟩), .slice none 0 0, .int .i64 0, .slice A n c, .int .i64 0, .pointer (some ⟨w5.heap.size, 0, none⟩), .pointer (some ⟨w5.heap.size + 1, 0, none⟩), v, .func (.func 55) #[] #[.pointer (some ⟨w5.heap.size + 1, 0, none⟩)], .pointer (some ⟨wl.heap.size, 0, none⟩), .pointer (some ⟨wl.heap.size + 1, 0, none⟩), .int .i64 (y : Int), u 13, .tuple #[.slice A n c, .int .i64 0], .agg #[.string nm, .slice A n c], .tuple #[.slice A n c, .int .i64 0], .slice A n c, .int .i64 0, .int .i64 0, .bool false, undef, .slice A n c, .slice (some add) n cd, .slice A n c, .slice Ap n1 cp, .func (.func 55) #[] #[.pointer (some ⟨w5.heap.size + 1, 0, none⟩)], .slice A n c, .int .i64 (n : Int), .int .i64 (h : Int), .bool true, .int .i64 (h : Int), .func (.func 55) #[] #[.pointer (some ⟨w5.heap.size + 1, 0, none⟩)], .int .i64 (h : Int), .func (.func 100) #[] #[.pointer (some ⟨wl.heap.size + 2, 0, none⟩)], .int .i64 (y : Int), .slice (some add) n cd, .int .i64 (y : Int), .pointer (some (add.add y)), u 39, .int .i64 (h : Int), u 41, u 42, u 43, u 44, u 45, u 46, u 47, u 48, u 49, u 50, u 51, u 52, u 53, u 54, u 55, u 56, u 57, u 58, u 59, u 60, u 61, u 62], defers := [] } U1 := by
        refine (hG _ _ _ _).2 ?_
        refine wpAnyIn_ready (rs := [3]) (by kernel_rfl) (by simp) ?_
        refine AllReadyIn.cons rfl (fun K hK => ?_) (AllReadyIn.nil)
        · go_simp
          refine hK _ _ ?_
          clear hK K
          (try simp only [Act.put, List.setIfInBounds_toArray, List.set_cons_zero, List.set_cons_succ])
          exact (hG _ _ _ _).1 hq111110
      have hq111000 : G 3 #[true, true, true, false, false, false] { tmps := #[.agg #[.string nm, .slice A n c], .pointer (some ⟨w.heap.size, 0, none⟩), .slice none 0 0, .int .i64 0, .slice A n c, .int .i64 0, .pointer (some ⟨w5.heap.size, 0, none⟩), .pointer (some ⟨w5.heap.size + 1, 0, none⟩), v, .func (.func 55) #[] #[.pointer (some ⟨w5.heap.size + 1, 0, none⟩)], .pointer (some ⟨wl.heap.size, 0, none⟩), .pointer (some ⟨wl.heap.size + 1, 0, none⟩), .int .i64 (y : Int), u 13, .tuple #[.slice A n c, .int .i64 0], .agg #[.string nm, .slice A n c], .tuple #[.slice A n c, .int .i64 0], .slice A n c, .int .i64 0, .int .i64 0, .bool false, undef, .slice A n c, .slice (some add) n cd, .slice A n c, .slice Ap n1 cp, .func (.func 55) #[] #[.pointer (some ⟨w5.heap.size + 1, 0, none⟩)], .slice A n c, .int .i64 (n : Int), .int .i64 (h : Int), .bool true, .int .i64 (h : Int), .func (.func 55) #[] #[.pointer (some ⟨w5.heap.size + 1, 0, none⟩)], .int .i64 (h : Int), .func (.func 100) #[] #[.pointer (some ⟨wl.heap.size + 2, 0, none⟩)], .int .i64 (y : Int), .slice (some add) n cd, .int .i64 (y : Int), .pointer (some (add.add y)), u 39, u 40, u 41, u 42, u 43, u 44, u 45, u 46, u 47, u 48, u 49, u 50, u 51, u 52, u 53, u 54, u 55, u 56, u 57, u 58, u 59, u 60, u 61, u 62], defers := [] } U1 := by
        refine (hG _ _ _ _).2 ?_
        refine wpAnyIn_ready (rs := [3, 4]) (by kernel_rfl) (by simp) ?_
        refine AllReadyIn.cons rfl (fun K hK => ?_) (AllReadyIn.cons rfl (fun K hK => ?_) (AllReadyIn.nil))
        · go_simp
          refine hK _ _ ?_
          clear hK K
          (try simp only [Act.put, List.setIfInBounds_toArray, List.set_cons_zero, List.set_cons_succ])
          exact (hG _ _ _ _).1 hq111100
        · go_simp
          refine hK _ _ ?_
          clear hK K
          (try simp only [Act.put, List.setIfInBounds_toArray, List.set_cons_zero, List.set_cons_succ])
          exact (hG _ _ _ _).1 hq111010
      have hq110010 : G 3 #[true, true, false, false, true, false] { tmps := #[.agg #[.string nm, .slice A n c], .pointer (some ⟨w.heap.size, 0, none⟩), .slice none 0 0, .int .i64 0, .slice A n c, .int .i64 0, .pointer (some ⟨w5.heap.size, 0, none⟩), .pointer (some ⟨w5.heap.size + 1, 0, none⟩), v, .func (.func 55) #[] #[.pointer (some ⟨w5.heap.size + 1, 0, none⟩)], .pointer (some ⟨wl.heap.size, 0, none⟩), .pointer (some ⟨wl.heap.size + 1, 0, none⟩), .int .i64 (y : Int), u 13, .tuple #[.slice A n c, .int .i64 0], .agg #[.string nm, .slice A n c], .tuple #[.slice A n c, .int .i64 0], .slice A n c, .int .i64 0, .int .i64 0, .bool false, undef, .slice A n c, .slice (some add) n cd, .slice A n c, .slice Ap n1 cp, .func (.func 55) #[] #[.pointer (some ⟨w5.heap.size + 1, 0, none⟩)], .slice A n c, .int .i64 (n : Int), .int .i64 (h : Int), .bool true, .int .i64 (h : Int), .func (.func 55) #[] #[.pointer (some ⟨w5.heap.size + 1, 0, none⟩)], .int .i64 (h : Int), .func (.func 100) #[] #[.pointer (some ⟨wl.heap.size + 2, 0, none⟩)], .int .i64 (y : Int), .slice (some add) n cd, .int .i64 (y : Int), u 38, u 39, .int .i64 (h : Int), u 41, u 42, u 43, u 44, u 45, u 46, u 47, u 48, u 49, u 50, u 51, u 52, u 53, u 54, u 55, u 56, u 57, u 58, u 59, u 60, u 61, u 62], defers := [] } U1 := by
        refine (hG _ _ _ _).2 ?_
        refine wpAnyIn_ready (rs := [2]) (by kernel_rfl) (by simp) ?_
        refine AllReadyIn.cons rfl (fun K hK => ?_) (AllReadyIn.nil)
        · go_simp
          refine hK _ _ ?_
          clear hK K
          (try simp only [Act.put, List.setIfInBounds_toArray, List.set_cons_zero, List.set_cons_succ])
          exact (hG _ _ _ _).1 hq111010
      have hq110000 : G 4 #[true, true, false, false, false, false] { tmps := #[.agg #[.string nm, .slice A n c], .pointer (some ⟨w.heap.size, 0, none⟩), .slice none 0 0, .int .i64 0, .slice A n c, .int .i64 0, .pointer (some ⟨w5.heap.size, 0, none⟩), .pointer (some ⟨w5.heap.size + 1, 0, none⟩), v, .func (.func 55) #[] #[.pointer (some ⟨w5.heap.size + 1, 0, none⟩)], .pointer (some ⟨wl.heap.size, 0, none⟩), .pointer (some ⟨wl.heap.size + 1, 0, none⟩), .int .i64 (y : Int), u 13, .tuple #[.slice A n c, .int .i64 0], .agg #[.string nm, .slice A n c], .tuple #[.slice A n c, .int .i64 0], .slice A n c, .int .i64 0, .int .i64 0, .bool false, undef, .slice A n c, .slice (some add) n cd, .slice A n c, .slice Ap n1 cp, .func (.func 55) #[] #[.pointer (some ⟨w5.heap.size + 1, 0, none⟩)], .slice A n c, .int .i64 (n : Int), .int .i64 (h : Int), .bool true, .int .i64 (h : Int), .func (.func 55) #[] #[.pointer (some ⟨w5.heap.size + 1, 0, none⟩)], .int .i64 (h : Int), .func (.func 100) #[] #[.pointer (some ⟨wl.heap.size + 2, 0, none⟩)], .int .i64 (y : Int), .slice (some add) n cd, .int .i64 (y : Int), u 38, u 39, u 40, u 41, u 42, u 43, u 44, u 45, u 46, u 47, u 48, u 49, u 50, u 51, u 52, u 53, u 54, u 55, u 56, u 57, u 58, u 59, u 60, u 61, u 62], defers := [] } U1 := by
        refine (hG _ _ _ _).2 ?_
        refine wpAnyIn_ready (rs := [2, 4]) (by kernel_rfl) (by simp) ?_
        refine AllReadyIn.cons rfl (fun K hK => ?_) (AllReadyIn.cons rfl (fun K hK => ?_) (AllReadyIn.nil))
        · go_simp
          refine hK _ _ ?_
          clear hK K
          (try simp only [Act.put, List.setIfInBounds_toArray, List.set_cons_zero, List.set_cons_succ])
          exact (hG _ _ _ _).1 hq111000
        · go_simp
          refine hK _ _ ?_
          clear hK K
          (try simp only [Act.put, List.setIfInBounds_toArray, List.set_cons_zero, List.set_cons_succ])
          exact (hG _ _ _ _).1 hq110010
      have hq100010 : G 4 #[true, false, false, false, true, false] { tmps := #[.agg #[.string nm, .slice A n c], .pointer (some ⟨w.heap.size, 0, none⟩), .slice none 0 0, .int .i64 0, .slice A n c, .int .i64 0, .pointer (some ⟨w5.heap.size, 0, none⟩), .pointer (some ⟨w5.heap.size + 1, 0, none⟩), v, .func (.func 55) #[] #[.pointer (some ⟨w5.heap.size + 1, 0, none⟩)], .pointer (some ⟨wl.heap.size, 0, none⟩), .pointer (some ⟨wl.heap.size + 1, 0, none⟩), .int .i64 (y : Int), u 13, .tuple #[.slice A n c, .int .i64 0], .agg #[.string nm, .slice A n c], .tuple #[.slice A n c, .int .i64 0], .slice A n c, .int .i64 0, .int .i64 0, .bool false, undef, .slice A n c, .slice (some add) n cd, .slice A n c, .slice Ap n1 cp, .func (.func 55) #[] #[.pointer (some ⟨w5.heap.size + 1, 0, none⟩)], .slice A n c, .int .i64 (n : Int), .int .i64 (h : Int), .bool true, .int .i64 (h : Int), .func (.func 55) #[] #[.pointer (some ⟨w5.heap.size + 1, 0, none⟩)], .int .i64 (h : Int), .func (.func 100) #[] #[.pointer (some ⟨wl.heap.size + 2, 0, none⟩)], .int .i64 (y : Int), .slice (some add) n cd, u 37, u 38, u 39, .int .i64 (h : Int), u 41, u 42, u 43, u 44, u 45, u 46, u 47, u 48, u 49, u 50, u 51, u 52, u 53, u 54, u 55, u 56, u 57, u 58, u 59, u 60, u 61, u 62], defers := [] } U1 := by
        refine (hG _ _ _ _).2 ?_
        refine wpAnyIn_ready (rs := [1]) (by kernel_rfl) (by simp) ?_
        refine AllReadyIn.cons rfl (fun K hK => ?_) (AllReadyIn.nil)
        · go_simp
          refine hK _ _ ?_
          clear hK K
          (try simp only [Act.put, List.setIfInBounds_toArray, List.set_cons_zero, List.set_cons_succ])
          exact (hG _ _ _ _).1 hq110010
      have hq010010 : G 4 #[false, true, false, false, true, false] { tmps := #[.agg #[.string nm, .slice A n c], .pointer (some ⟨w.heap.size, 0, none⟩), .slice none 0 0, .int .i64 0, .slice A n c, .int .i64 0, .pointer (some ⟨w5.heap.size, 0, none⟩), .pointer (some ⟨w5.heap.size + 1, 0, none⟩), v, .func (.func 55) #[] #[.pointer (some ⟨w5.heap.size + 1, 0, none⟩)], .pointer (some ⟨wl.heap.size, 0, none⟩), .pointer (some ⟨wl.heap.size + 1, 0, none⟩), .int .i64 (y : Int), u 13, .tuple #[.slice A n c, .int .i64 0], .agg #[.string nm, .slice A n c], .tuple #[.slice A n c, .int .i64 0], .slice A n c, .int .i64 0, .int .i64 0, .bool false, undef, .slice A n c, .slice (some add) n cd, .slice A n c, .slice Ap n1 cp, .func (.func 55) #[] #[.pointer (some ⟨w5.heap.size + 1, 0, none⟩)], .slice A n c, .int .i64 (n : Int), .int .i64 (h : Int), .bool true, .int .i64 (h : Int), .func (.func 55) #[] #[.pointer (some ⟨w5.heap.size + 1, 0, none⟩)], .int .i64 (h : Int), .func (.func 100) #[] #[.pointer (some ⟨wl.heap.size + 2, 0, none⟩)], .int .i64 (y : Int), u 36, .int .i64 (y : Int), u 38, u 39, .int .i64 (h : Int), u 41, u 42, u 43, u 44, u 45, u 46, u 47, u 48, u 49, u 50, u 51, u 52, u 53, u 54, u 55, u 56, u 57, u 58, u 59, u 60, u 61, u 62], defers := [] } U1 := by
        refine (hG _ _ _ _).2 ?_
        refine wpAnyIn_ready (rs := [0]) (by kernel_rfl) (by simp) ?_
        refine AllReadyIn.cons rfl (fun K hK => ?_) (AllReadyIn.nil)
        · go_simp
          refine hK _ _ ?_
          clear hK K
          (try simp only [Act.put, List.setIfInBounds_toArray, List.set_cons_zero, List.set_cons_succ])
          exact (hG _ _ _ _).1 hq110010
      have hq100000 : G 5 #[true, false, false, false, false, false] { tmps := #[.agg #[.string nm, .slice A n c], .pointer (some ⟨w.heap.size, 0, none⟩), .slice none 0 0, .int .i64 0, .slice A n c, .int .i64 0, .pointer (some ⟨w5.heap.size, 0, none⟩), .pointer (some ⟨w5.heap.size + 1, 0, none⟩), v, .func (.func 55) #[] #[.pointer (some ⟨w5.heap.size + 1, 0, none⟩)], .pointer (some ⟨wl.heap.size, 0, none⟩), .pointer (some ⟨wl.heap.size + 1, 0, none⟩), .int .i64 (y : Int), u 13, .tuple #[.slice A n c, .int .i64 0], .agg #[.string nm, .slice A n c], .tuple #[.slice A n c, .int .i64 0], .slice A n c, .int .i64 0, .int .i64 0, .bool false, undef, .slice A n c, .slice (some add) n cd, .slice A n c, .slice Ap n1 cp, .func (.func 55) #[] #[.pointer (some ⟨w5.heap.size + 1, 0, none⟩)], .slice A n c, .int .i64 (n : Int), .int .i64 (h : Int), .bool true, .int .i64 (h : Int), .func (.func 55) #[] #[.pointer (some ⟨w5.heap.size + 1, 0, none⟩)], .int .i64 (h : Int), .func (.func 100) #[] #[.pointer (some ⟨wl.heap.size + 2, 0, none⟩)], .int .i64 (y : Int), .slice (some add) n cd, u 37, u 38, u 39, u 40, u 41, u 42, u 43, u 44, u 45, u 46, u 47, u 48, u 49, u 50, u 51, u 52, u 53, u 54, u 55, u 56, u 57, u 58, u 59, u 60, u 61, u 62], defers := [] } U1 := by
        refine (hG _ _ _ _).2 ?_
        refine wpAnyIn_ready (rs := [1, 4]) (by kernel_rfl) (by simp) ?_
        refine AllReadyIn.cons rfl (fun K hK => ?_) (AllReadyIn.cons rfl (fun K hK => ?_) (AllReadyIn.nil))
        · go_simp
          refine hK _ _ ?_
          clear hK K
          (try simp only [Act.put, List.setIfInBounds_toArray, List.set_cons_zero, List.set_cons_succ])
          exact (hG _ _ _ _).1 hq110000
        · go_simp
          refine hK _ _ ?_
          clear hK K
          (try simp only [Act.put, List.setIfInBounds_toArray, List.set_cons_zero, List.set_cons_succ])
          exact (hG _ _ _ _).1 hq100010
      have hq010000 : G 5 #[false, true, false, false, false, false] { tmps := #[.agg #[.string nm, .slice A n c], .pointer (some ⟨w.heap.size, 0, none⟩), .slice none 0 0, .int .i64 0, .slice A n c, .int .i64 0, .pointer (some ⟨w5.heap.size, 0, none⟩), .pointer (some ⟨w5.heap.size + 1, 0, none⟩), v, .func (.func 55) #[] #[.pointer (some ⟨w5.heap.size + 1, 0, none⟩)], .pointer (some ⟨wl.heap.size, 0, none⟩), .pointer (some ⟨wl.heap.size + 1, 0, none⟩), .int .i64 (y : Int), u 13, .tuple #[.slice A n c, .int .i64 0], .agg #[.string nm, .slice A n c], .tuple #[.slice A n c, .int .i64 0], .slice A n c, .int .i64 0, .int .i64 0, .bool false, undef, .slice A n c, .slice (some add) n cd, .slice A n c, .slice Ap n1 cp, .func (.func 55) #[] #[.pointer (some ⟨w5.heap.size + 1, 0, none⟩)], .slice A n c, .int .i64 (n : Int), .int .i64 (h : Int), .bool true, .int .i64 (h : Int), .func (.func 55) #[] #[.pointer (some ⟨w5.heap.size + 1, 0, none⟩)], .int .i64 (h : Int), .func (.func 100) #[] #[.pointer (some ⟨wl.heap.size + 2, 0, none⟩)], .int .i64 (y : Int), u 36, .int .i64 (y : Int), u 38, u 39, u 40, u 41, u 42, u 43, u 44, u 45, u 46, u 47, u 48, u 49, u 50, u 51, u 52, u 53, u 54, u 55, u 56, u 57, u 58, u 59, u 60, u 61, u 62], defers := [] } U1 := by
        refine (hG _ _ _ _).2 ?_
        refine wpAnyIn_ready (rs := [0, 4]) (by kernel_rfl) (by simp) ?_
        refine AllReadyIn.cons rfl (fun K hK => ?_) (AllReadyIn.cons rfl (fun K hK => ?_) (AllReadyIn.nil))
        · go_simp
          refine hK _ _ ?_
          clear hK K
          (try simp only [Act.put, List.setIfInBounds_toArray, List.set_cons_zero, List.set_cons_succ])
          exact (hG _ _ _ _).1 hq110000
        · go_simp
          refine hK _ _ ?_
          clear hK K
          (try simp only [Act.put, List.setIfInBounds_toArray, List.set_cons_zero, List.set_cons_succ])
          exact (hG _ _ _ _).1 hq010010
      have hq000010 : G 5 #[false, false, false, false, true, false] { tmps := #[.agg #[.string nm, .slice A n c], .pointer (some ⟨w.heap.size, 0, none⟩), .slice none 0 0, .int .i64 0, .slice A n c, .int .i64 0, .pointer (some ⟨w5.heap.size, 0, none⟩), .pointer (some ⟨w5.heap.size + 1, 0, none⟩), v, .func (.func 55) #[] #[.pointer (some ⟨w5.heap.size + 1, 0, none⟩)], .pointer (some ⟨wl.heap.size, 0, none⟩), .pointer (some ⟨wl.heap.size + 1, 0, none⟩), .int .i64 (y : Int), u 13, .tuple #[.slice A n c, .int .i64 0], .agg #[.string nm, .slice A n c], .tuple #[.slice A n c, .int .i64 0], .slice A n c, .int .i64 0, .int .i64 0, .bool false, undef, .slice A n c, .slice (some add) n cd, .slice A n c, .slice Ap n1 cp, .func (.func 55) #[] #[.pointer (some ⟨w5.heap.size + 1, 0, none⟩)], .slice A n c, .int .i64 (n : Int), .int .i64 (h : Int), .bool true, .int .i64 (h : Int), .func (.func 55) #[] #[.pointer (some ⟨w5.heap.size + 1, 0, none⟩)], .int .i64 (h : Int), .func (.func 100) #[] #[.pointer (some ⟨wl.heap.size + 2, 0, none⟩)], .int .i64 (y : Int), u 36, u 37, u 38, u 39, .int .i64 (h : Int), u 41, u 42, u 43, u 44, u 45, u 46, u 47, u 48, u 49, u 50, u 51, u 52, u 53, u 54, u 55, u 56, u 57, u 58, u 59, u 60, u 61, u 62], defers := [] } U1 := by
        refine (hG _ _ _ _).2 ?_
        refine wpAnyIn_ready (rs := [0, 1]) (by kernel_rfl) (by simp) ?_
        refine AllReadyIn.cons rfl (fun K hK => ?_) (AllReadyIn.cons rfl (fun K hK => ?_) (AllReadyIn.nil))
        · go_simp
          refine hK _ _ ?_
          clear hK K
          (try simp only [Act.put, List.setIfInBounds_toArray, List.set_cons_zero, List.set_cons_succ])
          exact (hG _ _ _ _).1 hq100010
        · go_simp
          refine hK _ _ ?_
          clear hK K
          (try simp only [Act.put, List.setIfInBounds_toArray, List.set_cons_zero, List.set_cons_succ])
          exact (hG _ _ _ _).1 hq010010
      have hq000000 : G 6 #[false, false, false, false, false, false] { tmps := #[.agg #[.string nm, .slice A n c], .pointer (some ⟨w.heap.size, 0, none⟩), .slice none 0 0, .int .i64 0, .slice A n c, .int .i64 0, .pointer (some ⟨w5.heap.size, 0, none⟩), .pointer (some ⟨w5.heap.size + 1, 0, none⟩), v, .func (.func 55) #[] #[.pointer (some ⟨w5.heap.size + 1, 0, none⟩)], .pointer (some ⟨wl.heap.size, 0, none⟩), .pointer (some ⟨wl.heap.size + 1, 0, none⟩), .int .i64 (y : Int), u 13, .tuple #[.slice A n c, .int .i64 0], .agg #[.string nm, .slice A n c], .tuple #[.slice A n c, .int .i64 0], .slice A n c, .int .i64 0, .int .i64 0, .bool false, undef, .slice A n c, .slice (some add) n cd, .slice A n c, .slice Ap n1 cp, .func (.func 55) #[] #[.pointer (some ⟨w5.heap.size + 1, 0, none⟩)], .slice A n c, .int .i64 (n : Int), .int .i64 (h : Int), .bool true, .int .i64 (h : Int), .func (.func 55) #[] #[.pointer (some ⟨w5.heap.size + 1, 0, none⟩)], .int .i64 (h : Int), .func (.func 100) #[] #[.pointer (some ⟨wl.heap.size + 2, 0, none⟩)], .int .i64 (y : Int), u 36, u 37, u 38, u 39, u 40, u 41, u 42, u 43, u 44, u 45, u 46, u 47, u 48, u 49, u 50, u 51, u 52, u 53, u 54, u 55, u 56, u 57, u 58, u 59, u 60, u 61, u 62], defers := [] } U1 := by
        refine (hG _ _ _ _).2 ?_
        refine wpAnyIn_ready (rs := [0, 1, 4]) (by kernel_rfl) (by simp) ?_
        refine AllReadyIn.cons rfl (fun K hK => ?_) (AllReadyIn.cons rfl (fun K hK => ?_) (AllReadyIn.cons rfl (fun K hK => ?_) (AllReadyIn.nil)))
        · go_simp
          refine hK _ _ ?_
          clear hK K
          (try simp only [Act.put, List.setIfInBounds_toArray, List.set_cons_zero, List.set_cons_succ])
          exact (hG _ _ _ _).1 hq100000
        · go_simp
          refine hK _ _ ?_
          clear hK K
          (try simp only [Act.put, List.setIfInBounds_toArray, List.set_cons_zero, List.set_cons_succ])
          exact (hG _ _ _ _).1 hq010000
        · go_simp
          refine hK _ _ ?_
          clear hK K
          (try simp only [Act.put, List.setIfInBounds_toArray, List.set_cons_zero, List.set_cons_succ])
          exact (hG _ _ _ _).1 hq000010
      exact hq000000
    case done =>
      rintro R X hR hi hK2
      obtain ⟨⟨vb, hvb, hob⟩, h3, h4, h5⟩ := hi
      rw [← HBL.out h] at hob
      have hbX : Below V.heap.size V X := belowThen HS.out.bel h4
      have HBX := Lib.hid hbX
      have HSX := Lib.hid (HS.out.below h4)
      have hzw := HS.out.bel.size
      have hRw : wl.heap.size ≤ R := by have := HZY.out; omega
      have HOD : Hid (OpenR (R :: Ds) X ∧ (R :: Ds).Nodup ∧ ∀ D ∈ R :: Ds, V.heap.size ≤ D) := Lib.hid (by
        refine ⟨fun D hD => ?_, List.nodup_cons.2 ⟨fun h => ?_, HO.out.2.1⟩, fun D hD => ?_⟩
        · rcases List.mem_cons.1 hD with rfl | hD
          · exact hK2
          · exact (HO.out.1.chg (Chg.ofBelow h4 fun _ => True) fun _ _ => trivial) D hD
        · have := HO.out.1.lt h; omega
        · rcases List.mem_cons.1 hD with rfl | hD
          · omega
          · exact HO.out.2.2 D hD)
      have kv := hvb.cell
      obtain ⟨Ab, cb, rfl, hrb, _⟩ := hob.rd
      obtain ⟨mb, hmb⟩ : ∃ mb, ((bgL C h).map Int.ofNat).length = mb := ⟨_, rfl⟩
      rw [hmb] at kv
      have hmb2 : (bgL C h).length = mb := by rw [← hmb, List.length_map]
      have HBP := Lib.hid (bkB_none HBK.out hlt)
      by_cases hbe : mb = 0
      · subst hbe
        have hnil : bgL C h = [] := List.eq_nil_of_length_eq_zero hmb2
        have hbk := HBP.out.1 hnil
        have hps := lpPS (n := n) (g := sc C) (k := h)
        rw [if_neg (by rw [hbk]; simp), List.append_nil] at hps
        have HS2 : Hid (LoSt V n (sc C) (h + 1) v X) := Lib.hid ⟨by rw [hps]; exact HSX.out.ex, HSX.out.bel⟩
        clear hvb hob h3 h4 h5 hbX hRw hmb hmb2 hnil hbk hps hrb
        gi_wp2
        refine ⟨?_, ?_⟩
        · rw [HINV.out]
          exact ⟨fun i => (#[undef, undef, undef, undef, undef, undef, undef, undef, undef, undef, .pointer (some ⟨wl.heap.size, 0, none⟩), .pointer (some ⟨wl.heap.size + 1, 0, none⟩), u 12, u 13, undef, undef, undef, undef, undef, undef, undef, undef, undef, undef, undef, undef, undef, undef, undef, undef, .bool true, .int .i64 (h : Int), .func (.func 55) #[] #[.pointer (some ⟨w5.heap.size + 1, 0, none⟩)], .int .i64 (h : Int), .func (.func 100) #[] #[.pointer (some ⟨wl.heap.size + 2, 0, none⟩)], u 35, u 36, u 37, u 38, u 39, u 40, u 41, u 42, u 43, u 44, u 45, .slice Ab 0 cb, .int .i64 0, .bool true, u 49, u 50, u 51, u 52, u 53, u 54, u 55, u 56, u 57, u 58, u 59, u 60, .int .i64 ((h + 1 : Nat) : Int), u 62] : Array Value).getD i undef, R :: Ds, h + 1, v, rfl, HS2, HOD, hlt⟩
        · rw [HMU.out]
          show n - (intOf (.int .i64 ((h : Int) + 1))).toNat < n - (intOf (.int .i64 (h : Int))).toNat
          simp only [intOf]
          omega
      · have hbk : bkB n (sc C) h = true := by
          cases e : bkB n (sc C) h
          · have := HBP.out.2 e
            rw [this] at hmb2
            exact absurd hmb2.symm hbe
          · rfl
        have HSE := Lib.hid (HBO.out h hlt Ad Ap cd cp w5.heap.size (w5.heap.size + 1) wl.heap.size mb hmb2 Ab cb X (HRD.out X hbX) (HRP.out X hbX) (Boxed.cell (HC6.out X hbX)) (Boxed.cell (HC7.out X hbX)) h3.cell hrb)
        have HHX := Lib.hid h3
        have d0 : ((mb : Int) == 0) = false := by simp; omega
        have HBK1 := Lib.hid hbk
        clear hvb hob h3 h4 h5 hbX hRw hmb hmb2 hrb hbk
        gi_wp2_with fail
        refine ⟨trivial, (callsIn_wide.2 HSE.out).mono ?_⟩
        rintro e Z ⟨gm, D, rfl, hms, hnd, hD, hgl, hbZ⟩
        obtain ⟨Z1, hZ1⟩ : ∃ Z1, Z.drew = Z1 := ⟨_, rfl⟩
        have hbZ1 : Below X.heap.size X Z1 := by rw [← hZ1]; exact hbZ.drew
        have hms1 : MapSc Z1 gm D := by rw [← hZ1]; exact hms
        have t10 : Z1.cell? ⟨wl.heap.size, 0, none⟩ = some (.int .i64 (h : Int)) := Boxed.cell ((hbZ1.block _ HHX.out.lt).trans HHX.out)
        have HT10 := Lib.hid (fun X9 (hX : Below Z1.heap.size Z1 X9) => ((hX.cell (p := ⟨wl.heap.size, 0, none⟩) (World.block_lt_of_cell? Z1 _ t10)).trans t10 : X9.cell? ⟨wl.heap.size, 0, none⟩ = some (.int .i64 (h : Int))))
        have hDl : D.length ≤ n := nodupLe9 hnd fun x hx => bdLt ((hD x).1 hx)
        obtain ⟨q7, hq7⟩ : ∃ q7, (mk (D.map Int.ofNat)).length = q7 := ⟨_, rfl⟩
        have hq7l : q7 ≤ 1000 := by rw [← hq7]; have := lenMk (D.map Int.ofNat); rw [List.length_map] at this; omega
        obtain ⟨q8, hq8⟩ : ∃ q8, (lpL n (sc C) h).length = q8 := ⟨_, rfl⟩
        have hcl : ∀ X9, Below Z1.heap.size Z1 X9 → Calls Tryz.prog 34 #[.map (some gm)] X9 fun e w' => ∃ A c, e = .returned (.slice A q7 c) ∧ Rd w' A c (mk (D.map Int.ofNat)) ∧ Below X9.heap.size X9 w' := fun X9 hX9 => by
          have := iSorted gm D hnd (by omega) X9 (hms1.chg (Chg.ofBelow hX9 fun _ => True) trivial)
          unfold GivesL at this
          rw [hq7] at this
          exact this
        have HS0 := Lib.hid (hcl Z1 (Below.refl _ _))
        have HS1 := Lib.hid (hcl _ (belowAlloc Z1 (.cells #[.int .i64 (h : Int)] 3)))
        have L5 := Lib.hid (fun A7 c7 X9 (hr : Rd X9 A7 c7 (mk (D.map Int.ofNat))) (hb : Below Z1.heap.size Z1 X9) => (⟨hb, hr⟩ : LoP5 Z1 D A7 c7 X9))
        have L6a := Lib.hid (fun A7 c7 X9 (hr : Rd X9 A7 c7 (mk (D.map Int.ofNat))) hb => (loP6a hb hr : LoP6 Z1 D h Z1.heap.size A7 c7 X9))
        have L6b := Lib.hid (fun A7 c7 X9 (hp : LoP5 Z1 D A7 c7 X9) => (loP6b hp : LoP6 Z1 D h X9.heap.size A7 c7 (X9.alloc (.cells #[.int .i64 (h : Int)] 3))))
        have hlp := lpLOf hD
        have L7 := Lib.hid (fun lb A7 c7 X9 (hp : LoP6 Z1 D h lb A7 c7 X9) => loP7 hp hq7 hlp hq8 hq7l 33)
        have L8 := Lib.hid (fun A8 c8 X9 (hp : LoP7 Z1 n (sc C) h A8 q8 c8 X9) => loP8 hp)
        have hsZ : LoSt V n (sc C) h v Z1 := HSX.out.below hbZ1
        have hoZ : OpenR (R :: Ds) Z1 := HOD.out.1.chg (Chg.ofBelow hbZ1 fun _ => True) fun _ _ => trivial
        have L9 := Lib.hid (fun lc A8 c8 X9 (hp : LoP8 Z1 n (sc C) h lc A8 q8 c8 X9) => loP9 hsZ hoZ (by omega) HBK1.out hp 57)
        clear hms hnd hD hgl hbZ hbZ1 hms1 hDl hq7 hq7l hq8 hcl hlp hsZ hoZ kv
        gi_wp2_with fail
        refine wpIn_region_any (by kernel_rfl) ?_
        change wpAnyIn _ _ _ _ _ _ _ _ _ (World.drew _)
        rw [hZ1]
        clear hZ1
        refine mergeAny fun G hG => ?_
        have hr111111111 : ∀ (v9 : Value) (X9 : World) (A8 : Option Addr) (c8 lb lc : Nat) (A7 : Option Addr) (c7 : Nat) (_ : LoSt V n (sc C) (h + 1) v9 X9 ∧ OpenR (R :: Ds) X9), G 0 #[true, true, true, true, true, true, true, true, true] { tmps := #[.agg #[.string nm, .slice A n c], .pointer (some ⟨w.heap.size, 0, none⟩), .slice none 0 0, .int .i64 0, .slice A n c, .int .i64 0, .pointer (some ⟨w5.heap.size, 0, none⟩), .pointer (some ⟨w5.heap.size + 1, 0, none⟩), v9, .func (.func 55) #[] #[.pointer (some ⟨w5.heap.size + 1, 0, none⟩)], .pointer (some ⟨wl.heap.size, 0, none⟩), .pointer (some ⟨wl.heap.size + 1, 0, none⟩), u 12, .map (some gm), .tuple #[.slice A n c, .int .i64 0], .agg #[.string nm, .slice A n c], .tuple #[.slice A n c, .int .i64 0], .slice A n c, .int .i64 0, .int .i64 0, .bool false, undef, .slice A n c, .slice Ad n cd, .slice A n c, .slice Ap n1 cp, .func (.func 55) #[] #[.pointer (some ⟨w5.heap.size + 1, 0, none⟩)], .slice A n c, .int .i64 (n : Int), .int .i64 (h : Int), .bool true, .int .i64 (h : Int), .func (.func 55) #[] #[.pointer (some ⟨w5.heap.size + 1, 0, none⟩)], .int .i64 (h : Int), .func (.func 100) #[] #[.pointer (some ⟨wl.heap.size + 2, 0, none⟩)], u 35, u 36, u 37, u 38, u 39, u 40, u 41, u 42, u 43, u 44, u 45, .slice Ab mb cb, .int .i64 (mb : Int), .bool false, .slice Ab mb cb, .func (.func 55) #[] #[.pointer (some ⟨w5.heap.size + 1, 0, none⟩)], .func (.func 58) #[] #[.pointer (some ⟨wl.heap.size, 0, none⟩), .pointer (some ⟨w5.heap.size, 0, none⟩)], .map (some gm), v, .int .i64 (h : Int), .slice (some ⟨lb, 0, none⟩) 1 1, .map (some gm), .slice A7 q7 c7, .slice A8 q8 c8, .slice (some ⟨lc, 0, none⟩) 1 1, v9, u 61, u 62], defers := markR R :: Ds.map markR } X9 := by
          intro v9 X9 A8 c8 lb lc A7 c7 HP
          have HP := Lib.hid HP
          refine (hG _ _ _ _).2 ?_
          refine wpAnyIn_done (by kernel_rfl) ?_ _
          gi_wp2
          refine ⟨?_, ?_⟩
          · rw [HINV.out]
            exact ⟨fun i => (#[undef, undef, undef, undef, undef, undef, undef, undef, undef, undef, .pointer (some ⟨wl.heap.size, 0, none⟩), .pointer (some ⟨wl.heap.size + 1, 0, none⟩), u 12, .map (some gm), undef, undef, undef, undef, undef, undef, undef, undef, undef, undef, undef, undef, undef, undef, undef, undef, .bool true, .int .i64 (h : Int), .func (.func 55) #[] #[.pointer (some ⟨w5.heap.size + 1, 0, none⟩)], .int .i64 (h : Int), .func (.func 100) #[] #[.pointer (some ⟨wl.heap.size + 2, 0, none⟩)], u 35, u 36, u 37, u 38, u 39, u 40, u 41, u 42, u 43, u 44, u 45, .slice Ab mb cb, .int .i64 (mb : Int), .bool false, .slice Ab mb cb, .func (.func 55) #[] #[.pointer (some ⟨w5.heap.size + 1, 0, none⟩)], .func (.func 58) #[] #[.pointer (some ⟨wl.heap.size, 0, none⟩), .pointer (some ⟨w5.heap.size, 0, none⟩)], .map (some gm), v, .int .i64 (h : Int), .slice (some ⟨lb, 0, none⟩) 1 1, .map (some gm), .slice A7 q7 c7, .slice A8 q8 c8, .slice (some ⟨lc, 0, none⟩) 1 1, v9, .int .i64 ((h + 1 : Nat) : Int), u 62] : Array Value).getD i undef, R :: Ds, h + 1, v9, rfl, Lib.hid HP.out.1, Lib.hid ⟨HP.out.2, HOD.out.2⟩, hlt⟩
          · rw [HMU.out]
            show n - (intOf (.int .i64 ((h : Int) + 1))).toNat < n - (intOf (.int .i64 (h : Int))).toNat
            simp only [intOf]
            omega
        have hr111111110 : ∀ (v9 : Value) (X9 : World) (A8 : Option Addr) (c8 lb lc : Nat) (A7 : Option Addr) (c7 : Nat) (_ : LoSt V n (sc C) (h + 1) v9 X9 ∧ OpenR (R :: Ds) X9), G 1 #[true, true, true, true, true, true, true, true, false] { tmps := #[.agg #[.string nm, .slice A n c], .pointer (some ⟨w.heap.size, 0, none⟩), .slice none 0 0, .int .i64 0, .slice A n c, .int .i64 0, .pointer (some ⟨w5.heap.size, 0, none⟩), .pointer (some ⟨w5.heap.size + 1, 0, none⟩), v, .func (.func 55) #[] #[.pointer (some ⟨w5.heap.size + 1, 0, none⟩)], .pointer (some ⟨wl.heap.size, 0, none⟩), .pointer (some ⟨wl.heap.size + 1, 0, none⟩), u 12, .map (some gm), .tuple #[.slice A n c, .int .i64 0], .agg #[.string nm, .slice A n c], .tuple #[.slice A n c, .int .i64 0], .slice A n c, .int .i64 0, .int .i64 0, .bool false, undef, .slice A n c, .slice Ad n cd, .slice A n c, .slice Ap n1 cp, .func (.func 55) #[] #[.pointer (some ⟨w5.heap.size + 1, 0, none⟩)], .slice A n c, .int .i64 (n : Int), .int .i64 (h : Int), .bool true, .int .i64 (h : Int), .func (.func 55) #[] #[.pointer (some ⟨w5.heap.size + 1, 0, none⟩)], .int .i64 (h : Int), .func (.func 100) #[] #[.pointer (some ⟨wl.heap.size + 2, 0, none⟩)], u 35, u 36, u 37, u 38, u 39, u 40, u 41, u 42, u 43, u 44, u 45, .slice Ab mb cb, .int .i64 (mb : Int), .bool false, .slice Ab mb cb, .func (.func 55) #[] #[.pointer (some ⟨w5.heap.size + 1, 0, none⟩)], .func (.func 58) #[] #[.pointer (some ⟨wl.heap.size, 0, none⟩), .pointer (some ⟨w5.heap.size, 0, none⟩)], .map (some gm), v, .int .i64 (h : Int), .slice (some ⟨lb, 0, none⟩) 1 1, .map (some gm), .slice A7 q7 c7, .slice A8 q8 c8, .slice (some ⟨lc, 0, none⟩) 1 1, v9, u 61, u 62], defers := markR R :: Ds.map markR } X9 := by
          intro v9 X9 A8 c8 lb lc A7 c7 HP
          have HP := Lib.hid HP
          refine (hG _ _ _ _).2 ?_
          refine wpAnyIn_ready (rs := [8]) (by kernel_rfl) (by simp) ?_
          refine AllReadyIn.cons rfl (fun K hK => ?_) (AllReadyIn.nil)
          · go_simp
            refine hK _ _ ?_
            clear hK K
            (try simp only [Act.put, List.setIfInBounds_toArray, List.set_cons_zero, List.set_cons_succ])
            exact (hG _ _ _ _).1 (hr111111111 _ _ _ _ _ _ _ _ HP.out)
        have hr111111100 : ∀ (X9 : World) (A8 : Option Addr) (c8 lb lc : Nat) (A7 : Option Addr) (c7 : Nat) (_ : LoP8 Z1 n (sc C) h lc A8 q8 c8 X9), G 2 #[true, true, true, true, true, true, true, false, false] { tmps := #[.agg #[.string nm, .slice A n c], .pointer (some ⟨w.heap.size, 0, none⟩), .slice none 0 0, .int .i64 0, .slice A n c, .int .i64 0, .pointer (some ⟨w5.heap.size, 0, none⟩), .pointer (some ⟨w5.heap.size + 1, 0, none⟩), v, .func (.func 55) #[] #[.pointer (some ⟨w5.heap.size + 1, 0, none⟩)], .pointer (some ⟨wl.heap.size, 0, none⟩), .pointer (some ⟨wl.heap.size + 1, 0, none⟩), u 12, .map (some gm), .tuple #[.slice A n c, .int .i64 0], .agg #[.string nm, .slice A n c], .tuple #[.slice A n c, .int .i64 0], .slice A n c, .int .i64 0, .int .i64 0, .bool false, undef, .slice A n c, .slice Ad n cd, .slice A n c, .slice Ap n1 cp, .func (.func 55) #[] #[.pointer (some ⟨w5.heap.size + 1, 0, none⟩)], .slice A n c, .int .i64 (n : Int), .int .i64 (h : Int), .bool true, .int .i64 (h : Int), .func (.func 55) #[] #[.pointer (some ⟨w5.heap.size + 1, 0, none⟩)], .int .i64 (h : Int), .func (.func 100) #[] #[.pointer (some ⟨wl.heap.size + 2, 0, none⟩)], u 35, u 36, u 37, u 38, u 39, u 40, u 41, u 42, u 43, u 44, u 45, .slice Ab mb cb, .int .i64 (mb : Int), .bool false, .slice Ab mb cb, .func (.func 55) #[] #[.pointer (some ⟨w5.heap.size + 1, 0, none⟩)], .func (.func 58) #[] #[.pointer (some ⟨wl.heap.size, 0, none⟩), .pointer (some ⟨w5.heap.size, 0, none⟩)], .map (some gm), v, .int .i64 (h : Int), .slice (some ⟨lb, 0, none⟩) 1 1, .map (some gm), .slice A7 q7 c7, .slice A8 q8 c8, .slice (some ⟨lc, 0, none⟩) 1 1, u 60, u 61, u 62], defers := markR R :: Ds.map markR } X9 := by
          intro X9 A8 c8 lb lc A7 c7 HP
          have HP := Lib.hid HP
          refine (hG _ _ _ _).2 ?_
          refine wpAnyIn_ready (rs := [7]) (by kernel_rfl) (by simp) ?_
          refine AllReadyIn.cons rfl (fun K hK => ?_) (AllReadyIn.nil)
          · obtain ⟨v9, X10, hrun, hp9⟩ := L9.out _ _ _ _ HP.out
            refine stepInApp9 _ rfl (.tmp 53) (.tmp 59) 57 rfl rfl rfl hrun ?_
            refine hK _ _ ?_
            clear hK K
            (try simp only [Act.put, List.setIfInBounds_toArray, List.set_cons_zero, List.set_cons_succ])
            exact (hG _ _ _ _).1 (hr111111110 _ _ _ _ _ _ _ _ hp9)
        have hr111111000 : ∀ (X9 : World) (A8 : Option Addr) (c8 lb : Nat) (A7 : Option Addr) (c7 : Nat) (_ : LoP7 Z1 n (sc C) h A8 q8 c8 X9), G 3 #[true, true, true, true, true, true, false, false, false] { tmps := #[.agg #[.string nm, .slice A n c], .pointer (some ⟨w.heap.size, 0, none⟩), .slice none 0 0, .int .i64 0, .slice A n c, .int .i64 0, .pointer (some ⟨w5.heap.size, 0, none⟩), .pointer (some ⟨w5.heap.size + 1, 0, none⟩), v, .func (.func 55) #[] #[.pointer (some ⟨w5.heap.size + 1, 0, none⟩)], .pointer (some ⟨wl.heap.size, 0, none⟩), .pointer (some ⟨wl.heap.size + 1, 0, none⟩), u 12, .map (some gm), .tuple #[.slice A n c, .int .i64 0], .agg #[.string nm, .slice A n c], .tuple #[.slice A n c, .int .i64 0], .slice A n c, .int .i64 0, .int .i64 0, .bool false, undef, .slice A n c, .slice Ad n cd, .slice A n c, .slice Ap n1 cp, .func (.func 55) #[] #[.pointer (some ⟨w5.heap.size + 1, 0, none⟩)], .slice A n c, .int .i64 (n : Int), .int .i64 (h : Int), .bool true, .int .i64 (h : Int), .func (.func 55) #[] #[.pointer (some ⟨w5.heap.size + 1, 0, none⟩)], .int .i64 (h : Int), .func (.func 100) #[] #[.pointer (some ⟨wl.heap.size + 2, 0, none⟩)], u 35, u 36, u 37, u 38, u 39, u 40, u 41, u 42, u 43, u 44, u 45, .slice Ab mb cb, .int .i64 (mb : Int), .bool false, .slice Ab mb cb, .func (.func 55) #[] #[.pointer (some ⟨w5.heap.size + 1, 0, none⟩)], .func (.func 58) #[] #[.pointer (some ⟨wl.heap.size, 0, none⟩), .pointer (some ⟨w5.heap.size, 0, none⟩)], .map (some gm), v, .int .i64 (h : Int), .slice (some ⟨lb, 0, none⟩) 1 1, .map (some gm), .slice A7 q7 c7, .slice A8 q8 c8, u 59, u 60, u 61, u 62], defers := markR R :: Ds.map markR } X9 := by
          intro X9 A8 c8 lb A7 c7 HP
          have HP := Lib.hid HP
          refine (hG _ _ _ _).2 ?_
          refine wpAnyIn_ready (rs := [6]) (by kernel_rfl) (by simp) ?_
          refine AllReadyIn.cons rfl (fun K hK => ?_) (AllReadyIn.nil)
          · go_simp
            refine hK _ _ ?_
            clear hK K
            (try simp only [Act.put, List.setIfInBounds_toArray, List.set_cons_zero, List.set_cons_succ])
            exact (hG _ _ _ _).1 (hr111111100 _ _ _ _ _ _ _ (L8.out _ _ _ HP.out))
        have hr011111100 : ∀ (X9 : World) (A8 : Option Addr) (c8 lb lc : Nat) (A7 : Option Addr) (c7 : Nat) (_ : LoP8 Z1 n (sc C) h lc A8 q8 c8 X9), G 3 #[false, true, true, true, true, true, true, false, false] { tmps := #[.agg #[.string nm, .slice A n c], .pointer (some ⟨w.heap.size, 0, none⟩), .slice none 0 0, .int .i64 0, .slice A n c, .int .i64 0, .pointer (some ⟨w5.heap.size, 0, none⟩), .pointer (some ⟨w5.heap.size + 1, 0, none⟩), v, .func (.func 55) #[] #[.pointer (some ⟨w5.heap.size + 1, 0, none⟩)], .pointer (some ⟨wl.heap.size, 0, none⟩), .pointer (some ⟨wl.heap.size + 1, 0, none⟩), u 12, .map (some gm), .tuple #[.slice A n c, .int .i64 0], .agg #[.string nm, .slice A n c], .tuple #[.slice A n c, .int .i64 0], .slice A n c, .int .i64 0, .int .i64 0, .bool false, undef, .slice A n c, .slice Ad n cd, .slice A n c, .slice Ap n1 cp, .func (.func 55) #[] #[.pointer (some ⟨w5.heap.size + 1, 0, none⟩)], .slice A n c, .int .i64 (n : Int), .int .i64 (h : Int), .bool true, .int .i64 (h : Int), .func (.func 55) #[] #[.pointer (some ⟨w5.heap.size + 1, 0, none⟩)], .int .i64 (h : Int), .func (.func 100) #[] #[.pointer (some ⟨wl.heap.size + 2, 0, none⟩)], u 35, u 36, u 37, u 38, u 39, u 40, u 41, u 42, u 43, u 44, u 45, .slice Ab mb cb, .int .i64 (mb : Int), .bool false, .slice Ab mb cb, .func (.func 55) #[] #[.pointer (some ⟨w5.heap.size + 1, 0, none⟩)], .func (.func 58) #[] #[.pointer (some ⟨wl.heap.size, 0, none⟩), .pointer (some ⟨w5.heap.size, 0, none⟩)], .map (some gm), u 53, .int .i64 (h : Int), .slice (some ⟨lb, 0, none⟩) 1 1, .map (some gm), .slice A7 q7 c7, .slice A8 q8 c8, .slice (some ⟨lc, 0, none⟩) 1 1, u 60, u 61, u 62], defers := markR R :: Ds.map markR } X9 := by
          intro X9 A8 c8 lb lc A7 c7 HP
          have HP := Lib.hid HP
          refine (hG _ _ _ _).2 ?_
          refine wpAnyIn_ready (rs := [0]) (by kernel_rfl) (by simp) ?_
          refine AllReadyIn.cons rfl (fun K hK => ?_) (AllReadyIn.nil)
          · go_simp
            refine hK _ _ ?_
            clear hK K
            (try simp only [Act.put, List.setIfInBounds_toArray, List.set_cons_zero, List.set_cons_succ])
            exact (hG _ _ _ _).1 (hr111111100 _ _ _ _ _ _ _ HP.out)
        have hr111110000 : ∀ (X9 : World) (lb : Nat) (A7 : Option Addr) (c7 : Nat) (_ : LoP6 Z1 D h lb A7 c7 X9), G 4 #[true, true, true, true, true, false, false, false, false] { tmps := #[.agg #[.string nm, .slice A n c], .pointer (some ⟨w.heap.size, 0, none⟩), .slice none 0 0, .int .i64 0, .slice A n c, .int .i64 0, .pointer (some ⟨w5.heap.size, 0, none⟩), .pointer (some ⟨w5.heap.size + 1, 0, none⟩), v, .func (.func 55) #[] #[.pointer (some ⟨w5.heap.size + 1, 0, none⟩)], .pointer (some ⟨wl.heap.size, 0, none⟩), .pointer (some ⟨wl.heap.size + 1, 0, none⟩), u 12, .map (some gm), .tuple #[.slice A n c, .int .i64 0], .agg #[.string nm, .slice A n c], .tuple #[.slice A n c, .int .i64 0], .slice A n c, .int .i64 0, .int .i64 0, .bool false, undef, .slice A n c, .slice Ad n cd, .slice A n c, .slice Ap n1 cp, .func (.func 55) #[] #[.pointer (some ⟨w5.heap.size + 1, 0, none⟩)], .slice A n c, .int .i64 (n : Int), .int .i64 (h : Int), .bool true, .int .i64 (h : Int), .func (.func 55) #[] #[.pointer (some ⟨w5.heap.size + 1, 0, none⟩)], .int .i64 (h : Int), .func (.func 100) #[] #[.pointer (some ⟨wl.heap.size + 2, 0, none⟩)], u 35, u 36, u 37, u 38, u 39, u 40, u 41, u 42, u 43, u 44, u 45, .slice Ab mb cb, .int .i64 (mb : Int), .bool false, .slice Ab mb cb, .func (.func 55) #[] #[.pointer (some ⟨w5.heap.size + 1, 0, none⟩)], .func (.func 58) #[] #[.pointer (some ⟨wl.heap.size, 0, none⟩), .pointer (some ⟨w5.heap.size, 0, none⟩)], .map (some gm), v, .int .i64 (h : Int), .slice (some ⟨lb, 0, none⟩) 1 1, .map (some gm), .slice A7 q7 c7, u 58, u 59, u 60, u 61, u 62], defers := markR R :: Ds.map markR } X9 := by
          intro X9 lb A7 c7 HP
          have HP := Lib.hid HP
          refine (hG _ _ _ _).2 ?_
          refine wpAnyIn_ready (rs := [5]) (by kernel_rfl) (by simp) ?_
          refine AllReadyIn.cons rfl (fun K hK => ?_) (AllReadyIn.nil)
          · obtain ⟨A8, c8, X10, hrun, hp7⟩ := L7.out _ _ _ _ HP.out
            refine stepInApp9 _ rfl (.tmp 55) (.tmp 57) 33 rfl rfl rfl hrun ?_
            refine hK _ _ ?_
            clear hK K
            (try simp only [Act.put, List.setIfInBounds_toArray, List.set_cons_zero, List.set_cons_succ])
            exact (hG _ _ _ _).1 (hr111111000 _ _ _ _ _ _ hp7)
        have hr011111000 : ∀ (X9 : World) (A8 : Option Addr) (c8 lb : Nat) (A7 : Option Addr) (c7 : Nat) (_ : LoP7 Z1 n (sc C) h A8 q8 c8 X9), G 4 #[false, true, true, true, true, true, false, false, false] { tmps := #[.agg #[.string nm, .slice A n c], .pointer (some ⟨w.heap.size, 0, none⟩), .slice none 0 0, .int .i64 0, .slice A n c, .int .i64 0, .pointer (some ⟨w5.heap.size, 0, none⟩), .pointer (some ⟨w5.heap.size + 1, 0, none⟩), v, .func (.func 55) #[] #[.pointer (some ⟨w5.heap.size + 1, 0, none⟩)], .pointer (some ⟨wl.heap.size, 0, none⟩), .pointer (some ⟨wl.heap.size + 1, 0, none⟩), u 12, .map (some gm), .tuple #[.slice A n c, .int .i64 0], .agg #[.string nm, .slice A n c], .tuple #[.slice A n c, .int .i64 0], .slice A n c, .int .i64 0, .int .i64 0, .bool false, undef, .slice A n c, .slice Ad n cd, .slice A n c, .slice Ap n1 cp, .func (.func 55) #[] #[.pointer (some ⟨w5.heap.size + 1, 0, none⟩)], .slice A n c, .int .i64 (n : Int), .int .i64 (h : Int), .bool true, .int .i64 (h : Int), .func (.func 55) #[] #[.pointer (some ⟨w5.heap.size + 1, 0, none⟩)], .int .i64 (h : Int), .func (.func 100) #[] #[.pointer (some ⟨wl.heap.size + 2, 0, none⟩)], u 35, u 36, u 37, u 38, u 39, u 40, u 41, u 42, u 43, u 44, u 45, .slice Ab mb cb, .int .i64 (mb : Int), .bool false, .slice Ab mb cb, .func (.func 55) #[] #[.pointer (some ⟨w5.heap.size + 1, 0, none⟩)], .func (.func 58) #[] #[.pointer (some ⟨wl.heap.size, 0, none⟩), .pointer (some ⟨w5.heap.size, 0, none⟩)], .map (some gm), u 53, .int .i64 (h : Int), .slice (some ⟨lb, 0, none⟩) 1 1, .map (some gm), .slice A7 q7 c7, .slice A8 q8 c8, u 59, u 60, u 61, u 62], defers := markR R :: Ds.map markR } X9 := by
          intro X9 A8 c8 lb A7 c7 HP
          have HP := Lib.hid HP
          refine (hG _ _ _ _).2 ?_
          refine wpAnyIn_ready (rs := [0, 6]) (by kernel_rfl) (by simp) ?_
          refine AllReadyIn.cons rfl (fun K hK => ?_) (AllReadyIn.cons rfl (fun K hK => ?_) (AllReadyIn.nil))
          · go_simp
            refine hK _ _ ?_
            clear hK K
            (try simp only [Act.put, List.setIfInBounds_toArray, List.set_cons_zero, List.set_cons_succ])
            exact (hG _ _ _ _).1 (hr111111000 _ _ _ _ _ _ HP.out)
          · go_simp
            refine hK _ _ ?_
            clear hK K
            (try simp only [Act.put, List.setIfInBounds_toArray, List.set_cons_zero, List.set_cons_succ])
            exact (hG _ _ _ _).1 (hr011111100 _ _ _ _ _ _ _ (L8.out _ _ _ HP.out))
        have hr111100000 : G 5 #[true, true, true, true, false, false, false, false, false] { tmps := #[.agg #[.string nm, .slice A n c], .pointer (some ⟨w.heap.size, 0, none⟩), .slice none 0 0, .int .i64 0, .slice A n c, .int .i64 0, .pointer (some ⟨w5.heap.size, 0, none⟩), .pointer (some ⟨w5.heap.size + 1, 0, none⟩), v, .func (.func 55) #[] #[.pointer (some ⟨w5.heap.size + 1, 0, none⟩)], .pointer (some ⟨wl.heap.size, 0, none⟩), .pointer (some ⟨wl.heap.size + 1, 0, none⟩), u 12, .map (some gm), .tuple #[.slice A n c, .int .i64 0], .agg #[.string nm, .slice A n c], .tuple #[.slice A n c, .int .i64 0], .slice A n c, .int .i64 0, .int .i64 0, .bool false, undef, .slice A n c, .slice Ad n cd, .slice A n c, .slice Ap n1 cp, .func (.func 55) #[] #[.pointer (some ⟨w5.heap.size + 1, 0, none⟩)], .slice A n c, .int .i64 (n : Int), .int .i64 (h : Int), .bool true, .int .i64 (h : Int), .func (.func 55) #[] #[.pointer (some ⟨w5.heap.size + 1, 0, none⟩)], .int .i64 (h : Int), .func (.func 100) #[] #[.pointer (some ⟨wl.heap.size + 2, 0, none⟩)], u 35, u 36, u 37, u 38, u 39, u 40, u 41, u 42, u 43, u 44, u 45, .slice Ab mb cb, .int .i64 (mb : Int), .bool false, .slice Ab mb cb, .func (.func 55) #[] #[.pointer (some ⟨w5.heap.size + 1, 0, none⟩)], .func (.func 58) #[] #[.pointer (some ⟨wl.heap.size, 0, none⟩), .pointer (some ⟨w5.heap.size, 0, none⟩)], .map (some gm), v, .int .i64 (h : Int), .slice (some ⟨Z1.heap.size, 0, none⟩) 1 1, .map (some gm), u 57, u 58, u 59, u 60, u 61, u 62], defers := markR R :: Ds.map markR } (Z1.alloc (.cells #[.int .i64 (h : Int)] 3)) := by
          refine (hG _ _ _ _).2 ?_
          refine wpAnyIn_ready (rs := [4]) (by kernel_rfl) (by simp) ?_
          refine AllReadyIn.cons rfl (fun K hK => ?_) (AllReadyIn.nil)
          · go_simp
            gi_wp2_with fail
            refine ⟨trivial, (callsIn_wide.2 HS1.out).mono ?_⟩
            rintro e W5 ⟨A7, c7, rfl, hr7, hb7⟩
            refine hK _ _ ?_
            clear hK K
            (try simp only [Act.put, List.setIfInBounds_toArray, List.set_cons_zero, List.set_cons_succ])
            exact (hG _ _ _ _).1 (hr111110000 _ _ _ _ (L6a.out _ _ _ hr7 hb7))
        have hr110110000 : ∀ (X9 : World) (A7 : Option Addr) (c7 : Nat) (_ : LoP5 Z1 D A7 c7 X9), G 5 #[true, true, false, true, true, false, false, false, false] { tmps := #[.agg #[.string nm, .slice A n c], .pointer (some ⟨w.heap.size, 0, none⟩), .slice none 0 0, .int .i64 0, .slice A n c, .int .i64 0, .pointer (some ⟨w5.heap.size, 0, none⟩), .pointer (some ⟨w5.heap.size + 1, 0, none⟩), v, .func (.func 55) #[] #[.pointer (some ⟨w5.heap.size + 1, 0, none⟩)], .pointer (some ⟨wl.heap.size, 0, none⟩), .pointer (some ⟨wl.heap.size + 1, 0, none⟩), u 12, .map (some gm), .tuple #[.slice A n c, .int .i64 0], .agg #[.string nm, .slice A n c], .tuple #[.slice A n c, .int .i64 0], .slice A n c, .int .i64 0, .int .i64 0, .bool false, undef, .slice A n c, .slice Ad n cd, .slice A n c, .slice Ap n1 cp, .func (.func 55) #[] #[.pointer (some ⟨w5.heap.size + 1, 0, none⟩)], .slice A n c, .int .i64 (n : Int), .int .i64 (h : Int), .bool true, .int .i64 (h : Int), .func (.func 55) #[] #[.pointer (some ⟨w5.heap.size + 1, 0, none⟩)], .int .i64 (h : Int), .func (.func 100) #[] #[.pointer (some ⟨wl.heap.size + 2, 0, none⟩)], u 35, u 36, u 37, u 38, u 39, u 40, u 41, u 42, u 43, u 44, u 45, .slice Ab mb cb, .int .i64 (mb : Int), .bool false, .slice Ab mb cb, .func (.func 55) #[] #[.pointer (some ⟨w5.heap.size + 1, 0, none⟩)], .func (.func 58) #[] #[.pointer (some ⟨wl.heap.size, 0, none⟩), .pointer (some ⟨w5.heap.size, 0, none⟩)], .map (some gm), v, .int .i64 (h : Int), u 55, .map (some gm), .slice A7 q7 c7, u 58, u 59, u 60, u 61, u 62], defers := markR R :: Ds.map markR } X9 := by
          intro X9 A7 c7 HP
          have HP := Lib.hid HP
          refine (hG _ _ _ _).2 ?_
          refine wpAnyIn_ready (rs := [2]) (by kernel_rfl) (by simp) ?_
          refine AllReadyIn.cons rfl (fun K hK => ?_) (AllReadyIn.nil)
          · go_simp
            refine hK _ _ ?_
            clear hK K
            (try simp only [Act.put, List.setIfInBounds_toArray, List.set_cons_zero, List.set_cons_succ])
            exact (hG _ _ _ _).1 (hr111110000 _ _ _ _ (L6b.out _ _ _ HP.out))
        have hr011110000 : ∀ (X9 : World) (lb : Nat) (A7 : Option Addr) (c7 : Nat) (_ : LoP6 Z1 D h lb A7 c7 X9), G 5 #[false, true, true, true, true, false, false, false, false] { tmps := #[.agg #[.string nm, .slice A n c], .pointer (some ⟨w.heap.size, 0, none⟩), .slice none 0 0, .int .i64 0, .slice A n c, .int .i64 0, .pointer (some ⟨w5.heap.size, 0, none⟩), .pointer (some ⟨w5.heap.size + 1, 0, none⟩), v, .func (.func 55) #[] #[.pointer (some ⟨w5.heap.size + 1, 0, none⟩)], .pointer (some ⟨wl.heap.size, 0, none⟩), .pointer (some ⟨wl.heap.size + 1, 0, none⟩), u 12, .map (some gm), .tuple #[.slice A n c, .int .i64 0], .agg #[.string nm, .slice A n c], .tuple #[.slice A n c, .int .i64 0], .slice A n c, .int .i64 0, .int .i64 0, .bool false, undef, .slice A n c, .slice Ad n cd, .slice A n c, .slice Ap n1 cp, .func (.func 55) #[] #[.pointer (some ⟨w5.heap.size + 1, 0, none⟩)], .slice A n c, .int .i64 (n : Int), .int .i64 (h : Int), .bool true, .int .i64 (h : Int), .func (.func 55) #[] #[.pointer (some ⟨w5.heap.size + 1, 0, none⟩)], .int .i64 (h : Int), .func (.func 100) #[] #[.pointer (some ⟨wl.heap.size + 2, 0, none⟩)], u 35, u 36, u 37, u 38, u 39, u 40, u 41, u 42, u 43, u 44, u 45, .slice Ab mb cb, .int .i64 (mb : Int), .bool false, .slice Ab mb cb, .func (.func 55) #[] #[.pointer (some ⟨w5.heap.size + 1, 0, none⟩)], .func (.func 58) #[] #[.pointer (some ⟨wl.heap.size, 0, none⟩), .pointer (some ⟨w5.heap.size, 0, none⟩)], .map (some gm), u 53, .int .i64 (h : Int), .slice (some ⟨lb, 0, none⟩) 1 1, .map (some gm), .slice A7 q7 c7, u 58, u 59, u 60, u 61, u 62], defers := markR R :: Ds.map markR } X9 := by
          intro X9 lb A7 c7 HP
          have HP := Lib.hid HP
          refine (hG _ _ _ _).2 ?_
          refine wpAnyIn_ready (rs := [0, 5]) (by kernel_rfl) (by simp) ?_
          refine AllReadyIn.cons rfl (fun K hK => ?_) (AllReadyIn.cons rfl (fun K hK => ?_) (AllReadyIn.nil))
          · go_simp
            refine hK _ _ ?_
            clear hK K
            (try simp only [Act.put, List.setIfInBounds_toArray, List.set_cons_zero, List.set_cons_succ])
            exact (hG _ _ _ _).1 (hr111110000 _ _ _ _ HP.out)
          · obtain ⟨A8, c8, X10, hrun, hp7⟩ := L7.out _ _ _ _ HP.out
            refine stepInApp9 _ rfl (.tmp 55) (.tmp 57) 33 rfl rfl rfl hrun ?_
            refine hK _ _ ?_
            clear hK K
            (try simp only [Act.put, List.setIfInBounds_toArray, List.set_cons_zero, List.set_cons_succ])
            exact (hG _ _ _ _).1 (hr011111000 _ _ _ _ _ _ hp7)
        have hr111000000 : G 6 #[true, true, true, false, false, false, false, false, false] { tmps := #[.agg #[.string nm, .slice A n c], .pointer (some ⟨w.heap.size, 0, none⟩), .slice none 0 0, .int .i64 0, .slice A n c, .int .i64 0, .pointer (some ⟨w5.heap.size, 0, none⟩), .pointer (some ⟨w5.heap.size + 1, 0, none⟩), v, .func (.func 55) #[] #[.pointer (some ⟨w5.heap.size + 1, 0, none⟩)], .pointer (some ⟨wl.heap.size, 0, none⟩), .pointer (some ⟨wl.heap.size + 1, 0, none⟩), u 12, .map (some gm), .tuple #[.slice A n c, .int .i64 0], .agg #[.string nm, .slice A n c], .tuple #[.slice A n c, .int .i64 0], .slice A n c, .int .i64 0, .int .i64 0, .bool false, undef, .slice A n c, .slice Ad n cd, .slice A n c, .slice Ap n1 cp, .func (.func 55) #[] #[.pointer (some ⟨w5.heap.size + 1, 0, none⟩)], .slice A n c, .int .i64 (n : Int), .int .i64 (h : Int), .bool true, .int .i64 (h : Int), .func (.func 55) #[] #[.pointer (some ⟨w5.heap.size + 1, 0, none⟩)], .int .i64 (h : Int), .func (.func 100) #[] #[.pointer (some ⟨wl.heap.size + 2, 0, none⟩)], u 35, u 36, u 37, u 38, u 39, u 40, u 41, u 42, u 43, u 44, u 45, .slice Ab mb cb, .int .i64 (mb : Int), .bool false, .slice Ab mb cb, .func (.func 55) #[] #[.pointer (some ⟨w5.heap.size + 1, 0, none⟩)], .func (.func 58) #[] #[.pointer (some ⟨wl.heap.size, 0, none⟩), .pointer (some ⟨w5.heap.size, 0, none⟩)], .map (some gm), v, .int .i64 (h : Int), .slice (some ⟨Z1.heap.size, 0, none⟩) 1 1, u 56, u 57, u 58, u 59, u 60, u 61, u 62], defers := markR R :: Ds.map markR } (Z1.alloc (.cells #[.int .i64 (h : Int)] 3)) := by
          refine (hG _ _ _ _).2 ?_
          refine wpAnyIn_ready (rs := [3]) (by kernel_rfl) (by simp) ?_
          refine AllReadyIn.cons rfl (fun K hK => ?_) (AllReadyIn.nil)
          · go_simp
            refine hK _ _ ?_
            clear hK K
            (try simp only [Act.put, List.setIfInBounds_toArray, List.set_cons_zero, List.set_cons_succ])
            exact (hG _ _ _ _).1 hr111100000
        have hr110100000 : G 6 #[true, true, false, true, false, false, false, false, false] { tmps := #[.agg #[.string nm, .slice A n c], .pointer (some ⟨w.heap.size, 0, none⟩), .slice none 0 0, .int .i64 0, .slice A n c, .int .i64 0, .pointer (some ⟨w5.heap.size, 0, none⟩), .pointer (some ⟨w5.heap.size + 1, 0, none⟩), v, .func (.func 55) #[] #[.pointer (some ⟨w5.heap.size + 1, 0, none⟩)], .pointer (some ⟨wl.heap.size, 0, none⟩), .pointer (some ⟨wl.heap.size + 1, 0, none⟩), u 12, .map (some gm), .tuple #[.slice A n c, .int .i64 0], .agg #[.string nm, .slice A n c], .tuple #[.slice A n c, .int .i64 0], .slice A n c, .int .i64 0, .int .i64 0, .bool false, undef, .slice A n c, .slice Ad n cd, .slice A n c, .slice Ap n1 cp, .func (.func 55) #[] #[.pointer (some ⟨w5.heap.size + 1, 0, none⟩)], .slice A n c, .int .i64 (n : Int), .int .i64 (h : Int), .bool true, .int .i64 (h : Int), .func (.func 55) #[] #[.pointer (some ⟨w5.heap.size + 1, 0, none⟩)], .int .i64 (h : Int), .func (.func 100) #[] #[.pointer (some ⟨wl.heap.size + 2, 0, none⟩)], u 35, u 36, u 37, u 38, u 39, u 40, u 41, u 42, u 43, u 44, u 45, .slice Ab mb cb, .int .i64 (mb : Int), .bool false, .slice Ab mb cb, .func (.func 55) #[] #[.pointer (some ⟨w5.heap.size + 1, 0, none⟩)], .func (.func 58) #[] #[.pointer (some ⟨wl.heap.size, 0, none⟩), .pointer (some ⟨w5.heap.size, 0, none⟩)], .map (some gm), v, .int .i64 (h : Int), u 55, .map (some gm), u 57, u 58, u 59, u 60, u 61, u 62], defers := markR R :: Ds.map markR } Z1 := by
          refine (hG _ _ _ _).2 ?_
          refine wpAnyIn_ready (rs := [2, 4]) (by kernel_rfl) (by simp) ?_
          refine AllReadyIn.cons rfl (fun K hK => ?_) (AllReadyIn.cons rfl (fun K hK => ?_) (AllReadyIn.nil))
          · go_simp
            refine hK _ _ ?_
            clear hK K
            (try simp only [Act.put, List.setIfInBounds_toArray, List.set_cons_zero, List.set_cons_succ])
            exact (hG _ _ _ _).1 hr111100000
          · go_simp
            gi_wp2_with fail
            refine ⟨trivial, (callsIn_wide.2 HS0.out).mono ?_⟩
            rintro e W5 ⟨A7, c7, rfl, hr7, hb7⟩
            refine hK _ _ ?_
            clear hK K
            (try simp only [Act.put, List.setIfInBounds_toArray, List.set_cons_zero, List.set_cons_succ])
            exact (hG _ _ _ _).1 (hr110110000 _ _ _ (L5.out _ _ _ hr7 hb7))
        have hr100110000 : ∀ (X9 : World) (A7 : Option Addr) (c7 : Nat) (_ : LoP5 Z1 D A7 c7 X9), G 6 #[true, false, false, true, true, false, false, false, false] { tmps := #[.agg #[.string nm, .slice A n c], .pointer (some ⟨w.heap.size, 0, none⟩), .slice none 0 0, .int .i64 0, .slice A n c, .int .i64 0, .pointer (some ⟨w5.heap.size, 0, none⟩), .pointer (some ⟨w5.heap.size + 1, 0, none⟩), v, .func (.func 55) #[] #[.pointer (some ⟨w5.heap.size + 1, 0, none⟩)], .pointer (some ⟨wl.heap.size, 0, none⟩), .pointer (some ⟨wl.heap.size + 1, 0, none⟩), u 12, .map (some gm), .tuple #[.slice A n c, .int .i64 0], .agg #[.string nm, .slice A n c], .tuple #[.slice A n c, .int .i64 0], .slice A n c, .int .i64 0, .int .i64 0, .bool false, undef, .slice A n c, .slice Ad n cd, .slice A n c, .slice Ap n1 cp, .func (.func 55) #[] #[.pointer (some ⟨w5.heap.size + 1, 0, none⟩)], .slice A n c, .int .i64 (n : Int), .int .i64 (h : Int), .bool true, .int .i64 (h : Int), .func (.func 55) #[] #[.pointer (some ⟨w5.heap.size + 1, 0, none⟩)], .int .i64 (h : Int), .func (.func 100) #[] #[.pointer (some ⟨wl.heap.size + 2, 0, none⟩)], u 35, u 36, u 37, u 38, u 39, u 40, u 41, u 42, u 43, u 44, u 45, .slice Ab mb cb, .int .i64 (mb : Int), .bool false, .slice Ab mb cb, .func (.func 55) #[] #[.pointer (some ⟨w5.heap.size + 1, 0, none⟩)], .func (.func 58) #[] #[.pointer (some ⟨wl.heap.size, 0, none⟩), .pointer (some ⟨w5.heap.size, 0, none⟩)], .map (some gm), v, u 54, u 55, .map (some gm), .slice A7 q7 c7, u 58, u 59, u 60, u 61, u 62], defers := markR R :: Ds.map markR } X9 := by
          intro X9 A7 c7 HP
          have HP := Lib.hid HP
          refine (hG _ _ _ _).2 ?_
          refine wpAnyIn_ready (rs := [1]) (by kernel_rfl) (by simp) ?_
          refine AllReadyIn.cons rfl (fun K hK => ?_) (AllReadyIn.nil)
          · have t11 := HT10.out _ HP.out.1
            go_simp
            refine hK _ _ ?_
            clear hK K
            (try simp only [Act.put, List.setIfInBounds_toArray, List.set_cons_zero, List.set_cons_succ])
            exact (hG _ _ _ _).1 (hr110110000 _ _ _ HP.out)
        have hr011100000 : G 6 #[false, true, true, true, false, false, false, false, false] { tmps := #[.agg #[.string nm, .slice A n c], .pointer (some ⟨w.heap.size, 0, none⟩), .slice none 0 0, .int .i64 0, .slice A n c, .int .i64 0, .pointer (some ⟨w5.heap.size, 0, none⟩), .pointer (some ⟨w5.heap.size + 1, 0, none⟩), v, .func (.func 55) #[] #[.pointer (some ⟨w5.heap.size + 1, 0, none⟩)], .pointer (some ⟨wl.heap.size, 0, none⟩), .pointer (some ⟨wl.heap.size + 1, 0, none⟩), u 12, .map (some gm), .tuple #[.slice A n c, .int .i64 0], .agg #[.string nm, .slice A n c], .tuple #[.slice A n c, .int .i64 0], .slice A n c, .int .i64 0, .int .i64 0, .bool false, undef, .slice A n c, .slice Ad n cd, .slice A n c, .slice Ap n1 cp, .func (.func 55) #[] #[.pointer (some ⟨w5.heap.size + 1, 0, none⟩)], .slice A n c, .int .i64 (n : Int), .int .i64 (h : Int), .bool true, .int .i64 (h : Int), .func (.func 55) #[] #[.pointer (some ⟨w5.heap.size + 1, 0, none⟩)], .int .i64 (h : Int), .func (.func 100) #[] #[.pointer (some ⟨wl.heap.size + 2, 0, none⟩)], u 35, u 36, u 37, u 38, u 39, u 40, u 41, u 42, u 43, u 44, u 45, .slice Ab mb cb, .int .i64 (mb : Int), .bool false, .slice Ab mb cb, .func (.func 55) #[] #[.pointer (some ⟨w5.heap.size + 1, 0, none⟩)], .func (.func 58) #[] #[.pointer (some ⟨wl.heap.size, 0, none⟩), .pointer (some ⟨w5.heap.size, 0, none⟩)], .map (some gm), u 53, .int .i64 (h : Int), .slice (some ⟨Z1.heap.size, 0, none⟩) 1 1, .map (some gm), u 57, u 58, u 59, u 60, u 61, u 62], defers := markR R :: Ds.map markR } (Z1.alloc (.cells #[.int .i64 (h : Int)] 3)) := by
          refine (hG _ _ _ _).2 ?_
          refine wpAnyIn_ready (rs := [0, 4]) (by kernel_rfl) (by simp) ?_
          refine AllReadyIn.cons rfl (fun K hK => ?_) (AllReadyIn.cons rfl (fun K hK => ?_) (AllReadyIn.nil))
          · go_simp
            refine hK _ _ ?_
            clear hK K
            (try simp only [Act.put, List.setIfInBounds_toArray, List.set_cons_zero, List.set_cons_succ])
            exact (hG _ _ _ _).1 hr111100000
          · go_simp
            gi_wp2_with fail
            refine ⟨trivial, (callsIn_wide.2 HS1.out).mono ?_⟩
            rintro e W5 ⟨A7, c7, rfl, hr7, hb7⟩
            refine hK _ _ ?_
            clear hK K
            (try simp only [Act.put, List.setIfInBounds_toArray, List.set_cons_zero, List.set_cons_succ])
            exact (hG _ _ _ _).1 (hr011110000 _ _ _ _ (L6a.out _ _ _ hr7 hb7))
        have hr010110000 : ∀ (X9 : World) (A7 : Option Addr) (c7 : Nat) (_ : LoP5 Z1 D A7 c7 X9), G 6 #[false, true, false, true, true, false, false, false, false] { tmps := #[.agg #[.string nm, .slice A n c], .pointer (some ⟨w.heap.size, 0, none⟩), .slice none 0 0, .int .i64 0, .slice A n c, .int .i64 0, .pointer (some ⟨w5.heap.size, 0, none⟩), .pointer (some ⟨w5.heap.size + 1, 0, none⟩), v, .func (.func 55) #[] #[.pointer (some ⟨w5.heap.size + 1, 0, none⟩)], .pointer (some ⟨wl.heap.size, 0, none⟩), .pointer (some ⟨wl.heap.size + 1, 0, none⟩), u 12, .map (some gm), .tuple #[.slice A n c, .int .i64 0], .agg #[.string nm, .slice A n c], .tuple #[.slice A n c, .int .i64 0], .slice A n c, .int .i64 0, .int .i64 0, .bool false, undef, .slice A n c, .slice Ad n cd, .slice A n c, .slice Ap n1 cp, .func (.func 55) #[] #[.pointer (some ⟨w5.heap.size + 1, 0, none⟩)], .slice A n c, .int .i64 (n : Int), .int .i64 (h : Int), .bool true, .int .i64 (h : Int), .func (.func 55) #[] #[.pointer (some ⟨w5.heap.size + 1, 0, none⟩)], .int .i64 (h : Int), .func (.func 100) #[] #[.pointer (some ⟨wl.heap.size + 2, 0, none⟩)], u 35, u 36, u 37, u 38, u 39, u 40, u 41, u 42, u 43, u 44, u 45, .slice Ab mb cb, .int .i64 (mb : Int), .bool false, .slice Ab mb cb, .func (.func 55) #[] #[.pointer (some ⟨w5.heap.size + 1, 0, none⟩)], .func (.func 58) #[] #[.pointer (some ⟨wl.heap.size, 0, none⟩), .pointer (some ⟨w5.heap.size, 0, none⟩)], .map (some gm), u 53, .int .i64 (h : Int), u 55, .map (some gm), .slice A7 q7 c7, u 58, u 59, u 60, u 61, u 62], defers := markR R :: Ds.map markR } X9 := by
          intro X9 A7 c7 HP
          have HP := Lib.hid HP
          refine (hG _ _ _ _).2 ?_
          refine wpAnyIn_ready (rs := [0, 2]) (by kernel_rfl) (by simp) ?_
          refine AllReadyIn.cons rfl (fun K hK => ?_) (AllReadyIn.cons rfl (fun K hK => ?_) (AllReadyIn.nil))
          · go_simp
            refine hK _ _ ?_
            clear hK K
            (try simp only [Act.put, List.setIfInBounds_toArray, List.set_cons_zero, List.set_cons_succ])
            exact (hG _ _ _ _).1 (hr110110000 _ _ _ HP.out)
          · go_simp
            refine hK _ _ ?_
            clear hK K
            (try simp only [Act.put, List.setIfInBounds_toArray, List.set_cons_zero, List.set_cons_succ])
            exact (hG _ _ _ _).1 (hr011110000 _ _ _ _ (L6b.out _ _ _ HP.out))
        have hr110000000 : G 7 #[true, true, false, false, false, false, false, false, false] { tmps := #[.agg #[.string nm, .slice A n c], .pointer (some ⟨w.heap.size, 0, none⟩), .slice none 0 0, .int .i64 0, .slice A n c, .int .i64 0, .pointer (some ⟨w5.heap.size, 0, none⟩), .pointer (some ⟨w5.heap.size + 1, 0, none⟩), v, .func (.func 55) #[] #[.pointer (some ⟨w5.heap.size + 1, 0, none⟩)], .pointer (some ⟨wl.heap.size, 0, none⟩), .pointer (some ⟨wl.heap.size + 1, 0, none⟩), u 12, .map (some gm), .tuple #[.slice A n c, .int .i64 0], .agg #[.string nm, .slice A n c], .tuple #[.slice A n c, .int .i64 0], .slice A n c, .int .i64 0, .int .i64 0, .bool false, undef, .slice A n c, .slice Ad n cd, .slice A n c, .slice Ap n1 cp, .func (.func 55) #[] #[.pointer (some ⟨w5.heap.size + 1, 0, none⟩)], .slice A n c, .int .i64 (n : Int), .int .i64 (h : Int), .bool true, .int .i64 (h : Int), .func (.func 55) #[] #[.pointer (some ⟨w5.heap.size + 1, 0, none⟩)], .int .i64 (h : Int), .func (.func 100) #[] #[.pointer (some ⟨wl.heap.size + 2, 0, none⟩)], u 35, u 36, u 37, u 38, u 39, u 40, u 41, u 42, u 43, u 44, u 45, .slice Ab mb cb, .int .i64 (mb : Int), .bool false, .slice Ab mb cb, .func (.func 55) #[] #[.pointer (some ⟨w5.heap.size + 1, 0, none⟩)], .func (.func 58) #[] #[.pointer (some ⟨wl.heap.size, 0, none⟩), .pointer (some ⟨w5.heap.size, 0, none⟩)], .map (some gm), v, .int .i64 (h : Int), u 55, u 56, u 57, u 58, u 59, u 60, u 61, u 62], defers := markR R :: Ds.map markR } Z1 := by
          refine (hG _ _ _ _).2 ?_
          refine wpAnyIn_ready (rs := [2, 3]) (by kernel_rfl) (by simp) ?_
          refine AllReadyIn.cons rfl (fun K hK => ?_) (AllReadyIn.cons rfl (fun K hK => ?_) (AllReadyIn.nil))
          · go_simp
            refine hK _ _ ?_
            clear hK K
            (try simp only [Act.put, List.setIfInBounds_toArray, List.set_cons_zero, List.set_cons_succ])
            exact (hG _ _ _ _).1 hr111000000
          · go_simp
            refine hK _ _ ?_
            clear hK K
            (try simp only [Act.put, List.setIfInBounds_toArray, List.set_cons_zero, List.set_cons_succ])
            exact (hG _ _ _ _).1 hr110100000
        have hr100100000 : G 7 #[true, false, false, true, false, false, false, false, false] { tmps := #[.agg #[.string nm, .slice A n c], .pointer (some ⟨w.heap.size, 0, none⟩), .slice none 0 0, .int .i64 0, .slice A n c, .int .i64 0, .pointer (some ⟨w5.heap.size, 0, none⟩), .pointer (some ⟨w5.heap.size + 1, 0, none⟩), v, .func (.func 55) #[] #[.pointer (some ⟨w5.heap.size + 1, 0, none⟩)], .pointer (some ⟨wl.heap.size, 0, none⟩), .pointer (some ⟨wl.heap.size + 1, 0, none⟩), u 12, .map (some gm), .tuple #[.slice A n c, .int .i64 0], .agg #[.string nm, .slice A n c], .tuple #[.slice A n c, .int .i64 0], .slice A n c, .int .i64 0, .int .i64 0, .bool false, undef, .slice A n c, .slice Ad n cd, .slice A n c, .slice Ap n1 cp, .func (.func 55) #[] #[.pointer (some ⟨w5.heap.size + 1, 0, none⟩)], .slice A n c, .int .i64 (n : Int), .int .i64 (h : Int), .bool true, .int .i64 (h : Int), .func (.func 55) #[] #[.pointer (some ⟨w5.heap.size + 1, 0, none⟩)], .int .i64 (h : Int), .func (.func 100) #[] #[.pointer (some ⟨wl.heap.size + 2, 0, none⟩)], u 35, u 36, u 37, u 38, u 39, u 40, u 41, u 42, u 43, u 44, u 45, .slice Ab mb cb, .int .i64 (mb : Int), .bool false, .slice Ab mb cb, .func (.func 55) #[] #[.pointer (some ⟨w5.heap.size + 1, 0, none⟩)], .func (.func 58) #[] #[.pointer (some ⟨wl.heap.size, 0, none⟩), .pointer (some ⟨w5.heap.size, 0, none⟩)], .map (some gm), v, u 54, u 55, .map (some gm), u 57, u 58, u 59, u 60, u 61, u 62], defers := markR R :: Ds.map markR } Z1 := by
          refine (hG _ _ _ _).2 ?_
          refine wpAnyIn_ready (rs := [1, 4]) (by kernel_rfl) (by simp) ?_
          refine AllReadyIn.cons rfl (fun K hK => ?_) (AllReadyIn.cons rfl (fun K hK => ?_) (AllReadyIn.nil))
          · go_simp
            refine hK _ _ ?_
            clear hK K
            (try simp only [Act.put, List.setIfInBounds_toArray, List.set_cons_zero, List.set_cons_succ])
            exact (hG _ _ _ _).1 hr110100000
          · go_simp
            gi_wp2_with fail
            refine ⟨trivial, (callsIn_wide.2 HS0.out).mono ?_⟩
            rintro e W5 ⟨A7, c7, rfl, hr7, hb7⟩
            refine hK _ _ ?_
            clear hK K
            (try simp only [Act.put, List.setIfInBounds_toArray, List.set_cons_zero, List.set_cons_succ])
            exact (hG _ _ _ _).1 (hr100110000 _ _ _ (L5.out _ _ _ hr7 hb7))
        have hr011000000 : G 7 #[false, true, true, false, false, false, false, false, false] { tmps := #[.agg #[.string nm, .slice A n c], .pointer (some ⟨w.heap.size, 0, none⟩), .slice none 0 0, .int .i64 0, .slice A n c, .int .i64 0, .pointer (some ⟨w5.heap.size, 0, none⟩), .pointer (some ⟨w5.heap.size + 1, 0, none⟩), v, .func (.func 55) #[] #[.pointer (some ⟨w5.heap.size + 1, 0, none⟩)], .pointer (some ⟨wl.heap.size, 0, none⟩), .pointer (some ⟨wl.heap.size + 1, 0, none⟩), u 12, .map (some gm), .tuple #[.slice A n c, .int .i64 0], .agg #[.string nm, .slice A n c], .tuple #[.slice A n c, .int .i64 0], .slice A n c, .int .i64 0, .int .i64 0, .bool false, undef, .slice A n c, .slice Ad n cd, .slice A n c, .slice Ap n1 cp, .func (.func 55) #[] #[.pointer (some ⟨w5.heap.size + 1, 0, none⟩)], .slice A n c, .int .i64 (n : Int), .int .i64 (h : Int), .bool true, .int .i64 (h : Int), .func (.func 55) #[] #[.pointer (some ⟨w5.heap.size + 1, 0, none⟩)], .int .i64 (h : Int), .func (.func 100) #[] #[.pointer (some ⟨wl.heap.size + 2, 0, none⟩)], u 35, u 36, u 37, u 38, u 39, u 40, u 41, u 42, u 43, u 44, u 45, .slice Ab mb cb, .int .i64 (mb : Int), .bool false, .slice Ab mb cb, .func (.func 55) #[] #[.pointer (some ⟨w5.heap.size + 1, 0, none⟩)], .func (.func 58) #[] #[.pointer (some ⟨wl.heap.size, 0, none⟩), .pointer (some ⟨w5.heap.size, 0, none⟩)], .map (some gm), u 53, .int .i64 (h : Int), .slice (some ⟨Z1.heap.size, 0, none⟩) 1 1, u 56, u 57, u 58, u 59, u 60, u 61, u 62], defers := markR R :: Ds.map markR } (Z1.alloc (.cells #[.int .i64 (h : Int)] 3)) := by
          refine (hG _ _ _ _).2 ?_
          refine wpAnyIn_ready (rs := [0, 3]) (by kernel_rfl) (by simp) ?_
          refine AllReadyIn.cons rfl (fun K hK => ?_) (AllReadyIn.cons rfl (fun K hK => ?_) (AllReadyIn.nil))
          · go_simp
            refine hK _ _ ?_
            clear hK K
            (try simp only [Act.put, List.setIfInBounds_toArray, List.set_cons_zero, List.set_cons_succ])
            exact (hG _ _ _ _).1 hr111000000
          · go_simp
            refine hK _ _ ?_
            clear hK K
            (try simp only [Act.put, List.setIfInBounds_toArray, List.set_cons_zero, List.set_cons_succ])
            exact (hG _ _ _ _).1 hr011100000
        have hr010100000 : G 7 #[false, true, false, true, false, false, false, false, false] { tmps := #[.agg #[.string nm, .slice A n c], .pointer (some ⟨w.heap.size, 0, none⟩), .slice none 0 0, .int .i64 0, .slice A n c, .int .i64 0, .pointer (some ⟨w5.heap.size, 0, none⟩), .pointer (some ⟨w5.heap.size + 1, 0, none⟩), v, .func (.func 55) #[] #[.pointer (some ⟨w5.heap.size + 1, 0, none⟩)], .pointer (some ⟨wl.heap.size, 0, none⟩), .pointer (some ⟨wl.heap.size + 1, 0, none⟩), u 12, .map (some gm), .tuple #[.slice A n c, .int .i64 0], .agg #[.string nm, .slice A n c], .tuple #[.slice A n c, .int .i64 0], .slice A n c, .int .i64 0, .int .i64 0, .bool false, undef, .slice A n c, .slice Ad n cd, .slice A n c, .slice Ap n1 cp, .func (.func 55) #[] #[.pointer (some ⟨w5.heap.size + 1, 0, none⟩)], .slice A n c, .int .i64 (n : Int), .int .i64 (h : Int), .bool true, .int .i64 (h : Int), .func (.func 55) #[] #[.pointer (some ⟨w5.heap.size + 1, 0, none⟩)], .int .i64 (h : Int), .func (.func 100) #[] #[.pointer (some ⟨wl.heap.size + 2, 0, none⟩)], u 35, u 36, u 37, u 38, u 39, u 40, u 41, u 42, u 43, u 44, u 45, .slice Ab mb cb, .int .i64 (mb : Int), .bool false, .slice Ab mb cb, .func (.func 55) #[] #[.pointer (some ⟨w5.heap.size + 1, 0, none⟩)], .func (.func 58) #[] #[.pointer (some ⟨wl.heap.size, 0, none⟩), .pointer (some ⟨w5.heap.size, 0, none⟩)], .map (some gm), u 53, .int .i64 (h : Int), u 55, .map (some gm), u 57, u 58, u 59, u 60, u 61, u 62], defers := markR R :: Ds.map markR } Z1 := by
          refine (hG _ _ _ _).2 ?_
          refine wpAnyIn_ready (rs := [0, 2, 4]) (by kernel_rfl) (by simp) ?_
          refine AllReadyIn.cons rfl (fun K hK => ?_) (AllReadyIn.cons rfl (fun K hK => ?_) (AllReadyIn.cons rfl (fun K hK => ?_) (AllReadyIn.nil)))
          · go_simp
            refine hK _ _ ?_
            clear hK K
            (try simp only [Act.put, List.setIfInBounds_toArray, List.set_cons_zero, List.set_cons_succ])
            exact (hG _ _ _ _).1 hr110100000
          · go_simp
            refine hK _ _ ?_
            clear hK K
            (try simp only [Act.put, List.setIfInBounds_toArray, List.set_cons_zero, List.set_cons_succ])
            exact (hG _ _ _ _).1 hr011100000
          · go_simp
            gi_wp2_with fail
            refine ⟨trivial, (callsIn_wide.2 HS0.out).mono ?_⟩
            rintro e W5 ⟨A7, c7, rfl, hr7, hb7⟩
            refine hK _ _ ?_
            clear hK K
            (try simp only [Act.put, List.setIfInBounds_toArray, List.set_cons_zero, List.set_cons_succ])
            exact (hG _ _ _ _).1 (hr010110000 _ _ _ (L5.out _ _ _ hr7 hb7))
        have hr000110000 : ∀ (X9 : World) (A7 : Option Addr) (c7 : Nat) (_ : LoP5 Z1 D A7 c7 X9), G 7 #[false, false, false, true, true, false, false, false, false] { tmps := #[.agg #[.string nm, .slice A n c], .pointer (some ⟨w.heap.size, 0, none⟩), .slice none 0 0, .int .i64 0, .slice A n c, .int .i64 0, .pointer (some ⟨w5.heap.size, 0, none⟩), .pointer (some ⟨w5.heap.size + 1, 0, none⟩), v, .func (.func 55) #[] #[.pointer (some ⟨w5.heap.size + 1, 0, none⟩)], .pointer (some ⟨wl.heap.size, 0, none⟩), .pointer (some ⟨wl.heap.size + 1, 0, none⟩), u 12, .map (some gm), .tuple #[.slice A n c, .int .i64 0], .agg #[.string nm, .slice A n c], .tuple #[.slice A n c, .int .i64 0], .slice A n c, .int .i64 0, .int .i64 0, .bool false, undef, .slice A n c, .slice Ad n cd, .slice A n c, .slice Ap n1 cp, .func (.func 55) #[] #[.pointer (some ⟨w5.heap.size + 1, 0, none⟩)], .slice A n c, .int .i64 (n : Int), .int .i64 (h : Int), .bool true, .int .i64 (h : Int), .func (.func 55) #[] #[.pointer (some ⟨w5.heap.size + 1, 0, none⟩)], .int .i64 (h : Int), .func (.func 100) #[] #[.pointer (some ⟨wl.heap.size + 2, 0, none⟩)], u 35, u 36, u 37, u 38, u 39, u 40, u 41, u 42, u 43, u 44, u 45, .slice Ab mb cb, .int .i64 (mb : Int), .bool false, .slice Ab mb cb, .func (.func 55) #[] #[.pointer (some ⟨w5.heap.size + 1, 0, none⟩)], .func (.func 58) #[] #[.pointer (some ⟨wl.heap.size, 0, none⟩), .pointer (some ⟨w5.heap.size, 0, none⟩)], .map (some gm), u 53, u 54, u 55, .map (some gm), .slice A7 q7 c7, u 58, u 59, u 60, u 61, u 62], defers := markR R :: Ds.map markR } X9 := by
          intro X9 A7 c7 HP
          have HP := Lib.hid HP
          refine (hG _ _ _ _).2 ?_
          refine wpAnyIn_ready (rs := [0, 1]) (by kernel_rfl) (by simp) ?_
          refine AllReadyIn.cons rfl (fun K hK => ?_) (AllReadyIn.cons rfl (fun K hK => ?_) (AllReadyIn.nil))
          · go_simp
            refine hK _ _ ?_
            clear hK K
            (try simp only [Act.put, List.setIfInBounds_toArray, List.set_cons_zero, List.set_cons_succ])
            exact (hG _ _ _ _).1 (hr100110000 _ _ _ HP.out)
          · have t11 := HT10.out _ HP.out.1
            go_simp
            refine hK _ _ ?_
            clear hK K
            (try simp only [Act.put, List.setIfInBounds_toArray, List.set_cons_zero, List.set_cons_succ])
            exact (hG _ _ _ _).1 (hr010110000 _ _ _ HP.out)
        have hr100000000 : G 8 #[true, false, false, false, false, false, false, false, false] { tmps := #[.agg #[.string nm, .slice A n c], .pointer (some ⟨w.heap.size, 0, none⟩), .slice none 0 0, .int .i64 0, .slice A n c, .int .i64 0, .pointer (some ⟨w5.heap.size, 0, none⟩), .pointer (some ⟨w5.heap.size + 1, 0, none⟩), v, .func (.func 55) #[] #[.pointer (some ⟨w5.heap.size + 1, 0, none⟩)], .pointer (some ⟨wl.heap.size, 0, none⟩), .pointer (some ⟨wl.heap.size + 1, 0, none⟩), u 12, .map (some gm), .tuple #[.slice A n c, .int .i64 0], .agg #[.string nm, .slice A n c], .tuple #[.slice A n c, .int .i64 0], .slice A n c, .int .i64 0, .int .i64 0, .bool false, undef, .slice A n c, .slice Ad n cd, .slice A n c, .slice Ap n1 cp, .func (.func 55) #[] #[.pointer (some ⟨w5.heap.size + 1, 0, none⟩)], .slice A n c, .int .i64 (n : Int), .int .i64 (h : Int), .bool true, .int .i64 (h : Int), .func (.func 55) #[] #[.pointer (some ⟨w5.heap.size + 1, 0, none⟩)], .int .i64 (h : Int), .func (.func 100) #[] #[.pointer (some ⟨wl.heap.size + 2, 0, none⟩)], u 35, u 36, u 37, u 38, u 39, u 40, u 41, u 42, u 43, u 44, u 45, .slice Ab mb cb, .int .i64 (mb : Int), .bool false, .slice Ab mb cb, .func (.func 55) #[] #[.pointer (some ⟨w5.heap.size + 1, 0, none⟩)], .func (.func 58) #[] #[.pointer (some ⟨wl.heap.size, 0, none⟩), .pointer (some ⟨w5.heap.size, 0, none⟩)], .map (some gm), v, u 54, u 55, u 56, u 57, u 58, u 59, u 60, u 61, u 62], defers := markR R :: Ds.map markR } Z1 := by
          refine (hG _ _ _ _).2 ?_
          refine wpAnyIn_ready (rs := [1, 3]) (by kernel_rfl) (by simp) ?_
          refine AllReadyIn.cons rfl (fun K hK => ?_) (AllReadyIn.cons rfl (fun K hK => ?_) (AllReadyIn.nil))
          · go_simp
            refine hK _ _ ?_
            clear hK K
            (try simp only [Act.put, List.setIfInBounds_toArray, List.set_cons_zero, List.set_cons_succ])
            exact (hG _ _ _ _).1 hr110000000
          · go_simp
            refine hK _ _ ?_
            clear hK K
            (try simp only [Act.put, List.setIfInBounds_toArray, List.set_cons_zero, List.set_cons_succ])
            exact (hG _ _ _ _).1 hr100100000
        have hr010000000 : G 8 #[false, true, false, false, false, false, false, false, false] { tmps := #[.agg #[.string nm, .slice A n c], .pointer (some ⟨w.heap.size, 0, none⟩), .slice none 0 0, .int .i64 0, .slice A n c, .int .i64 0, .pointer (some ⟨w5.heap.size, 0, none⟩), .pointer (some ⟨w5.heap.size + 1, 0, none⟩), v, .func (.func 55) #[] #[.pointer (some ⟨w5.heap.size + 1, 0, none⟩)], .pointer (some ⟨wl.heap.size, 0, none⟩), .pointer (some ⟨wl.heap.size + 1, 0, none⟩), u 12, .map (some gm), .tuple #[.slice A n c, .int .i64 0], .agg #[.string nm, .slice A n c], .tuple #[.slice A n c, .int .i64 0], .slice A n c, .int .i64 0, .int .i64 0, .bool false, undef, .slice A n c, .slice Ad n cd, .slice A n c, .slice Ap n1 cp, .func (.func 55) #[] #[.pointer (some ⟨w5.heap.size + 1, 0, none⟩)], .slice A n c, .int .i64 (n : Int), .int .i64 (h : Int), .bool true, .int .i64 (h : Int), .func (.func 55) #[] #[.pointer (some ⟨w5.heap.size + 1, 0, none⟩)], .int .i64 (h : Int), .func (.func 100) #[] #[.pointer (some ⟨wl.heap.size + 2, 0, none⟩)], u 35, u 36, u 37, u 38, u 39, u 40, u 41, u 42, u 43, u 44, u 45, .slice Ab mb cb, .int .i64 (mb : Int), .bool false, .slice Ab mb cb, .func (.func 55) #[] #[.pointer (some ⟨w5.heap.size + 1, 0, none⟩)], .func (.func 58) #[] #[.pointer (some ⟨wl.heap.size, 0, none⟩), .pointer (some ⟨w5.heap.size, 0, none⟩)], .map (some gm), u 53, .int .i64 (h : Int), u 55, u 56, u 57, u 58, u 59, u 60, u 61, u 62], defers := markR R :: Ds.map markR } Z1 := by
          refine (hG _ _ _ _).2 ?_
          refine wpAnyIn_ready (rs := [0, 2, 3]) (by kernel_rfl) (by simp) ?_
          refine AllReadyIn.cons rfl (fun K hK => ?_) (AllReadyIn.cons rfl (fun K hK => ?_) (AllReadyIn.cons rfl (fun K hK => ?_) (AllReadyIn.nil)))
          · go_simp
            refine hK _ _ ?_
            clear hK K
            (try simp only [Act.put, List.setIfInBounds_toArray, List.set_cons_zero, List.set_cons_succ])
            exact (hG _ _ _ _).1 hr110000000
          · go_simp
            refine hK _ _ ?_
            clear hK K
            (try simp only [Act.put, List.setIfInBounds_toArray, List.set_cons_zero, List.set_cons_succ])
            exact (hG _ _ _ _).1 hr011000000
          · go_simp
            refine hK _ _ ?_
            clear hK K
            (try simp only [Act.put, List.setIfInBounds_toArray, List.set_cons_zero, List.set_cons_succ])
            exact (hG _ _ _ _).1 hr010100000
        have hr000100000 : G 8 #[false, false, false, true, false, false, false, false, false] { tmps := #[.agg #[.string nm, .slice A n c], .pointer (some ⟨w.heap.size, 0, none⟩), .slice none 0 0, .int .i64 0, .slice A n c, .int .i64 0, .pointer (some ⟨w5.heap.size, 0, none⟩), .pointer (some ⟨w5.heap.size + 1, 0, none⟩), v, .func (.func 55) #[] #[.pointer (some ⟨w5.heap.size + 1, 0, none⟩)], .pointer (some ⟨wl.heap.size, 0, none⟩), .pointer (some ⟨wl.heap.size + 1, 0, none⟩), u 12, .map (some gm), .tuple #[.slice A n c, .int .i64 0], .agg #[.string nm, .slice A n c], .tuple #[.slice A n c, .int .i64 0], .slice A n c, .int .i64 0, .int .i64 0, .bool false, undef, .slice A n c, .slice Ad n cd, .slice A n c, .slice Ap n1 cp, .func (.func 55) #[] #[.pointer (some ⟨w5.heap.size + 1, 0, none⟩)], .slice A n c, .int .i64 (n : Int), .int .i64 (h : Int), .bool true, .int .i64 (h : Int), .func (.func 55) #[] #[.pointer (some ⟨w5.heap.size + 1, 0, none⟩)], .int .i64 (h : Int), .func (.func 100) #[] #[.pointer (some ⟨wl.heap.size + 2, 0, none⟩)], u 35, u 36, u 37, u 38, u 39, u 40, u 41, u 42, u 43, u 44, u 45, .slice Ab mb cb, .int .i64 (mb : Int), .bool false, .slice Ab mb cb, .func (.func 55) #[] #[.pointer (some ⟨w5.heap.size + 1, 0, none⟩)], .func (.func 58) #[] #[.pointer (some ⟨wl.heap.size, 0, none⟩), .pointer (some ⟨w5.heap.size, 0, none⟩)], .map (some gm), u 53, u 54, u 55, .map (some gm), u 57, u 58, u 59, u 60, u 61, u 62], defers := markR R :: Ds.map markR } Z1 := by
          refine (hG _ _ _ _).2 ?_
          refine wpAnyIn_ready (rs := [0, 1, 4]) (by kernel_rfl) (by simp) ?_
          refine AllReadyIn.cons rfl (fun K hK => ?_) (AllReadyIn.cons rfl (fun K hK => ?_) (AllReadyIn.cons rfl (fun K hK => ?_) (AllReadyIn.nil)))
          · go_simp
            refine hK _ _ ?_
            clear hK K
            (try simp only [Act.put, List.setIfInBounds_toArray, List.set_cons_zero, List.set_cons_succ])
            exact (hG _ _ _ _).1 hr100100000
          · go_simp
            refine hK _ _ ?_
            clear hK K
            (try simp only [Act.put, List.setIfInBounds_toArray, List.set_cons_zero, List.set_cons_succ])
            exact (hG _ _ _ _).1 hr010100000
          · go_simp
            gi_wp2_with fail
            refine ⟨trivial, (callsIn_wide.2 HS0.out).mono ?_⟩
            rintro e W5 ⟨A7, c7, rfl, hr7, hb7⟩
            refine hK _ _ ?_
            clear hK K
            (try simp only [Act.put, List.setIfInBounds_toArray, List.set_cons_zero, List.set_cons_succ])
            exact (hG _ _ _ _).1 (hr000110000 _ _ _ (L5.out _ _ _ hr7 hb7))
        have hr000000000 : G 9 #[false, false, false, false, false, false, false, false, false] { tmps := #[.agg #[.string nm, .slice A n c], .pointer (some ⟨w.heap.size, 0, none⟩), .slice none 0 0, .int .i64 0, .slice A n c, .int .i64 0, .pointer (some ⟨w5.heap.size, 0, none⟩), .pointer (some ⟨w5.heap.size + 1, 0, none⟩), v, .func (.func 55) #[] #[.pointer (some ⟨w5.heap.size + 1, 0, none⟩)], .pointer (some ⟨wl.heap.size, 0, none⟩), .pointer (some ⟨wl.heap.size + 1, 0, none⟩), u 12, .map (some gm), .tuple #[.slice A n c, .int .i64 0], .agg #[.string nm, .slice A n c], .tuple #[.slice A n c, .int .i64 0], .slice A n c, .int .i64 0, .int .i64 0, .bool false, undef, .slice A n c, .slice Ad n cd, .slice A n c, .slice Ap n1 cp, .func (.func 55) #[] #[.pointer (some ⟨w5.heap.size + 1, 0, none⟩)], .slice A n c, .int .i64 (n : Int), .int .i64 (h : Int), .bool true, .int .i64 (h : Int), .func (.func 55) #[] #[.pointer (some ⟨w5.heap.size + 1, 0, none⟩)], .int .i64 (h : Int), .func (.func 100) #[] #[.pointer (some ⟨wl.heap.size + 2, 0, none⟩)], u 35, u 36, u 37, u 38, u 39, u 40, u 41, u 42, u 43, u 44, u 45, .slice Ab mb cb, .int .i64 (mb : Int), .bool false, .slice Ab mb cb, .func (.func 55) #[] #[.pointer (some ⟨w5.heap.size + 1, 0, none⟩)], .func (.func 58) #[] #[.pointer (some ⟨wl.heap.size, 0, none⟩), .pointer (some ⟨w5.heap.size, 0, none⟩)], .map (some gm), u 53, u 54, u 55, u 56, u 57, u 58, u 59, u 60, u 61, u 62], defers := markR R :: Ds.map markR } Z1 := by
          refine (hG _ _ _ _).2 ?_
          refine wpAnyIn_ready (rs := [0, 1, 3]) (by kernel_rfl) (by simp) ?_
          refine AllReadyIn.cons rfl (fun K hK => ?_) (AllReadyIn.cons rfl (fun K hK => ?_) (AllReadyIn.cons rfl (fun K hK => ?_) (AllReadyIn.nil)))
          · go_simp
            refine hK _ _ ?_
            clear hK K
            (try simp only [Act.put, List.setIfInBounds_toArray, List.set_cons_zero, List.set_cons_succ])
            exact (hG _ _ _ _).1 hr100000000
          · go_simp
            refine hK _ _ ?_
            clear hK K
            (try simp only [Act.put, List.setIfInBounds_toArray, List.set_cons_zero, List.set_cons_succ])
            exact (hG _ _ _ _).1 hr010000000
          · go_simp
            refine hK _ _ ?_
            clear hK K
            (try simp only [Act.put, List.setIfInBounds_toArray, List.set_cons_zero, List.set_cons_succ])
            exact (hG _ _ _ _).1 hr000100000
        exact hr000000000
  · obtain rfl : h = n := by omega
    gi_wp2
    refine leaveR (B := V.heap.size) (K := fun X => LoSt V h (sc C) h v X) (fun X D hD hd hK => hK.keepR hd hD) (fun X hK => ?_) Ds wl HO.out.2.1 HO.out.2.2 HO.out.1 HS.out
    obtain ⟨⟨vs, h1, h2⟩, h3⟩ := hK
    obtain ⟨A7, c7, hv, hrl⟩ := RdL.ofOwn h1 h2
    subst hv
    exact ⟨_, results_tmp2 rfl _ _ _, A7, c7, rfl, hrl, belowThen HBW.out (belowThen HBV.out h3)⟩
end Go.Proofs.YtpkagpobobmnfaaGreatDoor
