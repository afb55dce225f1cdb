/-
  The contract of liveBefore.
-/
import Derived.Test.YtkanamdfjegcbaaDoorCLf3
import Derived.BigRegionIn
namespace Go.Proofs.YtkanamdfjegcbaaDoor
open Go Go.RowKit Go.Shelf
attribute [local go_sem] Oper.semAt_some

theorem infoSet : (Tryd.prog.info? 79).map (fun i => (i.zero, i.size, i.bytes)) = some (some (.map none), 1, 8) := by kernel_rfl
theorem makeS9 (N : Nat) (hN : N ≤ 1048576) (w : World) : (Instr.makeSlice 76 (.int .i64 N) (.int .i64 N)).run Tryd.prog w = .ok (.slice (some ⟨w.heap.size, 0, none⟩) N N) (w.alloc (.cells (madeCells #[.map none] N) 79)) := by
  obtain ⟨i, hi, hz, hs, hb⟩ := info_parts infoSet
  have h := run_make (P := Tryd.prog) w 76 79 i (.map none) Tryd.underlying76 hi hz .i64 .i64 N N (by omega) (by omega) (by rw [hb]; omega) (by omega)
  rw [hs] at h
  simpa [Value.cells] using h
theorem mergeAnyL {F : Fence} {n : Nat} {P : Program} {md : Region.Mode} {ops : Array Oper} {Q : Exit → Act → World → Prop} {f : Nat} {l : Array Bool} {a : Act} {w : World} (h : ∀ G : Nat → Array Bool → Act → World → Prop, (∀ f l a w, G f l a w ↔ wpAnyIn F n P md ops Q f l a w) → G f l a w) : wpAnyIn F n P md ops Q f l a w :=
  h (wpAnyIn F n P md ops Q) fun _ _ _ _ => Iff.rfl
/-- The table that the call gives. -/
def GivesTab (C : List I8) (ex : Bool) (n : Nat) (w : World) (e : Ending) (w' : World) : Prop := ∃ Ab cb, e = .returned (.slice Ab (n + 1) cb) ∧ RdE 1 ESet w' Ab cb (tL (lvB C ex) (n + 1)) ∧ Below w.heap.size w w'
set_option maxRecDepth 100000 in
set_option maxHeartbeats 40000000 in
set_option linter.unusedSimpArgs false in
theorem iLiveB (C : List I8) (hok : CfOk C) (n : Nat) (hn : C.length = n) (hwf : ∀ i ∈ C, i.Wf) (ex : Bool) (v : Value) (A : Option Addr) (c : Nat) (w : World) (hs : RdE 9 EStep w A c (stL C n)) (hl : Laid7 w) (hv : SetV w v (fun r => ex && rgB r)) :
    Calls Tryd.prog 39 #[.slice A n c, v] w (GivesTab C ex n w) := by
  obtain ⟨mb, rfl⟩ : ∃ mb, v = .map mb := by
    rcases hv with ⟨rfl, _⟩ | ⟨b, m, rfl, _⟩
    · exact ⟨_, rfl⟩
    · exact ⟨_, rfl⟩
  have h64 := hok.len
  have hle := hs.le
  have hmx := hs.max
  rw [stLLen] at hle
  rw [hn] at h64
  unfold maxLen at hmx
  obtain ⟨n1, hn1⟩ : ∃ n1, n + 1 = n1 := ⟨_, rfl⟩
  have hwn : IntKind.i64.wrap ((n : Int) + 1) = (n1 : Int) := by rw [IntKind.wrap_i64]; omega
  have hmk := makeS9 n1 (by omega)
  have HST := Lib.hid (fun X (hX : Below w.heap.size w X) => hs.below stabStep hX)
  have HLD := Lib.hid (fun X (hX : Below w.heap.size w X) => hl.below hX)
  have HOK := Lib.hid hok
  have HN := Lib.hid hn
  have HWF := Lib.hid hwf
  have HN1 := Lib.hid hn1
  have HLE := Lib.hid (fun k y (hy : y ∈ sc C k) => (scLe hok hy).2)
  obtain ⟨X1, hX1⟩ : ∃ X1, w.alloc (.cells #[.slice A n c] 73) = X1 := ⟨_, rfl⟩
  obtain ⟨X3, hX3⟩ : ∃ X3, (X1.alloc (.cells (madeCells #[.map none] n1) 79)).alloc (.cells #[.slice (some ⟨w.heap.size + 1, 0, none⟩) n1 n1] 76) = X3 := ⟨_, rfl⟩
  have hz1 : X1.heap.size = w.heap.size + 1 := by rw [← hX1]; simp
  have hrow3 : X3.ownsRow 0 79 1 (.slice (some ⟨w.heap.size + 1, 0, none⟩) n1 n1) n1 (List.replicate n1 (.map none)) := by
    have h : (X1.alloc (.cells (madeCells #[.map none] n1) 79)).ownsRow 0 79 1 (.slice (some ⟨w.heap.size + 1, 0, none⟩) n1 n1) n1 (List.replicate n1 (.map none)) :=
      ⟨by simp, .inr ⟨w.heap.size + 1, n1, madeCells #[.map none] n1, rfl, Nat.zero_le _, by rw [← hz1]; exact heap_alloc_new X1 _, Nat.le_refl _, by unfold maxLen; omega, by rw [← Array.length_toList, toList_madeCells_one]; simp, by rw [toList_madeCells_one]; simp⟩⟩
    rw [← hX3]
    exact ownChg h (Chg.ofBelow (belowAlloc _ _) fun _ => True) fun _ _ => trivial
  have hb13 : Below X1.heap.size X1 X3 := by rw [← hX3]; exact belowThen (belowAlloc X1 _) (belowAlloc _ _)
  have hx1 : Boxed X1 w.heap.size 73 (.slice A n c) := by rw [← hX1]; exact Boxed.new w _ _
  have hx3 : Boxed X3 w.heap.size 73 (.slice A n c) := (hb13.block _ hx1.lt).trans hx1
  have hx5 : Boxed X3 (w.heap.size + 2) 76 (.slice (some ⟨w.heap.size + 1, 0, none⟩) n1 n1) := by
    rw [← hX3]
    have h := Boxed.new (X1.alloc (.cells (madeCells #[.map none] n1) 79)) 76 (.slice (some ⟨w.heap.size + 1, 0, none⟩) n1 n1)
    rw [World.size_alloc, hz1] at h
    exact h
  have hz3 : X3.heap.size = w.heap.size + 3 := by rw [← hX3]; simp [hz1]
  have hbw : Below w.heap.size w X3 := by
    have h1 : Below w.heap.size w X1 := by rw [← hX1]; exact belowAlloc w _
    exact belowThen h1 hb13
  obtain ⟨V, hV⟩ : ∃ V, X3.setCell ⟨w.heap.size + 1, n, none⟩ (.map mb) = V := ⟨_, rfl⟩
  have hcg : Chg X3 V (fun q => q ≠ w.heap.size + 1) := by rw [← hV]; exact chgSet X3 _ _
  have hvV : SetV V (.map mb) (fun r => ex && rgB r) := ((hv.below hbw)).chgBy hcg fun q o ho hoc _ e => by
    subst e
    obtain ⟨o', h8, h9⟩ := cellsOf hrow3
    rw [ho] at h8
    injection h8 with h8
    subst h8
    rw [hoc] at h9; cases h9
  have HS0 : Hid (LbSt C ex n w A c (fun k r => decide (k = C.length) && (ex && rgB r)) V) := Lib.hid (by
    have hst := (World.ownsRow.stored hrow3 n (.map mb)).1
    rw [hV] at hst
    refine ⟨⟨(List.replicate n1 (.map none)).set n (.map mb), by rw [List.length_set, List.length_replicate, hn1], by rw [hn1]; exact hst, fun j hj => ?_⟩, (hcg.block _ hx3.lt (by show _ ≠ _; omega)).trans hx3, by rw [hn1]; exact (hcg.block _ hx5.lt (by show _ ≠ _; omega)).trans hx5, lfStart, ⟨hcg.os.trans hbw.os, hcg.tape.trans hbw.tape, hcg.output.trans hbw.output, Nat.le_trans hbw.size hcg.size, fun q hq => (hcg.block q (Nat.lt_of_lt_of_le hq hbw.size) (by show _ ≠ _; omega)).trans (hbw.block q hq)⟩⟩
    by_cases e : j = n
    · subst e
      refine ⟨.map mb, by rw [List.getElem?_set_self (by rw [List.length_replicate]; omega)], hvV.congr fun x => ?_⟩
      show _ = (decide (j = C.length) && (ex && rgB x))
      rw [hn, decide_eq_true rfl, Bool.true_and]
    · refine ⟨.map none, by rw [List.getElem?_set_ne (fun h => e h.symm), List.getElem?_replicate, if_pos (by omega)], .inl ⟨rfl, fun x => ?_⟩⟩
      show (decide (j = C.length) && (ex && rgB x)) = false; rw [hn, decide_eq_false e, Bool.false_and])
  have q1 := hx1.cell
  have q3 := hx3.cell
  have q5 := hx5.cell
  have qn : X3.cell? ⟨w.heap.size + 1, n, none⟩ = some (.map none) := (World.ownsRow.cellAt hrow3 n (by omega)).trans (by rw [List.getElem?_replicate, if_pos (by omega)])
  have qf : X3.frozen? ⟨w.heap.size + 1, n, none⟩ = false := World.ownsRow.frozenAt hrow3 n
  have hn0 : (0 : Int) ≤ n := by omega
  have hnn : (n : Int) < n1 := by omega
  have HZV : Hid (V.heap.size = w.heap.size + 3) := Lib.hid (by rw [← hV]; simp [hz3])
  have hback := @iBack
  have HBK := Lib.hid (fun X => hback n A c X)
  have hst0 := HST.out w (Below.refl _ _)
  obtain ⟨fa, fm, fc, hsf⟩ := StF.slices hst0
  have HSF := Lib.hid (fun X (hX : Below w.heap.size w X) => hsf.below hX)
  have hqA : 0 < n → blkS A ≤ w.heap.size := fun h0 => by
    obtain ⟨q, off, hA, hq, _⟩ := hsf h0
    subst hA
    show q ≤ _
    omega
  have HQA := Lib.hid hqA
  have hge : ∀ args w, (callFunc 105 args).run Tryd.prog w = .ok (.enter 105 args) w := enters_of Tryd.func105 (by kernel_rfl) rfl
  clear hok hn hwf hs hl hv hn1 hrow3 hb13 hx1 hx3 hx5 hz1 hz3 hbw hcg hvV hback hst0 hsf hqA
  refine (callsIn_wide (n := 8)).1 ?_
  refine callsIn_of_wp_marks Tryd.func39 rfl trivial ?_ rfl
  simp only [Tryd.ntmps39, List.size_toArray, List.length_cons, List.length_nil, Nat.reduceAdd, Nat.reduceSub, Array.replicate_succ, Array.replicate_zero, List.push_toArray, List.append_toArray, List.nil_append, List.cons_append]
  subst hX3
  subst hX1
  rw [World.setCell_alloc_past _ _ _ _ (by simp), World.setCell_alloc_at _ _ _ _ _ (by simp)] at hV
  have HVE := Lib.hid hV
  clear hV
  gi_wp2_with fail
  rw [HVE.out]
  clear q1 q3 q5 qn qf hmk HVE hwn
  obtain ⟨INV, hINV⟩ : ∃ INV : Act → World → Prop, INV = (fun a' X => ∃ (u : Nat → Value) (Ds : List Nat) (bc : Nat) (cb : Bool) (T : Nat → Int → Bool), a' = { tmps := #[.slice A n c, .map mb, .pointer (some ⟨w.heap.size, 0, none⟩), undef, .slice none 0 0, .pointer (some ⟨w.heap.size + 2, 0, none⟩), .pointer (some ⟨bc, 0, none⟩), u 7, u 8, u 9, u 10, u 11, u 12, u 13, .slice A n c, .int .i64 (n : Int), .int .i64 (n1 : Int), .slice (some ⟨w.heap.size + 1, 0, none⟩) n1 n1, .slice (some ⟨w.heap.size + 1, 0, none⟩) n1 n1, .slice A n c, .int .i64 (n : Int), .map mb, .pointer (some ⟨w.heap.size + 1, n, none⟩), u 23, u 24, u 25, u 26, u 27, u 28, u 29, u 30, u 31, u 32, u 33, u 34, u 35, u 36, u 37, u 38, u 39, u 40, u 41, u 42, u 43, u 44, u 45, u 46, u 47, u 48, u 49, u 50, u 51, u 52, u 53, u 54, u 55, u 56, u 57, u 58, u 59, u 60, u 61, u 62, u 63, u 64, u 65], defers := Ds.map markR } ∧ Hid (LbSt C ex n w A c T X) ∧ Hid (Boxed X bc 4 (.bool cb) ∧ w.heap.size + 3 ≤ bc) ∧ Hid (cb = false → ∀ k r, k < n → lfF C T k r = true → T k r = true) ∧ Hid (OpenR Ds X ∧ Ds.Nodup ∧ ∀ D ∈ Ds, w.heap.size ≤ D)) := ⟨_, rfl⟩
  obtain ⟨MU, hMU⟩ : ∃ MU : Act → World → Nat, MU = (fun a' X => 2 * (8 * n - szT X (w.heap.size + 1) n) + chV X (a'.tmps.getD 6 undef)) := ⟨_, rfl⟩
  have HINV := Lib.hid hINV
  have HMU := Lib.hid hMU
  clear hINV hMU
  refine wpIn_loop INV MU ?_ ?_
  · rw [HINV.out]
    have hbx := Boxed.new V 4 (.bool true)
    rw [HZV.out] at hbx
    exact ⟨fun _ => undef, [], w.heap.size + 3, true, _, rfl, Lib.hid (HS0.out.below (belowAlloc V _)), Lib.hid ⟨hbx, Nat.le_refl _⟩, Lib.hid (fun h => by cases h), Lib.hid ⟨(fun _ h => by cases h), List.nodup_nil, (fun _ h => by cases h)⟩⟩
  clear HS0
  intro a' wl hi
  rw [HINV.out] at hi
  obtain ⟨u, Ds, bc, cb, T, rfl, HS, HBC, HFX, HO⟩ := hi
  have t2 := HS.out.b2.cell
  have t5 := HS.out.b5.cell
  have t6 := HBC.out.1.cell
  cases cb with
  | false =>
    rw [HN1.out] at t5
    gi_wp2
    refine leaveR (B := w.heap.size) (K := fun X => LbSt C ex n w A c T X) (fun X D hD hd hK => hK.grow (grownBy_putObj' X D _) fun q e => by cases e; exact ⟨hD, _, hd, rfl, rfl⟩) (fun X hK => ?_) Ds wl HO.out.2.1 HO.out.2.2 HO.out.1 HS.out
    have hrd := hK.rd (by omega)
    have hlv : tL T (n + 1) = tL (lvB C ex) (n + 1) := by
      unfold tL
      refine List.map_congr_left fun j hj => funext fun r => ?_
      have hj := List.mem_range.1 hj
      exact lfEnd hK.tb (fun k r hk => (show ∀ k r, k < n → lfF C T k r = true → T k r = true by first | exact HFX.out rfl | exact HFX.out trivial) k r (by have := HN.out; omega)) (by have := HN.out; omega) HLE.out r
    rw [hlv] at hrd
    rw [← HN1.out]
    exact ⟨_, results_tmp rfl _ _ _, _, _, rfl, hrd, hK.bel⟩
  | true =>
    have f6 := HBC.out.1.frozen
    obtain ⟨X1, hX1⟩ : ∃ X1, wl.setCell ⟨bc, 0, none⟩ (.bool false) = X1 := ⟨_, rfl⟩
    have hz1 : X1.heap.size = wl.heap.size := by rw [← hX1]; simp
    have hc1 : Chg wl X1 (fun q => q ≠ bc) := by rw [← hX1]; exact chgSet wl _ _
    have hS1 : LbSt C ex n w A c T X1 := by rw [← hX1]; exact HS.out.other HBC.out.2 HBC.out.1 _
    have hb1 : Boxed X1 bc 4 (.bool false) := by rw [← hX1]; exact HBC.out.1.set _
    have hO1 : OpenR Ds X1 := HO.out.1.chg hc1 fun D hD => HO.out.1.notCells hD HBC.out.1 rfl
    have t2r := hS1.b2.cell
    rw [← hX1] at t2r
    have HBX := Lib.hid (HBK.out X1)
    have HX1 := Lib.hid hX1
    have HS1 := Lib.hid hS1
    have HB1 := Lib.hid hb1
    have HO1 := Lib.hid hO1
    have HZ1 := Lib.hid hz1
    have hzw := HS.out.sz
    have hzD : ∀ D ∈ Ds, D < wl.heap.size := fun D hD => HO.out.1.lt hD
    have HZD := Lib.hid hzD
    clear hX1 hz1 hc1 hS1 hb1 hO1 hzD
    gi_wp2_with fail
    rw [HX1.out]
    refine ⟨trivial, (callsIn_wide.2 HBX.out).mono ?_⟩
    rintro e Y ⟨rfl, hY⟩
    rw [HZ1.out]
    have hbY : Below X1.heap.size X1 Y := by rw [hY]; exact belowAlloc X1 _
    have hzY : Y.heap.size = wl.heap.size + 1 := by rw [hY]; simp [HZ1.out]
    have hcY : Y.cell? ⟨wl.heap.size, 0, none⟩ = some (.slice A n c) := by
      have h := (Boxed.new X1 73 (.slice A n c)).cell
      rw [HZ1.out] at h
      rw [hY]; exact h
    have hSY := HS1.out.below hbY
    have HSQ := Lib.hid (backSeq C n A c wl.heap.size _ Y (HSF.out Y hSY.bel) hle (by unfold maxLen; omega) hcY 7 (by omega))
    have HP0 : Hid (LbIn C ex n w A c T bc Ds [] Y) := Lib.hid ⟨⟨T, false, hSY, (hbY.block _ HB1.out.lt).trans HB1.out, fun _ => ⟨rfl, fun _ h => by cases h⟩, Nat.le_refl _, fun e => (by cases e)⟩, HO1.out.chg (Chg.ofBelow hbY fun _ => True) fun _ _ => trivial, HBC.out.2⟩
    have HZY := Lib.hid hzY
    have HBY := Lib.hid hbY
    have HYE := Lib.hid hY
    clear hbY hzY hcY hSY hY t2 t2r t5 t6 f6
    gi_wp2
    refine rangeClosQ (F := Fence.wide) (n := 8) rfl (by omega) (gf := 105) (lb := #[.pointer (some ⟨wl.heap.size, 0, none⟩)]) rfl trivial hge (encs := encB C (fun k => .slice (fa k) (fm k) (fc k))) (Kp := Keep2 wl.heap.size (blkS A)) (L := (List.range n).reverse) (w0 := Y) HSQ.out (fun h k => h.trans k) (fun W l o o' _ h hc _ => Keep2.put _ _ W l o o' h hc) (Below.refl _ _) (fun _ => rfl)
      (fun ps X => LbIn C ex n w A c T bc Ds ps X) (fun _ _ _ => False) ?hI (fun _ _ _ _ _ h => h.elim) HP0.out
      (fun X x => { tmps := #[.slice A n c, .map mb, .pointer (some ⟨w.heap.size, 0, none⟩), undef, .slice none 0 0, .pointer (some ⟨w.heap.size + 2, 0, none⟩), .pointer (some ⟨bc, 0, none⟩), .int .i64 (x : Int), .pointer (some ⟨X.heap.size, 0, none⟩), u 9, u 10, u 11, u 12, u 13, .slice A n c, .int .i64 (n : Int), .int .i64 (n1 : Int), .slice (some ⟨w.heap.size + 1, 0, none⟩) n1 n1, .slice (some ⟨w.heap.size + 1, 0, none⟩) n1 n1, .slice A n c, .int .i64 (n : Int), .map mb, .pointer (some ⟨w.heap.size + 1, n, none⟩), .bool true, .slice A n c, .func (.func 105) #[] #[.pointer (some ⟨wl.heap.size, 0, none⟩)], .int .i64 (x : Int), .agg #[.int .i64 (C.getD x I8.zero).op, .int .i64 (C.getD x I8.zero).a, .int .i64 (C.getD x I8.zero).b, .int .i64 (C.getD x I8.zero).c, .int .i64 (C.getD x I8.zero).obj, .int .i64 (C.getD x I8.zero).n, .int .i64 (C.getD x I8.zero).fn, .int .i64 (C.getD x I8.zero).ord, .slice (fa x) (fm x) (fc x)], u 28, u 29, u 30, u 31, u 32, u 33, u 34, u 35, u 36, u 37, u 38, u 39, u 40, u 41, u 42, u 43, u 44, u 45, u 46, u 47, u 48, u 49, u 50, u 51, u 52, u 53, u 54, u 55, u 56, u 57, u 58, u 59, u 60, u 61, u 62, u 63, u 64, u 65], defers := [] }) (fun x W => W.alloc (.cells #[.int .i64 (C.getD x I8.zero).op, .int .i64 (C.getD x I8.zero).a, .int .i64 (C.getD x I8.zero).b, .int .i64 (C.getD x I8.zero).c, .int .i64 (C.getD x I8.zero).obj, .int .i64 (C.getD x I8.zero).n, .int .i64 (C.getD x I8.zero).fn, .int .i64 (C.getD x I8.zero).ord, .slice (fa x) (fm x) (fc x)] 86)) (fun _ W => World.grownBy_alloc W _ none) (fun _ W => (keepBelow (B := 0) (belowAlloc W _)).2) ?assign ?body ?done (fun _ _ _ _ _ h _ => h.elim)
    case assign =>
      intro l x X K hK
      simp only [encB, stC]
      obtain ⟨ii, hii⟩ : ∃ ii, C.getD x I8.zero = ii := ⟨_, rfl⟩
      rw [hii]
      have HII := Lib.hid hii
      clear hii
      gi_wp2
      have hii := HII.out
      subst hii
      exact hK
    case hI =>
      rintro ps X X' row hi hgr hr
      exact hi.own hgr hr (by have := HZY.out; omega) fun D hD => by have := HZY.out; have := HZD.out D hD; omega
    case done =>
      rintro R X hR hi hK2
      obtain ⟨⟨T2, cb2, h1, h2, h3, h4, h5⟩, h6, h7⟩ := hi
      have t6 := h2.cell
      have HNEW := Lib.hid (h1.below (belowAlloc X (.cells #[.bool cb2] 4)))
      have HOD : Hid (OpenR (R :: Ds) (X.alloc (.cells #[.bool cb2] 4)) ∧ (R :: Ds).Nodup ∧ ∀ D ∈ R :: Ds, w.heap.size ≤ D) := Lib.hid (by
        have hzy := HZY.out
        refine ⟨fun D hD => ?_, List.nodup_cons.2 ⟨fun h => ?_, HO.out.2.1⟩, fun D hD => ?_⟩
        · rcases List.mem_cons.1 hD with rfl | hD
          · exact ((belowAlloc X _).block _ (Array.getElem?_eq_some_iff.1 hK2).1).trans hK2
          · exact (h6.chg (Chg.ofBelow (belowAlloc X _) fun _ => True) fun _ _ => trivial) D hD
        · have := HZD.out R h; omega
        · rcases List.mem_cons.1 hD with rfl | hD
          · omega
          · exact HO.out.2.2 D hD)
      have HBN := Lib.hid (Boxed.new X 4 (.bool cb2))
      have HZN : Hid (w.heap.size + 3 ≤ X.heap.size) := Lib.hid (by have := h2.lt; omega)
      have HFN : Hid (cb2 = false → ∀ k r, k < n → lfF C T2 k r = true → T2 k r = true) := Lib.hid fun e => by
        obtain ⟨rfl, h8⟩ := h3 e
        exact fun k r hk => h8 k (by rw [List.mem_reverse, List.mem_range]; exact hk) r
      have hm0 := HS.out.szT HOK.out HN.out
      have hm1 := HNEW.out.szT HOK.out HN.out
      have hm2 := tSLe (T := T2) (n := n)
      have HM : Hid (2 * (8 * n - szT (X.alloc (.cells #[.bool cb2] 4)) (w.heap.size + 1) n) + chV (X.alloc (.cells #[.bool cb2] 4)) (.pointer (some ⟨X.heap.size, 0, none⟩)) < 2 * (8 * n - szT wl (w.heap.size + 1) n) + chV wl (.pointer (some ⟨bc, 0, none⟩))) := Lib.hid (by
        have e1 := chBox HBC.out.1
        have e2 := chBox HBN.out
        rw [hm0, hm1, e1, e2]
        cases cb2 with
        | false => simp; omega
        | true => have := h5 rfl; simp; omega)
      clear h1 h2 h3 h4 h5 h6 h7 hm0 hm1 hm2 hR hK2
      gi_wp2
      refine ⟨?_, ?_⟩
      · rw [HINV.out]
        exact ⟨fun i => (#[u 0, u 1, u 2, u 3, u 4, u 5, u 6, u 7, u 8, u 9, u 10, u 11, u 12, u 13, u 14, u 15, u 16, u 17, u 18, u 19, u 20, u 21, u 22, .bool true, .slice A n c, .func (.func 105) #[] #[.pointer (some ⟨wl.heap.size, 0, none⟩)], u 26, u 27, u 28, u 29, u 30, u 31, u 32, u 33, u 34, u 35, u 36, u 37, u 38, u 39, u 40, u 41, u 42, u 43, u 44, u 45, u 46, u 47, u 48, u 49, u 50, u 51, u 52, u 53, u 54, u 55, u 56, u 57, u 58, u 59, u 60, u 61, u 62, u 63, .bool cb2, u 65] : Array Value).getD i undef, R :: Ds, X.heap.size, cb2, T2, rfl, HNEW, Lib.hid ⟨HBN.out, HZN.out⟩, HFN, HOD⟩
      · rw [HMU.out]
        exact HM.out
    case body =>
      rintro l ps x rest X U hLL hi hwl hlX ⟨rr, hU⟩
      have hxn : x < n := by
        have h : x ∈ (List.range n).reverse := by rw [hLL]; simp
        rw [List.mem_reverse, List.mem_range] at h
        exact h
      have hbx : Blk U X.heap.size 86 #[.int .i64 (C.getD x I8.zero).op, .int .i64 (C.getD x I8.zero).a, .int .i64 (C.getD x I8.zero).b, .int .i64 (C.getD x I8.zero).c, .int .i64 (C.getD x I8.zero).obj, .int .i64 (C.getD x I8.zero).n, .int .i64 (C.getD x I8.zero).fn, .int .i64 (C.getD x I8.zero).ord, .slice (fa x) (fm x) (fc x)] := by
        rw [hU]
        exact (World.putObj_heap_other (by omega)).trans (heap_alloc_new X _)
      have hxC : x < C.length := by rw [HN.out]; exact hxn
      have hgd := getDAt hxC
      obtain ⟨ii, hii⟩ : ∃ ii, C.getD x I8.zero = ii := ⟨_, rfl⟩
      dsimp only
      rw [hii] at hbx hgd ⊢
      have hwfi : ii.Wf := hgd ▸ HWF.out C[x] (List.getElem_mem hxC)
      have hdf : ii.dfB = true → rgB ii.dfR = true := fun h => by rw [hgd] at h ⊢; exact dfRg HOK.out hxC h
      have hus : ∀ r, r ∈ ii.uses → rgB r = true := fun r h => by rw [hgd] at h; exact useRg HOK.out hxC h
      have hful : ii.uses.length ≤ 2 := useLen ii
      clear hii hLL hU
      obtain ⟨⟨T', cb', h1, h2, h3, h4, h5⟩, h6, h7⟩ := hi
      have hmade : ∀ r, (((sc C x).any fun y => T' y r) && !(ii.dfB && decide (r = ii.dfR)) || decide (r ∈ ii.uses)) = lfF C T' x r := fun r => by rw [hgd]; exact lfMade hxC r
      obtain ⟨op, ra, rb, rc, obj, m, fn, ord⟩ := ii
      simp only at hbx
      obtain ⟨R, hR⟩ : ∃ R, (I8.mk8 op ra rb rc obj m fn ord).dfR = R := ⟨_, rfl⟩
      obtain ⟨p, hp⟩ : ∃ p, (I8.mk8 op ra rb rc obj m fn ord).dfB = p := ⟨_, rfl⟩
      obtain ⟨us, hu⟩ : ∃ us, (I8.mk8 op ra rb rc obj m fn ord).uses = us := ⟨_, rfl⟩
      rw [hR, hp, hu] at hmade
      rw [hR, hp] at hdf
      rw [hu] at hus hful
      have HJ : Hid (∀ Z, Below U.heap.size U Z → Z.cell? ⟨X.heap.size, 0, none⟩ = some (.int .i64 op) ∧ Z.cell? ⟨X.heap.size, 1, none⟩ = some (.int .i64 ra) ∧ Z.cell? ⟨X.heap.size, 2, none⟩ = some (.int .i64 rb) ∧ Z.cell? ⟨X.heap.size, 3, none⟩ = some (.int .i64 rc) ∧ Z.cell? ⟨X.heap.size, 4, none⟩ = some (.int .i64 obj) ∧ Z.cell? ⟨X.heap.size, 5, none⟩ = some (.int .i64 m) ∧ Z.cell? ⟨X.heap.size, 6, none⟩ = some (.int .i64 fn) ∧ Z.cell? ⟨X.heap.size, 7, none⟩ = some (.int .i64 ord)) := Lib.hid fun Z hZ => by
        have h := hbx.below' hZ
        exact ⟨h.cell 0, h.cell 1, h.cell 2, h.cell 3, h.cell 4, h.cell 5, h.cell 6, h.cell 7⟩
      have HLS := Lib.hid (fun Z (hZ : Below U.heap.size U Z) => h1.below hZ)
      have HBB := Lib.hid (fun Z (hZ : Below U.heap.size U Z) => ((hZ.block _ h2.lt).trans h2 : Boxed Z bc 4 (.bool cb')))
      have HOP := Lib.hid (fun Z (hZ : Below U.heap.size U Z) => h6.chg (Chg.ofBelow hZ fun _ => True) fun _ _ => trivial)
      have HWU := Lib.hid (fun Z (hZ : Below U.heap.size U Z) => belowThen h1.bel hZ)
      have HK5 : Hid (∀ Z, Below U.heap.size U Z → Z.cell? ⟨w.heap.size + 2, 0, none⟩ = some (.slice (some ⟨w.heap.size + 1, 0, none⟩) n1 n1)) := Lib.hid fun Z hZ => by
        have h := (h1.below hZ).b5.cell
        rw [HN1.out] at h
        exact h
      have HAF := Lib.hid (iAfterL C n x hxn (fun y hy => by have := HLE.out x y hy; have := HN.out; omega) T' (fun j hj => h1.tb.regs HOK.out HN.out hj) A c (some ⟨w.heap.size + 1, 0, none⟩) (n + 1) U (HST.out U h1.bel) (h1.rd (by omega)))
      rw [HN1.out] at HAF
      have HDF := Lib.hid (fun Z (hZ : Below w.heap.size w Z) => iDefs (I8.mk8 op ra rb rc obj m fn ord) R p hR hp hwfi Z (HLD.out Z hZ).ins (HLD.out Z hZ).nm)
      have HUS := Lib.hid (fun Z (hZ : Below w.heap.size w Z) => iUses (I8.mk8 op ra rb rc obj m fn ord) us hu hwfi Z (HLD.out Z hZ).ins (HLD.out Z hZ).nm)
      have HRT := Lib.hid (h1.tb.regs HOK.out HN.out (Nat.le_of_lt hxn))
      have HMD := Lib.hid hmade
      have HDG := Lib.hid hdf
      have HUG := Lib.hid hus
      have HT' := Lib.hid h1.tb
      have H3 := Lib.hid h3
      have H4 := Lib.hid h4
      have H5 := Lib.hid h5
      have hb0 := Below.refl U.heap.size U
      have x2 := h1.b2.cell
      have x5 := HK5.out U hb0
      have hsU := h1.sz
      have hx0 : (0 : Int) ≤ x := by omega
      have hx1 : (x : Int) < n1 := by have := HN1.out; omega
      clear h1 h2 h3 h4 h5 h6 hmade hdf hus hbx hgd hwfi hR hp hu
      gi_wp2_with fail
      refine ⟨trivial, (CallsIn.inRound l (callsIn_wide.2 HAF.out)).mono ?_⟩
      rintro e W2 ⟨b, rfl, hm2, hb2, hlb⟩
      obtain ⟨j0, j1, j2, j3, j4, j5, j6, j7⟩ := HJ.out W2 hb2
      have HD2 := Lib.hid (HDF.out W2 (HWU.out W2 hb2))
      have HM2 := Lib.hid hm2
      have HB2 := Lib.hid hb2
      have HLB := Lib.hid hlb
      clear hm2 hb2 hlb
      gi_wp2_with fail
      refine ⟨trivial, (CallsIn.inRound l (callsIn_wide.2 HD2.out)).mono ?_⟩
      rintro e W3 ⟨rfl, hb3⟩
      have HB3 := Lib.hid (belowThen HB2.out hb3)
      have HM3 := Lib.hid (HM2.out.below hb3)
      clear hb3 j0 j1 j2 j3 j4 j5 j6 j7
      obtain ⟨j0, j1, j2, j3, j4, j5, j6, j7⟩ := HJ.out W3 HB3.out
      cases p with
      | false =>
        have HB4 := HB3
        have HM4 : Hid (SetM W3 b 100 (fun r => ((sc C x).any fun y => T' y r) && !(false && decide (r = R)))) := Lib.hid (HM3.out.congr fun r => by simp)
        clear HB3 HM3 HB2 HM2 j0 j1 j2 j3 j4 j5 j6 j7
        obtain ⟨j0, j1, j2, j3, j4, j5, j6, j7⟩ := HJ.out _ HB4.out
        have HU4 := Lib.hid (HUS.out _ (HWU.out _ HB4.out))
        obtain ⟨S2, hS2⟩ : ∃ S2 : Int → Bool, (fun r => ((sc C x).any fun y => T' y r) && !(false && decide (r = R))) = S2 := ⟨_, rfl⟩
        rw [hS2] at HM4
        have HS2 : Hid (∀ r, (S2 r || decide (r ∈ us)) = lfF C T' x r) := Lib.hid fun r => by rw [← hS2]; exact HMD.out r
        clear hS2
        gi_wp2_with fail
        refine ⟨trivial, (CallsIn.inRound l (callsIn_wide.2 HU4.out)).mono ?_⟩
        rintro e W5 ⟨A7, c7, rfl, hr7, hb5⟩
        have HB5 := Lib.hid (belowThen HB4.out hb5)
        have HM5 : Hid (SetM W5 b (100 + 0) (fun r => S2 r || decide (r ∈ us.take 0))) := Lib.hid ((HM4.out.below hb5).congr fun r => by simp)
        have hle7 := hr7.le
        have hmx7 := hr7.max
        unfold maxLen at hmx7
        obtain ⟨m7, hm7⟩ : ∃ m7, us.length = m7 := ⟨_, rfl⟩
        rw [hm7] at hle7 hful ⊢
        have HM7 := Lib.hid hm7
        have HR5 := Lib.hid hr7
        clear hr7 hb5 hm7 j0 j1 j2 j3 j4 j5 j6 j7
        gi_wp2_with fail
        gi_loopw [45] (fun v Z => ∃ j : Nat, j ≤ m7 ∧ v = .int .i64 j ∧ Hid (SetM Z b (100 + j) (fun r => S2 r || decide (r ∈ us.take j))) ∧ Hid (Rd Z A7 c7 us) ∧ Hid (Below U.heap.size U Z)) (fun v _ => m7 - (intOf v).toNat)
        case atStart => exact ⟨0, Nat.zero_le _, rfl, HM5, HR5, HB5⟩
        case round =>
          clear HM5 HR5 HB5 HM4 HB4 HU4
          obtain ⟨j, hj, rfl, HM, HR, HB⟩ := hrel
          by_cases hjm : j < m7
          · have hjl : j < us.length := by rw [HM7.out]; exact hjm
            obtain ⟨ad, eA, _, hcj⟩ := HR.out.one hjl
            have hrg := HUG.out us[j] (List.getElem_mem hjl)
            obtain ⟨y, hy⟩ : ∃ y, us[j] = y := ⟨_, rfl⟩
            rw [hy] at hcj hrg
            have HTK := Lib.hid (fun r => tkMem (S := S2 r) hjl hy r)
            obtain ⟨Z2, hst, hms, hgs⟩ := HM.out.store (by omega) hrg
            have hne := rdNotMap HR.out HM.out
            have HMN := Lib.hid ((hms.mono (n' := 100 + (j + 1)) (by omega)).congr fun r => HTK.out r)
            have HRN := Lib.hid (Rd.chg HR.out (Chg.ofGrown (F := fun q => q ≠ b) hgs.grown fun q hq e => hq (Option.some.inj e).symm) hne)
            have HBN := Lib.hid (HB.out.grown hgs.grown HB.out.size fun q hq => by have := HLB.out; injection hq with hq; omega)
            subst eA
            have hj0 : (0 : Int) ≤ j := by omega
            have hj1 : (j : Int) < m7 := by omega
            clear hms hgs hne hrg hy
            gi_wp2_with fail
            go_roundw
            case rel => exact ⟨j + 1, by omega, by go_num, HMN, HRN, HBN⟩
            case measure => simp [intOf]; omega
          · obtain rfl : j = m7 := by omega
            have htk : us.take j = us := List.take_of_length_le (by rw [HM7.out]; exact Nat.le_refl _)
            rw [htk] at HM
            obtain ⟨Z1, hZ1⟩ : ∃ Z1, wr.drew = Z1 := ⟨_, rfl⟩
            have hbZ : Below U.heap.size U Z1 := by rw [← hZ1]; exact HB.out.drew
            have hmZ : SetM Z1 b 200 (lfF C T' x) := by
              rw [← hZ1]
              exact ((HM.out.below (Below.refl _ wr).drew).mono (by omega)).congr fun r => HS2.out r
            have hrS : Regs (lfF C T' x) := lfRegs HOK.out HN.out HLE.out HT'.out hxn
            have hl1 := fun ty => hmZ.len hrS ty
            have hLZ := HLS.out Z1 hbZ
            obtain ⟨vk, hck, hsk⟩ := hLZ.cell (j := x) (by omega)
            have hl2 := fun ty => hsk.len HRT.out ty
            have hck0 := hck
            have x5 := HK5.out Z1 hbZ
            have fk := hLZ.frozen x
            have hbb : Boxed Z1 bc 4 (.bool cb') := HBB.out Z1 hbZ
            have hgc := cellsOf hLZ.row.choose_spec.2.1
            have hsb : Boxed (Z1.setCell ⟨w.heap.size + 1, x, none⟩ (.map (some b))) bc 4 (.bool cb') := ((chgSet Z1 ⟨w.heap.size + 1, x, none⟩ (.map (some b))).block _ hbb.lt (show bc ≠ w.heap.size + 1 by omega)).trans hbb
            have y1 := hsb.cell
            have y2 := hsb.frozen
            have hblt := HBC.out.1.lt
            have hkb := keepBelow (B := Y.heap.size) (q1 := wl.heap.size) (q2 := blkS A) hbZ
            have hq2 := HQA.out (by omega)
            obtain ⟨q1, hq1⟩ : ∃ q1, (rgL (lfF C T' x)).length = q1 := ⟨_, rfl⟩
            obtain ⟨q2, hq2'⟩ : ∃ q2, (rgL (T' x)).length = q2 := ⟨_, rfl⟩
            have HYES : Hid (q2 < q1 → KeepsFrom Y.heap.size U ((Z1.setCell ⟨w.heap.size + 1, x, none⟩ (.map (some b))).setCell ⟨bc, 0, none⟩ (.bool true)) ∧ Keep2 wl.heap.size (blkS A) U ((Z1.setCell ⟨w.heap.size + 1, x, none⟩ (.map (some b))).setCell ⟨bc, 0, none⟩ (.bool true)) ∧ LbIn C ex n w A c T bc Ds (ps ++ [x]) ((Z1.setCell ⟨w.heap.size + 1, x, none⟩ (.map (some b))).setCell ⟨bc, 0, none⟩ (.bool true))) := Lib.hid fun hlt => by
              obtain ⟨k1, k2⟩ := keepSets (g := w.heap.size + 1) (k := x) (bc := bc) (u := .map (some b)) (u' := .bool true) hkb hgc ⟨_, hbb, rfl⟩ ⟨by omega, by omega⟩ ⟨by omega, by omega⟩
              exact ⟨k1, k2, LbIn.grew HN.out HLE.out hLZ hbb H4.out (HOP.out Z1 hbZ) h7 hxn hmZ (by omega) (fun _ => rfl) (by rw [hq1, hq2']; exact hlt)⟩
            have HNO : Hid (¬ q2 < q1 → KeepsFrom Y.heap.size U Z1 ∧ Keep2 wl.heap.size (blkS A) U Z1 ∧ LbIn C ex n w A c T bc Ds (ps ++ [x]) Z1) := Lib.hid fun hlt => by
              refine ⟨hkb.1, hkb.2, ⟨⟨T', cb', hLZ, hbb, fun e => ?_, H4.out, H5.out⟩, HOP.out Z1 hbZ, h7⟩⟩
              obtain ⟨e1, h8⟩ := H3.out e
              refine ⟨e1, fun k hk r hr => ?_⟩
              rcases List.mem_append.1 hk with hk | hk
              · exact h8 k hk r hr
              · rw [List.mem_singleton] at hk
                subst hk
                rw [← e1] at hr ⊢
                exact rgSame (fun r h => HT'.out.inc k r (by have := HN.out; omega) h) hrS (by omega) hr
            rw [hq1] at hl1
            rw [hq2'] at hl2
            clear hbZ hmZ hrS hLZ hsk hbb hgc hsb hkb hq2 hq1 hq2' htk HM HR
            gi_wp2_with fail
            refine wpIn_region_any (by kernel_rfl) ?_
            change wpAnyIn _ _ _ _ _ _ _ _ _ (World.drew _)
            rw [hZ1]
            clear hZ1
            refine mergeAnyL fun G hG => ?_
            have hs11111111 : G 0 #[true, true, true, true, true, true, true, true] { tmps := #[.slice A n c, .map mb, .pointer (some ⟨w.heap.size, 0, none⟩), undef, .slice none 0 0, .pointer (some ⟨w.heap.size + 2, 0, none⟩), .pointer (some ⟨bc, 0, none⟩), .int .i64 (x : Int), .pointer (some ⟨X.heap.size, 0, none⟩), .map (some b), .int .i64 R, .bool false, u 12, u13, .slice A n c, .int .i64 (n : Int), .int .i64 (n1 : Int), .slice (some ⟨w.heap.size + 1, 0, none⟩) n1 n1, .slice (some ⟨w.heap.size + 1, 0, none⟩) n1 n1, .slice A n c, .int .i64 (n : Int), .map mb, .pointer (some ⟨w.heap.size + 1, n, none⟩), .bool true, .slice A n c, .func (.func 105) #[] #[.pointer (some ⟨wl.heap.size, 0, none⟩)], .int .i64 (x : Int), .agg #[.int .i64 op, .int .i64 ra, .int .i64 rb, .int .i64 rc, .int .i64 obj, .int .i64 m, .int .i64 fn, .int .i64 ord, .slice (fa x) (fm x) (fc x)], .slice A n c, .int .i64 (x : Int), .slice (some ⟨w.heap.size + 1, 0, none⟩) n1 n1, .map (some b), .tuple #[.int .i64 R, .bool false], .pointer (some ⟨X.heap.size, 0, none⟩), .agg #[.int .i64 op, .int .i64 ra, .int .i64 rb, .int .i64 rc, .int .i64 obj, .int .i64 m, .int .i64 fn, .int .i64 ord], .tuple #[.int .i64 R, .bool false], .int .i64 R, .bool false, .bool false, u 39, u 40, .pointer (some ⟨X.heap.size, 0, none⟩), .agg #[.int .i64 op, .int .i64 ra, .int .i64 rb, .int .i64 rc, .int .i64 obj, .int .i64 m, .int .i64 fn, .int .i64 ord], .slice A7 j c7, .int .i64 (j : Int), .int .i64 (j : Int), .bool false, u47, u48, u49, u50, u51, .map (some b), .int .i64 (q1 : Int), .slice (some ⟨w.heap.size + 1, 0, none⟩) n1 n1, .int .i64 (x : Int), .pointer (some ⟨w.heap.size + 1, x, none⟩), vk, .int .i64 (q2 : Int), .bool (decide (q2 < q1)), u 60, u 61, u 62, u 63, u 64, u 65], defers := [] } Z1 := by
              refine (hG _ _ _ _).2 ?_
              refine wpAnyIn_done (by kernel_rfl) ?_ _
              by_cases hlt : q2 < q1
              · have hd : decide (q2 < q1) = true := decide_eq_true hlt
                rw [hd]
                have HYS := HYES.out hlt
                gi_wp2
                exact HYS
              · have hd : decide (q2 < q1) = false := decide_eq_false hlt
                rw [hd]
                have HNS := HNO.out hlt
                gi_wp2
                exact HNS
            have hs11111110 : G 1 #[true, true, true, true, true, true, true, false] { tmps := #[.slice A n c, .map mb, .pointer (some ⟨w.heap.size, 0, none⟩), undef, .slice none 0 0, .pointer (some ⟨w.heap.size + 2, 0, none⟩), .pointer (some ⟨bc, 0, none⟩), .int .i64 (x : Int), .pointer (some ⟨X.heap.size, 0, none⟩), .map (some b), .int .i64 R, .bool false, u 12, u13, .slice A n c, .int .i64 (n : Int), .int .i64 (n1 : Int), .slice (some ⟨w.heap.size + 1, 0, none⟩) n1 n1, .slice (some ⟨w.heap.size + 1, 0, none⟩) n1 n1, .slice A n c, .int .i64 (n : Int), .map mb, .pointer (some ⟨w.heap.size + 1, n, none⟩), .bool true, .slice A n c, .func (.func 105) #[] #[.pointer (some ⟨wl.heap.size, 0, none⟩)], .int .i64 (x : Int), .agg #[.int .i64 op, .int .i64 ra, .int .i64 rb, .int .i64 rc, .int .i64 obj, .int .i64 m, .int .i64 fn, .int .i64 ord, .slice (fa x) (fm x) (fc x)], .slice A n c, .int .i64 (x : Int), .slice (some ⟨w.heap.size + 1, 0, none⟩) n1 n1, .map (some b), .tuple #[.int .i64 R, .bool false], .pointer (some ⟨X.heap.size, 0, none⟩), .agg #[.int .i64 op, .int .i64 ra, .int .i64 rb, .int .i64 rc, .int .i64 obj, .int .i64 m, .int .i64 fn, .int .i64 ord], .tuple #[.int .i64 R, .bool false], .int .i64 R, .bool false, .bool false, u 39, u 40, .pointer (some ⟨X.heap.size, 0, none⟩), .agg #[.int .i64 op, .int .i64 ra, .int .i64 rb, .int .i64 rc, .int .i64 obj, .int .i64 m, .int .i64 fn, .int .i64 ord], .slice A7 j c7, .int .i64 (j : Int), .int .i64 (j : Int), .bool false, u47, u48, u49, u50, u51, .map (some b), .int .i64 (q1 : Int), .slice (some ⟨w.heap.size + 1, 0, none⟩) n1 n1, .int .i64 (x : Int), .pointer (some ⟨w.heap.size + 1, x, none⟩), vk, .int .i64 (q2 : Int), u 59, u 60, u 61, u 62, u 63, u 64, u 65], defers := [] } Z1 := by
              refine (hG _ _ _ _).2 ?_
              refine wpAnyIn_ready (rs := [7]) (by kernel_rfl) (by simp) ?_
              refine AllReadyIn.cons rfl (fun K hK => ?_) (AllReadyIn.nil)
              · go_simp
                refine hK _ _ ?_
                clear hK K
                (try simp only [Act.put, List.setIfInBounds_toArray, List.set_cons_zero, List.set_cons_succ])
                exact (hG _ _ _ _).1 hs11111111
            have hs11111100 : G 2 #[true, true, true, true, true, true, false, false] { tmps := #[.slice A n c, .map mb, .pointer (some ⟨w.heap.size, 0, none⟩), undef, .slice none 0 0, .pointer (some ⟨w.heap.size + 2, 0, none⟩), .pointer (some ⟨bc, 0, none⟩), .int .i64 (x : Int), .pointer (some ⟨X.heap.size, 0, none⟩), .map (some b), .int .i64 R, .bool false, u 12, u13, .slice A n c, .int .i64 (n : Int), .int .i64 (n1 : Int), .slice (some ⟨w.heap.size + 1, 0, none⟩) n1 n1, .slice (some ⟨w.heap.size + 1, 0, none⟩) n1 n1, .slice A n c, .int .i64 (n : Int), .map mb, .pointer (some ⟨w.heap.size + 1, n, none⟩), .bool true, .slice A n c, .func (.func 105) #[] #[.pointer (some ⟨wl.heap.size, 0, none⟩)], .int .i64 (x : Int), .agg #[.int .i64 op, .int .i64 ra, .int .i64 rb, .int .i64 rc, .int .i64 obj, .int .i64 m, .int .i64 fn, .int .i64 ord, .slice (fa x) (fm x) (fc x)], .slice A n c, .int .i64 (x : Int), .slice (some ⟨w.heap.size + 1, 0, none⟩) n1 n1, .map (some b), .tuple #[.int .i64 R, .bool false], .pointer (some ⟨X.heap.size, 0, none⟩), .agg #[.int .i64 op, .int .i64 ra, .int .i64 rb, .int .i64 rc, .int .i64 obj, .int .i64 m, .int .i64 fn, .int .i64 ord], .tuple #[.int .i64 R, .bool false], .int .i64 R, .bool false, .bool false, u 39, u 40, .pointer (some ⟨X.heap.size, 0, none⟩), .agg #[.int .i64 op, .int .i64 ra, .int .i64 rb, .int .i64 rc, .int .i64 obj, .int .i64 m, .int .i64 fn, .int .i64 ord], .slice A7 j c7, .int .i64 (j : Int), .int .i64 (j : Int), .bool false, u47, u48, u49, u50, u51, .map (some b), .int .i64 (q1 : Int), .slice (some ⟨w.heap.size + 1, 0, none⟩) n1 n1, .int .i64 (x : Int), .pointer (some ⟨w.heap.size + 1, x, none⟩), vk, u 58, u 59, u 60, u 61, u 62, u 63, u 64, u 65], defers := [] } Z1 := by
              refine (hG _ _ _ _).2 ?_
              refine wpAnyIn_ready (rs := [6]) (by kernel_rfl) (by simp) ?_
              refine AllReadyIn.cons rfl (fun K hK => ?_) (AllReadyIn.nil)
              · go_simp
                refine hK _ _ ?_
                clear hK K
                (try simp only [Act.put, List.setIfInBounds_toArray, List.set_cons_zero, List.set_cons_succ])
                exact (hG _ _ _ _).1 hs11111110
            have hs11111000 : G 3 #[true, true, true, true, true, false, false, false] { tmps := #[.slice A n c, .map mb, .pointer (some ⟨w.heap.size, 0, none⟩), undef, .slice none 0 0, .pointer (some ⟨w.heap.size + 2, 0, none⟩), .pointer (some ⟨bc, 0, none⟩), .int .i64 (x : Int), .pointer (some ⟨X.heap.size, 0, none⟩), .map (some b), .int .i64 R, .bool false, u 12, u13, .slice A n c, .int .i64 (n : Int), .int .i64 (n1 : Int), .slice (some ⟨w.heap.size + 1, 0, none⟩) n1 n1, .slice (some ⟨w.heap.size + 1, 0, none⟩) n1 n1, .slice A n c, .int .i64 (n : Int), .map mb, .pointer (some ⟨w.heap.size + 1, n, none⟩), .bool true, .slice A n c, .func (.func 105) #[] #[.pointer (some ⟨wl.heap.size, 0, none⟩)], .int .i64 (x : Int), .agg #[.int .i64 op, .int .i64 ra, .int .i64 rb, .int .i64 rc, .int .i64 obj, .int .i64 m, .int .i64 fn, .int .i64 ord, .slice (fa x) (fm x) (fc x)], .slice A n c, .int .i64 (x : Int), .slice (some ⟨w.heap.size + 1, 0, none⟩) n1 n1, .map (some b), .tuple #[.int .i64 R, .bool false], .pointer (some ⟨X.heap.size, 0, none⟩), .agg #[.int .i64 op, .int .i64 ra, .int .i64 rb, .int .i64 rc, .int .i64 obj, .int .i64 m, .int .i64 fn, .int .i64 ord], .tuple #[.int .i64 R, .bool false], .int .i64 R, .bool false, .bool false, u 39, u 40, .pointer (some ⟨X.heap.size, 0, none⟩), .agg #[.int .i64 op, .int .i64 ra, .int .i64 rb, .int .i64 rc, .int .i64 obj, .int .i64 m, .int .i64 fn, .int .i64 ord], .slice A7 j c7, .int .i64 (j : Int), .int .i64 (j : Int), .bool false, u47, u48, u49, u50, u51, .map (some b), .int .i64 (q1 : Int), .slice (some ⟨w.heap.size + 1, 0, none⟩) n1 n1, .int .i64 (x : Int), .pointer (some ⟨w.heap.size + 1, x, none⟩), u 57, u 58, u 59, u 60, u 61, u 62, u 63, u 64, u 65], defers := [] } Z1 := by
              refine (hG _ _ _ _).2 ?_
              refine wpAnyIn_ready (rs := [5]) (by kernel_rfl) (by simp) ?_
              refine AllReadyIn.cons rfl (fun K hK => ?_) (AllReadyIn.nil)
              · go_simp
                refine hK _ _ ?_
                clear hK K
                (try simp only [Act.put, List.setIfInBounds_toArray, List.set_cons_zero, List.set_cons_succ])
                exact (hG _ _ _ _).1 hs11111100
            have hs10111100 : G 3 #[true, false, true, true, true, true, false, false] { tmps := #[.slice A n c, .map mb, .pointer (some ⟨w.heap.size, 0, none⟩), undef, .slice none 0 0, .pointer (some ⟨w.heap.size + 2, 0, none⟩), .pointer (some ⟨bc, 0, none⟩), .int .i64 (x : Int), .pointer (some ⟨X.heap.size, 0, none⟩), .map (some b), .int .i64 R, .bool false, u 12, u13, .slice A n c, .int .i64 (n : Int), .int .i64 (n1 : Int), .slice (some ⟨w.heap.size + 1, 0, none⟩) n1 n1, .slice (some ⟨w.heap.size + 1, 0, none⟩) n1 n1, .slice A n c, .int .i64 (n : Int), .map mb, .pointer (some ⟨w.heap.size + 1, n, none⟩), .bool true, .slice A n c, .func (.func 105) #[] #[.pointer (some ⟨wl.heap.size, 0, none⟩)], .int .i64 (x : Int), .agg #[.int .i64 op, .int .i64 ra, .int .i64 rb, .int .i64 rc, .int .i64 obj, .int .i64 m, .int .i64 fn, .int .i64 ord, .slice (fa x) (fm x) (fc x)], .slice A n c, .int .i64 (x : Int), .slice (some ⟨w.heap.size + 1, 0, none⟩) n1 n1, .map (some b), .tuple #[.int .i64 R, .bool false], .pointer (some ⟨X.heap.size, 0, none⟩), .agg #[.int .i64 op, .int .i64 ra, .int .i64 rb, .int .i64 rc, .int .i64 obj, .int .i64 m, .int .i64 fn, .int .i64 ord], .tuple #[.int .i64 R, .bool false], .int .i64 R, .bool false, .bool false, u 39, u 40, .pointer (some ⟨X.heap.size, 0, none⟩), .agg #[.int .i64 op, .int .i64 ra, .int .i64 rb, .int .i64 rc, .int .i64 obj, .int .i64 m, .int .i64 fn, .int .i64 ord], .slice A7 j c7, .int .i64 (j : Int), .int .i64 (j : Int), .bool false, u47, u48, u49, u50, u51, .map (some b), u 53, .slice (some ⟨w.heap.size + 1, 0, none⟩) n1 n1, .int .i64 (x : Int), .pointer (some ⟨w.heap.size + 1, x, none⟩), vk, u 58, u 59, u 60, u 61, u 62, u 63, u 64, u 65], defers := [] } Z1 := by
              refine (hG _ _ _ _).2 ?_
              refine wpAnyIn_ready (rs := [1]) (by kernel_rfl) (by simp) ?_
              refine AllReadyIn.cons rfl (fun K hK => ?_) (AllReadyIn.nil)
              · go_simp
                refine hK _ _ ?_
                clear hK K
                (try simp only [Act.put, List.setIfInBounds_toArray, List.set_cons_zero, List.set_cons_succ])
                exact (hG _ _ _ _).1 hs11111100
            have hs11110000 : G 4 #[true, true, true, true, false, false, false, false] { tmps := #[.slice A n c, .map mb, .pointer (some ⟨w.heap.size, 0, none⟩), undef, .slice none 0 0, .pointer (some ⟨w.heap.size + 2, 0, none⟩), .pointer (some ⟨bc, 0, none⟩), .int .i64 (x : Int), .pointer (some ⟨X.heap.size, 0, none⟩), .map (some b), .int .i64 R, .bool false, u 12, u13, .slice A n c, .int .i64 (n : Int), .int .i64 (n1 : Int), .slice (some ⟨w.heap.size + 1, 0, none⟩) n1 n1, .slice (some ⟨w.heap.size + 1, 0, none⟩) n1 n1, .slice A n c, .int .i64 (n : Int), .map mb, .pointer (some ⟨w.heap.size + 1, n, none⟩), .bool true, .slice A n c, .func (.func 105) #[] #[.pointer (some ⟨wl.heap.size, 0, none⟩)], .int .i64 (x : Int), .agg #[.int .i64 op, .int .i64 ra, .int .i64 rb, .int .i64 rc, .int .i64 obj, .int .i64 m, .int .i64 fn, .int .i64 ord, .slice (fa x) (fm x) (fc x)], .slice A n c, .int .i64 (x : Int), .slice (some ⟨w.heap.size + 1, 0, none⟩) n1 n1, .map (some b), .tuple #[.int .i64 R, .bool false], .pointer (some ⟨X.heap.size, 0, none⟩), .agg #[.int .i64 op, .int .i64 ra, .int .i64 rb, .int .i64 rc, .int .i64 obj, .int .i64 m, .int .i64 fn, .int .i64 ord], .tuple #[.int .i64 R, .bool false], .int .i64 R, .bool false, .bool false, u 39, u 40, .pointer (some ⟨X.heap.size, 0, none⟩), .agg #[.int .i64 op, .int .i64 ra, .int .i64 rb, .int .i64 rc, .int .i64 obj, .int .i64 m, .int .i64 fn, .int .i64 ord], .slice A7 j c7, .int .i64 (j : Int), .int .i64 (j : Int), .bool false, u47, u48, u49, u50, u51, .map (some b), .int .i64 (q1 : Int), .slice (some ⟨w.heap.size + 1, 0, none⟩) n1 n1, .int .i64 (x : Int), u 56, u 57, u 58, u 59, u 60, u 61, u 62, u 63, u 64, u 65], defers := [] } Z1 := by
              refine (hG _ _ _ _).2 ?_
              refine wpAnyIn_ready (rs := [4]) (by kernel_rfl) (by simp) ?_
              refine AllReadyIn.cons rfl (fun K hK => ?_) (AllReadyIn.nil)
              · go_simp
                refine hK _ _ ?_
                clear hK K
                (try simp only [Act.put, List.setIfInBounds_toArray, List.set_cons_zero, List.set_cons_succ])
                exact (hG _ _ _ _).1 hs11111000
            have hs10111000 : G 4 #[true, false, true, true, true, false, false, false] { tmps := #[.slice A n c, .map mb, .pointer (some ⟨w.heap.size, 0, none⟩), undef, .slice none 0 0, .pointer (some ⟨w.heap.size + 2, 0, none⟩), .pointer (some ⟨bc, 0, none⟩), .int .i64 (x : Int), .pointer (some ⟨X.heap.size, 0, none⟩), .map (some b), .int .i64 R, .bool false, u 12, u13, .slice A n c, .int .i64 (n : Int), .int .i64 (n1 : Int), .slice (some ⟨w.heap.size + 1, 0, none⟩) n1 n1, .slice (some ⟨w.heap.size + 1, 0, none⟩) n1 n1, .slice A n c, .int .i64 (n : Int), .map mb, .pointer (some ⟨w.heap.size + 1, n, none⟩), .bool true, .slice A n c, .func (.func 105) #[] #[.pointer (some ⟨wl.heap.size, 0, none⟩)], .int .i64 (x : Int), .agg #[.int .i64 op, .int .i64 ra, .int .i64 rb, .int .i64 rc, .int .i64 obj, .int .i64 m, .int .i64 fn, .int .i64 ord, .slice (fa x) (fm x) (fc x)], .slice A n c, .int .i64 (x : Int), .slice (some ⟨w.heap.size + 1, 0, none⟩) n1 n1, .map (some b), .tuple #[.int .i64 R, .bool false], .pointer (some ⟨X.heap.size, 0, none⟩), .agg #[.int .i64 op, .int .i64 ra, .int .i64 rb, .int .i64 rc, .int .i64 obj, .int .i64 m, .int .i64 fn, .int .i64 ord], .tuple #[.int .i64 R, .bool false], .int .i64 R, .bool false, .bool false, u 39, u 40, .pointer (some ⟨X.heap.size, 0, none⟩), .agg #[.int .i64 op, .int .i64 ra, .int .i64 rb, .int .i64 rc, .int .i64 obj, .int .i64 m, .int .i64 fn, .int .i64 ord], .slice A7 j c7, .int .i64 (j : Int), .int .i64 (j : Int), .bool false, u47, u48, u49, u50, u51, .map (some b), u 53, .slice (some ⟨w.heap.size + 1, 0, none⟩) n1 n1, .int .i64 (x : Int), .pointer (some ⟨w.heap.size + 1, x, none⟩), u 57, u 58, u 59, u 60, u 61, u 62, u 63, u 64, u 65], defers := [] } Z1 := by
              refine (hG _ _ _ _).2 ?_
              refine wpAnyIn_ready (rs := [1, 5]) (by kernel_rfl) (by simp) ?_
              refine AllReadyIn.cons rfl (fun K hK => ?_) (AllReadyIn.cons rfl (fun K hK => ?_) (AllReadyIn.nil))
              · go_simp
                refine hK _ _ ?_
                clear hK K
                (try simp only [Act.put, List.setIfInBounds_toArray, List.set_cons_zero, List.set_cons_succ])
                exact (hG _ _ _ _).1 hs11111000
              · go_simp
                refine hK _ _ ?_
                clear hK K
                (try simp only [Act.put, List.setIfInBounds_toArray, List.set_cons_zero, List.set_cons_succ])
                exact (hG _ _ _ _).1 hs10111100
            have hs00111100 : G 4 #[false, false, true, true, true, true, false, false] { tmps := #[.slice A n c, .map mb, .pointer (some ⟨w.heap.size, 0, none⟩), undef, .slice none 0 0, .pointer (some ⟨w.heap.size + 2, 0, none⟩), .pointer (some ⟨bc, 0, none⟩), .int .i64 (x : Int), .pointer (some ⟨X.heap.size, 0, none⟩), .map (some b), .int .i64 R, .bool false, u 12, u13, .slice A n c, .int .i64 (n : Int), .int .i64 (n1 : Int), .slice (some ⟨w.heap.size + 1, 0, none⟩) n1 n1, .slice (some ⟨w.heap.size + 1, 0, none⟩) n1 n1, .slice A n c, .int .i64 (n : Int), .map mb, .pointer (some ⟨w.heap.size + 1, n, none⟩), .bool true, .slice A n c, .func (.func 105) #[] #[.pointer (some ⟨wl.heap.size, 0, none⟩)], .int .i64 (x : Int), .agg #[.int .i64 op, .int .i64 ra, .int .i64 rb, .int .i64 rc, .int .i64 obj, .int .i64 m, .int .i64 fn, .int .i64 ord, .slice (fa x) (fm x) (fc x)], .slice A n c, .int .i64 (x : Int), .slice (some ⟨w.heap.size + 1, 0, none⟩) n1 n1, .map (some b), .tuple #[.int .i64 R, .bool false], .pointer (some ⟨X.heap.size, 0, none⟩), .agg #[.int .i64 op, .int .i64 ra, .int .i64 rb, .int .i64 rc, .int .i64 obj, .int .i64 m, .int .i64 fn, .int .i64 ord], .tuple #[.int .i64 R, .bool false], .int .i64 R, .bool false, .bool false, u 39, u 40, .pointer (some ⟨X.heap.size, 0, none⟩), .agg #[.int .i64 op, .int .i64 ra, .int .i64 rb, .int .i64 rc, .int .i64 obj, .int .i64 m, .int .i64 fn, .int .i64 ord], .slice A7 j c7, .int .i64 (j : Int), .int .i64 (j : Int), .bool false, u47, u48, u49, u50, u51, u 52, u 53, .slice (some ⟨w.heap.size + 1, 0, none⟩) n1 n1, .int .i64 (x : Int), .pointer (some ⟨w.heap.size + 1, x, none⟩), vk, u 58, u 59, u 60, u 61, u 62, u 63, u 64, u 65], defers := [] } Z1 := by
              refine (hG _ _ _ _).2 ?_
              refine wpAnyIn_ready (rs := [0]) (by kernel_rfl) (by simp) ?_
              refine AllReadyIn.cons rfl (fun K hK => ?_) (AllReadyIn.nil)
              · go_simp
                refine hK _ _ ?_
                clear hK K
                (try simp only [Act.put, List.setIfInBounds_toArray, List.set_cons_zero, List.set_cons_succ])
                exact (hG _ _ _ _).1 hs10111100
            have hs11100000 : G 5 #[true, true, true, false, false, false, false, false] { tmps := #[.slice A n c, .map mb, .pointer (some ⟨w.heap.size, 0, none⟩), undef, .slice none 0 0, .pointer (some ⟨w.heap.size + 2, 0, none⟩), .pointer (some ⟨bc, 0, none⟩), .int .i64 (x : Int), .pointer (some ⟨X.heap.size, 0, none⟩), .map (some b), .int .i64 R, .bool false, u 12, u13, .slice A n c, .int .i64 (n : Int), .int .i64 (n1 : Int), .slice (some ⟨w.heap.size + 1, 0, none⟩) n1 n1, .slice (some ⟨w.heap.size + 1, 0, none⟩) n1 n1, .slice A n c, .int .i64 (n : Int), .map mb, .pointer (some ⟨w.heap.size + 1, n, none⟩), .bool true, .slice A n c, .func (.func 105) #[] #[.pointer (some ⟨wl.heap.size, 0, none⟩)], .int .i64 (x : Int), .agg #[.int .i64 op, .int .i64 ra, .int .i64 rb, .int .i64 rc, .int .i64 obj, .int .i64 m, .int .i64 fn, .int .i64 ord, .slice (fa x) (fm x) (fc x)], .slice A n c, .int .i64 (x : Int), .slice (some ⟨w.heap.size + 1, 0, none⟩) n1 n1, .map (some b), .tuple #[.int .i64 R, .bool false], .pointer (some ⟨X.heap.size, 0, none⟩), .agg #[.int .i64 op, .int .i64 ra, .int .i64 rb, .int .i64 rc, .int .i64 obj, .int .i64 m, .int .i64 fn, .int .i64 ord], .tuple #[.int .i64 R, .bool false], .int .i64 R, .bool false, .bool false, u 39, u 40, .pointer (some ⟨X.heap.size, 0, none⟩), .agg #[.int .i64 op, .int .i64 ra, .int .i64 rb, .int .i64 rc, .int .i64 obj, .int .i64 m, .int .i64 fn, .int .i64 ord], .slice A7 j c7, .int .i64 (j : Int), .int .i64 (j : Int), .bool false, u47, u48, u49, u50, u51, .map (some b), .int .i64 (q1 : Int), .slice (some ⟨w.heap.size + 1, 0, none⟩) n1 n1, u 55, u 56, u 57, u 58, u 59, u 60, u 61, u 62, u 63, u 64, u 65], defers := [] } Z1 := by
              refine (hG _ _ _ _).2 ?_
              refine wpAnyIn_ready (rs := [3]) (by kernel_rfl) (by simp) ?_
              refine AllReadyIn.cons rfl (fun K hK => ?_) (AllReadyIn.nil)
              · go_simp
                refine hK _ _ ?_
                clear hK K
                (try simp only [Act.put, List.setIfInBounds_toArray, List.set_cons_zero, List.set_cons_succ])
                exact (hG _ _ _ _).1 hs11110000
            have hs11010000 : G 5 #[true, true, false, true, false, false, false, false] { tmps := #[.slice A n c, .map mb, .pointer (some ⟨w.heap.size, 0, none⟩), undef, .slice none 0 0, .pointer (some ⟨w.heap.size + 2, 0, none⟩), .pointer (some ⟨bc, 0, none⟩), .int .i64 (x : Int), .pointer (some ⟨X.heap.size, 0, none⟩), .map (some b), .int .i64 R, .bool false, u 12, u13, .slice A n c, .int .i64 (n : Int), .int .i64 (n1 : Int), .slice (some ⟨w.heap.size + 1, 0, none⟩) n1 n1, .slice (some ⟨w.heap.size + 1, 0, none⟩) n1 n1, .slice A n c, .int .i64 (n : Int), .map mb, .pointer (some ⟨w.heap.size + 1, n, none⟩), .bool true, .slice A n c, .func (.func 105) #[] #[.pointer (some ⟨wl.heap.size, 0, none⟩)], .int .i64 (x : Int), .agg #[.int .i64 op, .int .i64 ra, .int .i64 rb, .int .i64 rc, .int .i64 obj, .int .i64 m, .int .i64 fn, .int .i64 ord, .slice (fa x) (fm x) (fc x)], .slice A n c, .int .i64 (x : Int), .slice (some ⟨w.heap.size + 1, 0, none⟩) n1 n1, .map (some b), .tuple #[.int .i64 R, .bool false], .pointer (some ⟨X.heap.size, 0, none⟩), .agg #[.int .i64 op, .int .i64 ra, .int .i64 rb, .int .i64 rc, .int .i64 obj, .int .i64 m, .int .i64 fn, .int .i64 ord], .tuple #[.int .i64 R, .bool false], .int .i64 R, .bool false, .bool false, u 39, u 40, .pointer (some ⟨X.heap.size, 0, none⟩), .agg #[.int .i64 op, .int .i64 ra, .int .i64 rb, .int .i64 rc, .int .i64 obj, .int .i64 m, .int .i64 fn, .int .i64 ord], .slice A7 j c7, .int .i64 (j : Int), .int .i64 (j : Int), .bool false, u47, u48, u49, u50, u51, .map (some b), .int .i64 (q1 : Int), u 54, .int .i64 (x : Int), u 56, u 57, u 58, u 59, u 60, u 61, u 62, u 63, u 64, u 65], defers := [] } Z1 := by
              refine (hG _ _ _ _).2 ?_
              refine wpAnyIn_ready (rs := [2]) (by kernel_rfl) (by simp) ?_
              refine AllReadyIn.cons rfl (fun K hK => ?_) (AllReadyIn.nil)
              · go_simp
                refine hK _ _ ?_
                clear hK K
                (try simp only [Act.put, List.setIfInBounds_toArray, List.set_cons_zero, List.set_cons_succ])
                exact (hG _ _ _ _).1 hs11110000
            have hs10110000 : G 5 #[true, false, true, true, false, false, false, false] { tmps := #[.slice A n c, .map mb, .pointer (some ⟨w.heap.size, 0, none⟩), undef, .slice none 0 0, .pointer (some ⟨w.heap.size + 2, 0, none⟩), .pointer (some ⟨bc, 0, none⟩), .int .i64 (x : Int), .pointer (some ⟨X.heap.size, 0, none⟩), .map (some b), .int .i64 R, .bool false, u 12, u13, .slice A n c, .int .i64 (n : Int), .int .i64 (n1 : Int), .slice (some ⟨w.heap.size + 1, 0, none⟩) n1 n1, .slice (some ⟨w.heap.size + 1, 0, none⟩) n1 n1, .slice A n c, .int .i64 (n : Int), .map mb, .pointer (some ⟨w.heap.size + 1, n, none⟩), .bool true, .slice A n c, .func (.func 105) #[] #[.pointer (some ⟨wl.heap.size, 0, none⟩)], .int .i64 (x : Int), .agg #[.int .i64 op, .int .i64 ra, .int .i64 rb, .int .i64 rc, .int .i64 obj, .int .i64 m, .int .i64 fn, .int .i64 ord, .slice (fa x) (fm x) (fc x)], .slice A n c, .int .i64 (x : Int), .slice (some ⟨w.heap.size + 1, 0, none⟩) n1 n1, .map (some b), .tuple #[.int .i64 R, .bool false], .pointer (some ⟨X.heap.size, 0, none⟩), .agg #[.int .i64 op, .int .i64 ra, .int .i64 rb, .int .i64 rc, .int .i64 obj, .int .i64 m, .int .i64 fn, .int .i64 ord], .tuple #[.int .i64 R, .bool false], .int .i64 R, .bool false, .bool false, u 39, u 40, .pointer (some ⟨X.heap.size, 0, none⟩), .agg #[.int .i64 op, .int .i64 ra, .int .i64 rb, .int .i64 rc, .int .i64 obj, .int .i64 m, .int .i64 fn, .int .i64 ord], .slice A7 j c7, .int .i64 (j : Int), .int .i64 (j : Int), .bool false, u47, u48, u49, u50, u51, .map (some b), u 53, .slice (some ⟨w.heap.size + 1, 0, none⟩) n1 n1, .int .i64 (x : Int), u 56, u 57, u 58, u 59, u 60, u 61, u 62, u 63, u 64, u 65], defers := [] } Z1 := by
              refine (hG _ _ _ _).2 ?_
              refine wpAnyIn_ready (rs := [1, 4]) (by kernel_rfl) (by simp) ?_
              refine AllReadyIn.cons rfl (fun K hK => ?_) (AllReadyIn.cons rfl (fun K hK => ?_) (AllReadyIn.nil))
              · go_simp
                refine hK _ _ ?_
                clear hK K
                (try simp only [Act.put, List.setIfInBounds_toArray, List.set_cons_zero, List.set_cons_succ])
                exact (hG _ _ _ _).1 hs11110000
              · go_simp
                refine hK _ _ ?_
                clear hK K
                (try simp only [Act.put, List.setIfInBounds_toArray, List.set_cons_zero, List.set_cons_succ])
                exact (hG _ _ _ _).1 hs10111000
            have hs00111000 : G 5 #[false, false, true, true, true, false, false, false] { tmps := #[.slice A n c, .map mb, .pointer (some ⟨w.heap.size, 0, none⟩), undef, .slice none 0 0, .pointer (some ⟨w.heap.size + 2, 0, none⟩), .pointer (some ⟨bc, 0, none⟩), .int .i64 (x : Int), .pointer (some ⟨X.heap.size, 0, none⟩), .map (some b), .int .i64 R, .bool false, u 12, u13, .slice A n c, .int .i64 (n : Int), .int .i64 (n1 : Int), .slice (some ⟨w.heap.size + 1, 0, none⟩) n1 n1, .slice (some ⟨w.heap.size + 1, 0, none⟩) n1 n1, .slice A n c, .int .i64 (n : Int), .map mb, .pointer (some ⟨w.heap.size + 1, n, none⟩), .bool true, .slice A n c, .func (.func 105) #[] #[.pointer (some ⟨wl.heap.size, 0, none⟩)], .int .i64 (x : Int), .agg #[.int .i64 op, .int .i64 ra, .int .i64 rb, .int .i64 rc, .int .i64 obj, .int .i64 m, .int .i64 fn, .int .i64 ord, .slice (fa x) (fm x) (fc x)], .slice A n c, .int .i64 (x : Int), .slice (some ⟨w.heap.size + 1, 0, none⟩) n1 n1, .map (some b), .tuple #[.int .i64 R, .bool false], .pointer (some ⟨X.heap.size, 0, none⟩), .agg #[.int .i64 op, .int .i64 ra, .int .i64 rb, .int .i64 rc, .int .i64 obj, .int .i64 m, .int .i64 fn, .int .i64 ord], .tuple #[.int .i64 R, .bool false], .int .i64 R, .bool false, .bool false, u 39, u 40, .pointer (some ⟨X.heap.size, 0, none⟩), .agg #[.int .i64 op, .int .i64 ra, .int .i64 rb, .int .i64 rc, .int .i64 obj, .int .i64 m, .int .i64 fn, .int .i64 ord], .slice A7 j c7, .int .i64 (j : Int), .int .i64 (j : Int), .bool false, u47, u48, u49, u50, u51, u 52, u 53, .slice (some ⟨w.heap.size + 1, 0, none⟩) n1 n1, .int .i64 (x : Int), .pointer (some ⟨w.heap.size + 1, x, none⟩), u 57, u 58, u 59, u 60, u 61, u 62, u 63, u 64, u 65], defers := [] } Z1 := by
              refine (hG _ _ _ _).2 ?_
              refine wpAnyIn_ready (rs := [0, 5]) (by kernel_rfl) (by simp) ?_
              refine AllReadyIn.cons rfl (fun K hK => ?_) (AllReadyIn.cons rfl (fun K hK => ?_) (AllReadyIn.nil))
              · go_simp
                refine hK _ _ ?_
                clear hK K
                (try simp only [Act.put, List.setIfInBounds_toArray, List.set_cons_zero, List.set_cons_succ])
                exact (hG _ _ _ _).1 hs10111000
              · go_simp
                refine hK _ _ ?_
                clear hK K
                (try simp only [Act.put, List.setIfInBounds_toArray, List.set_cons_zero, List.set_cons_succ])
                exact (hG _ _ _ _).1 hs00111100
            have hs11000000 : G 6 #[true, true, false, false, false, false, false, false] { tmps := #[.slice A n c, .map mb, .pointer (some ⟨w.heap.size, 0, none⟩), undef, .slice none 0 0, .pointer (some ⟨w.heap.size + 2, 0, none⟩), .pointer (some ⟨bc, 0, none⟩), .int .i64 (x : Int), .pointer (some ⟨X.heap.size, 0, none⟩), .map (some b), .int .i64 R, .bool false, u 12, u13, .slice A n c, .int .i64 (n : Int), .int .i64 (n1 : Int), .slice (some ⟨w.heap.size + 1, 0, none⟩) n1 n1, .slice (some ⟨w.heap.size + 1, 0, none⟩) n1 n1, .slice A n c, .int .i64 (n : Int), .map mb, .pointer (some ⟨w.heap.size + 1, n, none⟩), .bool true, .slice A n c, .func (.func 105) #[] #[.pointer (some ⟨wl.heap.size, 0, none⟩)], .int .i64 (x : Int), .agg #[.int .i64 op, .int .i64 ra, .int .i64 rb, .int .i64 rc, .int .i64 obj, .int .i64 m, .int .i64 fn, .int .i64 ord, .slice (fa x) (fm x) (fc x)], .slice A n c, .int .i64 (x : Int), .slice (some ⟨w.heap.size + 1, 0, none⟩) n1 n1, .map (some b), .tuple #[.int .i64 R, .bool false], .pointer (some ⟨X.heap.size, 0, none⟩), .agg #[.int .i64 op, .int .i64 ra, .int .i64 rb, .int .i64 rc, .int .i64 obj, .int .i64 m, .int .i64 fn, .int .i64 ord], .tuple #[.int .i64 R, .bool false], .int .i64 R, .bool false, .bool false, u 39, u 40, .pointer (some ⟨X.heap.size, 0, none⟩), .agg #[.int .i64 op, .int .i64 ra, .int .i64 rb, .int .i64 rc, .int .i64 obj, .int .i64 m, .int .i64 fn, .int .i64 ord], .slice A7 j c7, .int .i64 (j : Int), .int .i64 (j : Int), .bool false, u47, u48, u49, u50, u51, .map (some b), .int .i64 (q1 : Int), u 54, u 55, u 56, u 57, u 58, u 59, u 60, u 61, u 62, u 63, u 64, u 65], defers := [] } Z1 := by
              refine (hG _ _ _ _).2 ?_
              refine wpAnyIn_ready (rs := [2, 3]) (by kernel_rfl) (by simp) ?_
              refine AllReadyIn.cons rfl (fun K hK => ?_) (AllReadyIn.cons rfl (fun K hK => ?_) (AllReadyIn.nil))
              · go_simp
                refine hK _ _ ?_
                clear hK K
                (try simp only [Act.put, List.setIfInBounds_toArray, List.set_cons_zero, List.set_cons_succ])
                exact (hG _ _ _ _).1 hs11100000
              · go_simp
                refine hK _ _ ?_
                clear hK K
                (try simp only [Act.put, List.setIfInBounds_toArray, List.set_cons_zero, List.set_cons_succ])
                exact (hG _ _ _ _).1 hs11010000
            have hs10100000 : G 6 #[true, false, true, false, false, false, false, false] { tmps := #[.slice A n c, .map mb, .pointer (some ⟨w.heap.size, 0, none⟩), undef, .slice none 0 0, .pointer (some ⟨w.heap.size + 2, 0, none⟩), .pointer (some ⟨bc, 0, none⟩), .int .i64 (x : Int), .pointer (some ⟨X.heap.size, 0, none⟩), .map (some b), .int .i64 R, .bool false, u 12, u13, .slice A n c, .int .i64 (n : Int), .int .i64 (n1 : Int), .slice (some ⟨w.heap.size + 1, 0, none⟩) n1 n1, .slice (some ⟨w.heap.size + 1, 0, none⟩) n1 n1, .slice A n c, .int .i64 (n : Int), .map mb, .pointer (some ⟨w.heap.size + 1, n, none⟩), .bool true, .slice A n c, .func (.func 105) #[] #[.pointer (some ⟨wl.heap.size, 0, none⟩)], .int .i64 (x : Int), .agg #[.int .i64 op, .int .i64 ra, .int .i64 rb, .int .i64 rc, .int .i64 obj, .int .i64 m, .int .i64 fn, .int .i64 ord, .slice (fa x) (fm x) (fc x)], .slice A n c, .int .i64 (x : Int), .slice (some ⟨w.heap.size + 1, 0, none⟩) n1 n1, .map (some b), .tuple #[.int .i64 R, .bool false], .pointer (some ⟨X.heap.size, 0, none⟩), .agg #[.int .i64 op, .int .i64 ra, .int .i64 rb, .int .i64 rc, .int .i64 obj, .int .i64 m, .int .i64 fn, .int .i64 ord], .tuple #[.int .i64 R, .bool false], .int .i64 R, .bool false, .bool false, u 39, u 40, .pointer (some ⟨X.heap.size, 0, none⟩), .agg #[.int .i64 op, .int .i64 ra, .int .i64 rb, .int .i64 rc, .int .i64 obj, .int .i64 m, .int .i64 fn, .int .i64 ord], .slice A7 j c7, .int .i64 (j : Int), .int .i64 (j : Int), .bool false, u47, u48, u49, u50, u51, .map (some b), u 53, .slice (some ⟨w.heap.size + 1, 0, none⟩) n1 n1, u 55, u 56, u 57, u 58, u 59, u 60, u 61, u 62, u 63, u 64, u 65], defers := [] } Z1 := by
              refine (hG _ _ _ _).2 ?_
              refine wpAnyIn_ready (rs := [1, 3]) (by kernel_rfl) (by simp) ?_
              refine AllReadyIn.cons rfl (fun K hK => ?_) (AllReadyIn.cons rfl (fun K hK => ?_) (AllReadyIn.nil))
              · go_simp
                refine hK _ _ ?_
                clear hK K
                (try simp only [Act.put, List.setIfInBounds_toArray, List.set_cons_zero, List.set_cons_succ])
                exact (hG _ _ _ _).1 hs11100000
              · go_simp
                refine hK _ _ ?_
                clear hK K
                (try simp only [Act.put, List.setIfInBounds_toArray, List.set_cons_zero, List.set_cons_succ])
                exact (hG _ _ _ _).1 hs10110000
            have hs10010000 : G 6 #[true, false, false, true, false, false, false, false] { tmps := #[.slice A n c, .map mb, .pointer (some ⟨w.heap.size, 0, none⟩), undef, .slice none 0 0, .pointer (some ⟨w.heap.size + 2, 0, none⟩), .pointer (some ⟨bc, 0, none⟩), .int .i64 (x : Int), .pointer (some ⟨X.heap.size, 0, none⟩), .map (some b), .int .i64 R, .bool false, u 12, u13, .slice A n c, .int .i64 (n : Int), .int .i64 (n1 : Int), .slice (some ⟨w.heap.size + 1, 0, none⟩) n1 n1, .slice (some ⟨w.heap.size + 1, 0, none⟩) n1 n1, .slice A n c, .int .i64 (n : Int), .map mb, .pointer (some ⟨w.heap.size + 1, n, none⟩), .bool true, .slice A n c, .func (.func 105) #[] #[.pointer (some ⟨wl.heap.size, 0, none⟩)], .int .i64 (x : Int), .agg #[.int .i64 op, .int .i64 ra, .int .i64 rb, .int .i64 rc, .int .i64 obj, .int .i64 m, .int .i64 fn, .int .i64 ord, .slice (fa x) (fm x) (fc x)], .slice A n c, .int .i64 (x : Int), .slice (some ⟨w.heap.size + 1, 0, none⟩) n1 n1, .map (some b), .tuple #[.int .i64 R, .bool false], .pointer (some ⟨X.heap.size, 0, none⟩), .agg #[.int .i64 op, .int .i64 ra, .int .i64 rb, .int .i64 rc, .int .i64 obj, .int .i64 m, .int .i64 fn, .int .i64 ord], .tuple #[.int .i64 R, .bool false], .int .i64 R, .bool false, .bool false, u 39, u 40, .pointer (some ⟨X.heap.size, 0, none⟩), .agg #[.int .i64 op, .int .i64 ra, .int .i64 rb, .int .i64 rc, .int .i64 obj, .int .i64 m, .int .i64 fn, .int .i64 ord], .slice A7 j c7, .int .i64 (j : Int), .int .i64 (j : Int), .bool false, u47, u48, u49, u50, u51, .map (some b), u 53, u 54, .int .i64 (x : Int), u 56, u 57, u 58, u 59, u 60, u 61, u 62, u 63, u 64, u 65], defers := [] } Z1 := by
              refine (hG _ _ _ _).2 ?_
              refine wpAnyIn_ready (rs := [1, 2]) (by kernel_rfl) (by simp) ?_
              refine AllReadyIn.cons rfl (fun K hK => ?_) (AllReadyIn.cons rfl (fun K hK => ?_) (AllReadyIn.nil))
              · go_simp
                refine hK _ _ ?_
                clear hK K
                (try simp only [Act.put, List.setIfInBounds_toArray, List.set_cons_zero, List.set_cons_succ])
                exact (hG _ _ _ _).1 hs11010000
              · go_simp
                refine hK _ _ ?_
                clear hK K
                (try simp only [Act.put, List.setIfInBounds_toArray, List.set_cons_zero, List.set_cons_succ])
                exact (hG _ _ _ _).1 hs10110000
            have hs00110000 : G 6 #[false, false, true, true, false, false, false, false] { tmps := #[.slice A n c, .map mb, .pointer (some ⟨w.heap.size, 0, none⟩), undef, .slice none 0 0, .pointer (some ⟨w.heap.size + 2, 0, none⟩), .pointer (some ⟨bc, 0, none⟩), .int .i64 (x : Int), .pointer (some ⟨X.heap.size, 0, none⟩), .map (some b), .int .i64 R, .bool false, u 12, u13, .slice A n c, .int .i64 (n : Int), .int .i64 (n1 : Int), .slice (some ⟨w.heap.size + 1, 0, none⟩) n1 n1, .slice (some ⟨w.heap.size + 1, 0, none⟩) n1 n1, .slice A n c, .int .i64 (n : Int), .map mb, .pointer (some ⟨w.heap.size + 1, n, none⟩), .bool true, .slice A n c, .func (.func 105) #[] #[.pointer (some ⟨wl.heap.size, 0, none⟩)], .int .i64 (x : Int), .agg #[.int .i64 op, .int .i64 ra, .int .i64 rb, .int .i64 rc, .int .i64 obj, .int .i64 m, .int .i64 fn, .int .i64 ord, .slice (fa x) (fm x) (fc x)], .slice A n c, .int .i64 (x : Int), .slice (some ⟨w.heap.size + 1, 0, none⟩) n1 n1, .map (some b), .tuple #[.int .i64 R, .bool false], .pointer (some ⟨X.heap.size, 0, none⟩), .agg #[.int .i64 op, .int .i64 ra, .int .i64 rb, .int .i64 rc, .int .i64 obj, .int .i64 m, .int .i64 fn, .int .i64 ord], .tuple #[.int .i64 R, .bool false], .int .i64 R, .bool false, .bool false, u 39, u 40, .pointer (some ⟨X.heap.size, 0, none⟩), .agg #[.int .i64 op, .int .i64 ra, .int .i64 rb, .int .i64 rc, .int .i64 obj, .int .i64 m, .int .i64 fn, .int .i64 ord], .slice A7 j c7, .int .i64 (j : Int), .int .i64 (j : Int), .bool false, u47, u48, u49, u50, u51, u 52, u 53, .slice (some ⟨w.heap.size + 1, 0, none⟩) n1 n1, .int .i64 (x : Int), u 56, u 57, u 58, u 59, u 60, u 61, u 62, u 63, u 64, u 65], defers := [] } Z1 := by
              refine (hG _ _ _ _).2 ?_
              refine wpAnyIn_ready (rs := [0, 4]) (by kernel_rfl) (by simp) ?_
              refine AllReadyIn.cons rfl (fun K hK => ?_) (AllReadyIn.cons rfl (fun K hK => ?_) (AllReadyIn.nil))
              · go_simp
                refine hK _ _ ?_
                clear hK K
                (try simp only [Act.put, List.setIfInBounds_toArray, List.set_cons_zero, List.set_cons_succ])
                exact (hG _ _ _ _).1 hs10110000
              · go_simp
                refine hK _ _ ?_
                clear hK K
                (try simp only [Act.put, List.setIfInBounds_toArray, List.set_cons_zero, List.set_cons_succ])
                exact (hG _ _ _ _).1 hs00111000
            have hs10000000 : G 7 #[true, false, false, false, false, false, false, false] { tmps := #[.slice A n c, .map mb, .pointer (some ⟨w.heap.size, 0, none⟩), undef, .slice none 0 0, .pointer (some ⟨w.heap.size + 2, 0, none⟩), .pointer (some ⟨bc, 0, none⟩), .int .i64 (x : Int), .pointer (some ⟨X.heap.size, 0, none⟩), .map (some b), .int .i64 R, .bool false, u 12, u13, .slice A n c, .int .i64 (n : Int), .int .i64 (n1 : Int), .slice (some ⟨w.heap.size + 1, 0, none⟩) n1 n1, .slice (some ⟨w.heap.size + 1, 0, none⟩) n1 n1, .slice A n c, .int .i64 (n : Int), .map mb, .pointer (some ⟨w.heap.size + 1, n, none⟩), .bool true, .slice A n c, .func (.func 105) #[] #[.pointer (some ⟨wl.heap.size, 0, none⟩)], .int .i64 (x : Int), .agg #[.int .i64 op, .int .i64 ra, .int .i64 rb, .int .i64 rc, .int .i64 obj, .int .i64 m, .int .i64 fn, .int .i64 ord, .slice (fa x) (fm x) (fc x)], .slice A n c, .int .i64 (x : Int), .slice (some ⟨w.heap.size + 1, 0, none⟩) n1 n1, .map (some b), .tuple #[.int .i64 R, .bool false], .pointer (some ⟨X.heap.size, 0, none⟩), .agg #[.int .i64 op, .int .i64 ra, .int .i64 rb, .int .i64 rc, .int .i64 obj, .int .i64 m, .int .i64 fn, .int .i64 ord], .tuple #[.int .i64 R, .bool false], .int .i64 R, .bool false, .bool false, u 39, u 40, .pointer (some ⟨X.heap.size, 0, none⟩), .agg #[.int .i64 op, .int .i64 ra, .int .i64 rb, .int .i64 rc, .int .i64 obj, .int .i64 m, .int .i64 fn, .int .i64 ord], .slice A7 j c7, .int .i64 (j : Int), .int .i64 (j : Int), .bool false, u47, u48, u49, u50, u51, .map (some b), u 53, u 54, u 55, u 56, u 57, u 58, u 59, u 60, u 61, u 62, u 63, u 64, u 65], defers := [] } Z1 := by
              refine (hG _ _ _ _).2 ?_
              refine wpAnyIn_ready (rs := [1, 2, 3]) (by kernel_rfl) (by simp) ?_
              refine AllReadyIn.cons rfl (fun K hK => ?_) (AllReadyIn.cons rfl (fun K hK => ?_) (AllReadyIn.cons rfl (fun K hK => ?_) (AllReadyIn.nil)))
              · go_simp
                refine hK _ _ ?_
                clear hK K
                (try simp only [Act.put, List.setIfInBounds_toArray, List.set_cons_zero, List.set_cons_succ])
                exact (hG _ _ _ _).1 hs11000000
              · go_simp
                refine hK _ _ ?_
                clear hK K
                (try simp only [Act.put, List.setIfInBounds_toArray, List.set_cons_zero, List.set_cons_succ])
                exact (hG _ _ _ _).1 hs10100000
              · go_simp
                refine hK _ _ ?_
                clear hK K
                (try simp only [Act.put, List.setIfInBounds_toArray, List.set_cons_zero, List.set_cons_succ])
                exact (hG _ _ _ _).1 hs10010000
            have hs00100000 : G 7 #[false, false, true, false, false, false, false, false] { tmps := #[.slice A n c, .map mb, .pointer (some ⟨w.heap.size, 0, none⟩), undef, .slice none 0 0, .pointer (some ⟨w.heap.size + 2, 0, none⟩), .pointer (some ⟨bc, 0, none⟩), .int .i64 (x : Int), .pointer (some ⟨X.heap.size, 0, none⟩), .map (some b), .int .i64 R, .bool false, u 12, u13, .slice A n c, .int .i64 (n : Int), .int .i64 (n1 : Int), .slice (some ⟨w.heap.size + 1, 0, none⟩) n1 n1, .slice (some ⟨w.heap.size + 1, 0, none⟩) n1 n1, .slice A n c, .int .i64 (n : Int), .map mb, .pointer (some ⟨w.heap.size + 1, n, none⟩), .bool true, .slice A n c, .func (.func 105) #[] #[.pointer (some ⟨wl.heap.size, 0, none⟩)], .int .i64 (x : Int), .agg #[.int .i64 op, .int .i64 ra, .int .i64 rb, .int .i64 rc, .int .i64 obj, .int .i64 m, .int .i64 fn, .int .i64 ord, .slice (fa x) (fm x) (fc x)], .slice A n c, .int .i64 (x : Int), .slice (some ⟨w.heap.size + 1, 0, none⟩) n1 n1, .map (some b), .tuple #[.int .i64 R, .bool false], .pointer (some ⟨X.heap.size, 0, none⟩), .agg #[.int .i64 op, .int .i64 ra, .int .i64 rb, .int .i64 rc, .int .i64 obj, .int .i64 m, .int .i64 fn, .int .i64 ord], .tuple #[.int .i64 R, .bool false], .int .i64 R, .bool false, .bool false, u 39, u 40, .pointer (some ⟨X.heap.size, 0, none⟩), .agg #[.int .i64 op, .int .i64 ra, .int .i64 rb, .int .i64 rc, .int .i64 obj, .int .i64 m, .int .i64 fn, .int .i64 ord], .slice A7 j c7, .int .i64 (j : Int), .int .i64 (j : Int), .bool false, u47, u48, u49, u50, u51, u 52, u 53, .slice (some ⟨w.heap.size + 1, 0, none⟩) n1 n1, u 55, u 56, u 57, u 58, u 59, u 60, u 61, u 62, u 63, u 64, u 65], defers := [] } Z1 := by
              refine (hG _ _ _ _).2 ?_
              refine wpAnyIn_ready (rs := [0, 3]) (by kernel_rfl) (by simp) ?_
              refine AllReadyIn.cons rfl (fun K hK => ?_) (AllReadyIn.cons rfl (fun K hK => ?_) (AllReadyIn.nil))
              · go_simp
                refine hK _ _ ?_
                clear hK K
                (try simp only [Act.put, List.setIfInBounds_toArray, List.set_cons_zero, List.set_cons_succ])
                exact (hG _ _ _ _).1 hs10100000
              · go_simp
                refine hK _ _ ?_
                clear hK K
                (try simp only [Act.put, List.setIfInBounds_toArray, List.set_cons_zero, List.set_cons_succ])
                exact (hG _ _ _ _).1 hs00110000
            have hs00010000 : G 7 #[false, false, false, true, false, false, false, false] { tmps := #[.slice A n c, .map mb, .pointer (some ⟨w.heap.size, 0, none⟩), undef, .slice none 0 0, .pointer (some ⟨w.heap.size + 2, 0, none⟩), .pointer (some ⟨bc, 0, none⟩), .int .i64 (x : Int), .pointer (some ⟨X.heap.size, 0, none⟩), .map (some b), .int .i64 R, .bool false, u 12, u13, .slice A n c, .int .i64 (n : Int), .int .i64 (n1 : Int), .slice (some ⟨w.heap.size + 1, 0, none⟩) n1 n1, .slice (some ⟨w.heap.size + 1, 0, none⟩) n1 n1, .slice A n c, .int .i64 (n : Int), .map mb, .pointer (some ⟨w.heap.size + 1, n, none⟩), .bool true, .slice A n c, .func (.func 105) #[] #[.pointer (some ⟨wl.heap.size, 0, none⟩)], .int .i64 (x : Int), .agg #[.int .i64 op, .int .i64 ra, .int .i64 rb, .int .i64 rc, .int .i64 obj, .int .i64 m, .int .i64 fn, .int .i64 ord, .slice (fa x) (fm x) (fc x)], .slice A n c, .int .i64 (x : Int), .slice (some ⟨w.heap.size + 1, 0, none⟩) n1 n1, .map (some b), .tuple #[.int .i64 R, .bool false], .pointer (some ⟨X.heap.size, 0, none⟩), .agg #[.int .i64 op, .int .i64 ra, .int .i64 rb, .int .i64 rc, .int .i64 obj, .int .i64 m, .int .i64 fn, .int .i64 ord], .tuple #[.int .i64 R, .bool false], .int .i64 R, .bool false, .bool false, u 39, u 40, .pointer (some ⟨X.heap.size, 0, none⟩), .agg #[.int .i64 op, .int .i64 ra, .int .i64 rb, .int .i64 rc, .int .i64 obj, .int .i64 m, .int .i64 fn, .int .i64 ord], .slice A7 j c7, .int .i64 (j : Int), .int .i64 (j : Int), .bool false, u47, u48, u49, u50, u51, u 52, u 53, u 54, .int .i64 (x : Int), u 56, u 57, u 58, u 59, u 60, u 61, u 62, u 63, u 64, u 65], defers := [] } Z1 := by
              refine (hG _ _ _ _).2 ?_
              refine wpAnyIn_ready (rs := [0, 2]) (by kernel_rfl) (by simp) ?_
              refine AllReadyIn.cons rfl (fun K hK => ?_) (AllReadyIn.cons rfl (fun K hK => ?_) (AllReadyIn.nil))
              · go_simp
                refine hK _ _ ?_
                clear hK K
                (try simp only [Act.put, List.setIfInBounds_toArray, List.set_cons_zero, List.set_cons_succ])
                exact (hG _ _ _ _).1 hs10010000
              · go_simp
                refine hK _ _ ?_
                clear hK K
                (try simp only [Act.put, List.setIfInBounds_toArray, List.set_cons_zero, List.set_cons_succ])
                exact (hG _ _ _ _).1 hs00110000
            have hs00000000 : G 8 #[false, false, false, false, false, false, false, false] { tmps := #[.slice A n c, .map mb, .pointer (some ⟨w.heap.size, 0, none⟩), undef, .slice none 0 0, .pointer (some ⟨w.heap.size + 2, 0, none⟩), .pointer (some ⟨bc, 0, none⟩), .int .i64 (x : Int), .pointer (some ⟨X.heap.size, 0, none⟩), .map (some b), .int .i64 R, .bool false, u 12, u13, .slice A n c, .int .i64 (n : Int), .int .i64 (n1 : Int), .slice (some ⟨w.heap.size + 1, 0, none⟩) n1 n1, .slice (some ⟨w.heap.size + 1, 0, none⟩) n1 n1, .slice A n c, .int .i64 (n : Int), .map mb, .pointer (some ⟨w.heap.size + 1, n, none⟩), .bool true, .slice A n c, .func (.func 105) #[] #[.pointer (some ⟨wl.heap.size, 0, none⟩)], .int .i64 (x : Int), .agg #[.int .i64 op, .int .i64 ra, .int .i64 rb, .int .i64 rc, .int .i64 obj, .int .i64 m, .int .i64 fn, .int .i64 ord, .slice (fa x) (fm x) (fc x)], .slice A n c, .int .i64 (x : Int), .slice (some ⟨w.heap.size + 1, 0, none⟩) n1 n1, .map (some b), .tuple #[.int .i64 R, .bool false], .pointer (some ⟨X.heap.size, 0, none⟩), .agg #[.int .i64 op, .int .i64 ra, .int .i64 rb, .int .i64 rc, .int .i64 obj, .int .i64 m, .int .i64 fn, .int .i64 ord], .tuple #[.int .i64 R, .bool false], .int .i64 R, .bool false, .bool false, u 39, u 40, .pointer (some ⟨X.heap.size, 0, none⟩), .agg #[.int .i64 op, .int .i64 ra, .int .i64 rb, .int .i64 rc, .int .i64 obj, .int .i64 m, .int .i64 fn, .int .i64 ord], .slice A7 j c7, .int .i64 (j : Int), .int .i64 (j : Int), .bool false, u47, u48, u49, u50, u51, u 52, u 53, u 54, u 55, u 56, u 57, u 58, u 59, u 60, u 61, u 62, u 63, u 64, u 65], defers := [] } Z1 := by
              refine (hG _ _ _ _).2 ?_
              refine wpAnyIn_ready (rs := [0, 2, 3]) (by kernel_rfl) (by simp) ?_
              refine AllReadyIn.cons rfl (fun K hK => ?_) (AllReadyIn.cons rfl (fun K hK => ?_) (AllReadyIn.cons rfl (fun K hK => ?_) (AllReadyIn.nil)))
              · go_simp
                refine hK _ _ ?_
                clear hK K
                (try simp only [Act.put, List.setIfInBounds_toArray, List.set_cons_zero, List.set_cons_succ])
                exact (hG _ _ _ _).1 hs10000000
              · go_simp
                refine hK _ _ ?_
                clear hK K
                (try simp only [Act.put, List.setIfInBounds_toArray, List.set_cons_zero, List.set_cons_succ])
                exact (hG _ _ _ _).1 hs00100000
              · go_simp
                refine hK _ _ ?_
                clear hK K
                (try simp only [Act.put, List.setIfInBounds_toArray, List.set_cons_zero, List.set_cons_succ])
                exact (hG _ _ _ _).1 hs00010000
            exact hs00000000
      | true =>
        obtain ⟨W4, hdel, hm4, hg4⟩ := HM3.out.drop (HDG.out rfl) 0
        have HB4 := Lib.hid (HB3.out.grown hg4.grown HB3.out.size fun q hq => by have := HLB.out; injection hq with hq; omega)
        have HM4 : Hid (SetM W4 b 100 (fun r => ((sc C x).any fun y => T' y r) && !(true && decide (r = R)))) := Lib.hid (hm4.congr fun r => by simp)
        clear HB3 HM3 HB2 HM2 j0 j1 j2 j3 j4 j5 j6 j7 hm4 hg4
        obtain ⟨j0, j1, j2, j3, j4, j5, j6, j7⟩ := HJ.out _ HB4.out
        have HU4 := Lib.hid (HUS.out _ (HWU.out _ HB4.out))
        obtain ⟨S2, hS2⟩ : ∃ S2 : Int → Bool, (fun r => ((sc C x).any fun y => T' y r) && !(true && decide (r = R))) = S2 := ⟨_, rfl⟩
        rw [hS2] at HM4
        have HS2 : Hid (∀ r, (S2 r || decide (r ∈ us)) = lfF C T' x r) := Lib.hid fun r => by rw [← hS2]; exact HMD.out r
        clear hS2
        gi_wp2_with fail
        refine ⟨trivial, (CallsIn.inRound l (callsIn_wide.2 HU4.out)).mono ?_⟩
        rintro e W5 ⟨A7, c7, rfl, hr7, hb5⟩
        have HB5 := Lib.hid (belowThen HB4.out hb5)
        have HM5 : Hid (SetM W5 b (100 + 0) (fun r => S2 r || decide (r ∈ us.take 0))) := Lib.hid ((HM4.out.below hb5).congr fun r => by simp)
        have hle7 := hr7.le
        have hmx7 := hr7.max
        unfold maxLen at hmx7
        obtain ⟨m7, hm7⟩ : ∃ m7, us.length = m7 := ⟨_, rfl⟩
        rw [hm7] at hle7 hful ⊢
        have HM7 := Lib.hid hm7
        have HR5 := Lib.hid hr7
        clear hr7 hb5 hm7 j0 j1 j2 j3 j4 j5 j6 j7
        gi_wp2_with fail
        gi_loopw [45] (fun v Z => ∃ j : Nat, j ≤ m7 ∧ v = .int .i64 j ∧ Hid (SetM Z b (100 + j) (fun r => S2 r || decide (r ∈ us.take j))) ∧ Hid (Rd Z A7 c7 us) ∧ Hid (Below U.heap.size U Z)) (fun v _ => m7 - (intOf v).toNat)
        case atStart => exact ⟨0, Nat.zero_le _, rfl, HM5, HR5, HB5⟩
        case round =>
          clear HM5 HR5 HB5 HM4 HB4 HU4
          obtain ⟨j, hj, rfl, HM, HR, HB⟩ := hrel
          by_cases hjm : j < m7
          · have hjl : j < us.length := by rw [HM7.out]; exact hjm
            obtain ⟨ad, eA, _, hcj⟩ := HR.out.one hjl
            have hrg := HUG.out us[j] (List.getElem_mem hjl)
            obtain ⟨y, hy⟩ : ∃ y, us[j] = y := ⟨_, rfl⟩
            rw [hy] at hcj hrg
            have HTK := Lib.hid (fun r => tkMem (S := S2 r) hjl hy r)
            obtain ⟨Z2, hst, hms, hgs⟩ := HM.out.store (by omega) hrg
            have hne := rdNotMap HR.out HM.out
            have HMN := Lib.hid ((hms.mono (n' := 100 + (j + 1)) (by omega)).congr fun r => HTK.out r)
            have HRN := Lib.hid (Rd.chg HR.out (Chg.ofGrown (F := fun q => q ≠ b) hgs.grown fun q hq e => hq (Option.some.inj e).symm) hne)
            have HBN := Lib.hid (HB.out.grown hgs.grown HB.out.size fun q hq => by have := HLB.out; injection hq with hq; omega)
            subst eA
            have hj0 : (0 : Int) ≤ j := by omega
            have hj1 : (j : Int) < m7 := by omega
            clear hms hgs hne hrg hy
            gi_wp2_with fail
            go_roundw
            case rel => exact ⟨j + 1, by omega, by go_num, HMN, HRN, HBN⟩
            case measure => simp [intOf]; omega
          · obtain rfl : j = m7 := by omega
            have htk : us.take j = us := List.take_of_length_le (by rw [HM7.out]; exact Nat.le_refl _)
            rw [htk] at HM
            obtain ⟨Z1, hZ1⟩ : ∃ Z1, wr.drew = Z1 := ⟨_, rfl⟩
            have hbZ : Below U.heap.size U Z1 := by rw [← hZ1]; exact HB.out.drew
            have hmZ : SetM Z1 b 200 (lfF C T' x) := by
              rw [← hZ1]
              exact ((HM.out.below (Below.refl _ wr).drew).mono (by omega)).congr fun r => HS2.out r
            have hrS : Regs (lfF C T' x) := lfRegs HOK.out HN.out HLE.out HT'.out hxn
            have hl1 := fun ty => hmZ.len hrS ty
            have hLZ := HLS.out Z1 hbZ
            obtain ⟨vk, hck, hsk⟩ := hLZ.cell (j := x) (by omega)
            have hl2 := fun ty => hsk.len HRT.out ty
            have hck0 := hck
            have x5 := HK5.out Z1 hbZ
            have fk := hLZ.frozen x
            have hbb : Boxed Z1 bc 4 (.bool cb') := HBB.out Z1 hbZ
            have hgc := cellsOf hLZ.row.choose_spec.2.1
            have hsb : Boxed (Z1.setCell ⟨w.heap.size + 1, x, none⟩ (.map (some b))) bc 4 (.bool cb') := ((chgSet Z1 ⟨w.heap.size + 1, x, none⟩ (.map (some b))).block _ hbb.lt (show bc ≠ w.heap.size + 1 by omega)).trans hbb
            have y1 := hsb.cell
            have y2 := hsb.frozen
            have hblt := HBC.out.1.lt
            have hkb := keepBelow (B := Y.heap.size) (q1 := wl.heap.size) (q2 := blkS A) hbZ
            have hq2 := HQA.out (by omega)
            obtain ⟨q1, hq1⟩ : ∃ q1, (rgL (lfF C T' x)).length = q1 := ⟨_, rfl⟩
            obtain ⟨q2, hq2'⟩ : ∃ q2, (rgL (T' x)).length = q2 := ⟨_, rfl⟩
            have HYES : Hid (q2 < q1 → KeepsFrom Y.heap.size U ((Z1.setCell ⟨w.heap.size + 1, x, none⟩ (.map (some b))).setCell ⟨bc, 0, none⟩ (.bool true)) ∧ Keep2 wl.heap.size (blkS A) U ((Z1.setCell ⟨w.heap.size + 1, x, none⟩ (.map (some b))).setCell ⟨bc, 0, none⟩ (.bool true)) ∧ LbIn C ex n w A c T bc Ds (ps ++ [x]) ((Z1.setCell ⟨w.heap.size + 1, x, none⟩ (.map (some b))).setCell ⟨bc, 0, none⟩ (.bool true))) := Lib.hid fun hlt => by
              obtain ⟨k1, k2⟩ := keepSets (g := w.heap.size + 1) (k := x) (bc := bc) (u := .map (some b)) (u' := .bool true) hkb hgc ⟨_, hbb, rfl⟩ ⟨by omega, by omega⟩ ⟨by omega, by omega⟩
              exact ⟨k1, k2, LbIn.grew HN.out HLE.out hLZ hbb H4.out (HOP.out Z1 hbZ) h7 hxn hmZ (by omega) (fun _ => rfl) (by rw [hq1, hq2']; exact hlt)⟩
            have HNO : Hid (¬ q2 < q1 → KeepsFrom Y.heap.size U Z1 ∧ Keep2 wl.heap.size (blkS A) U Z1 ∧ LbIn C ex n w A c T bc Ds (ps ++ [x]) Z1) := Lib.hid fun hlt => by
              refine ⟨hkb.1, hkb.2, ⟨⟨T', cb', hLZ, hbb, fun e => ?_, H4.out, H5.out⟩, HOP.out Z1 hbZ, h7⟩⟩
              obtain ⟨e1, h8⟩ := H3.out e
              refine ⟨e1, fun k hk r hr => ?_⟩
              rcases List.mem_append.1 hk with hk | hk
              · exact h8 k hk r hr
              · rw [List.mem_singleton] at hk
                subst hk
                rw [← e1] at hr ⊢
                exact rgSame (fun r h => HT'.out.inc k r (by have := HN.out; omega) h) hrS (by omega) hr
            rw [hq1] at hl1
            rw [hq2'] at hl2
            clear hbZ hmZ hrS hLZ hsk hbb hgc hsb hkb hq2 hq1 hq2' htk HM HR
            gi_wp2_with fail
            refine wpIn_region_any (by kernel_rfl) ?_
            change wpAnyIn _ _ _ _ _ _ _ _ _ (World.drew _)
            rw [hZ1]
            clear hZ1
            refine mergeAnyL fun G hG => ?_
            have hs11111111 : G 0 #[true, true, true, true, true, true, true, true] { tmps := #[.slice A n c, .map mb, .pointer (some ⟨w.heap.size, 0, none⟩), undef, .slice none 0 0, .pointer (some ⟨w.heap.size + 2, 0, none⟩), .pointer (some ⟨bc, 0, none⟩), .int .i64 (x : Int), .pointer (some ⟨X.heap.size, 0, none⟩), .map (some b), .int .i64 R, .bool true, u 12, u13, .slice A n c, .int .i64 (n : Int), .int .i64 (n1 : Int), .slice (some ⟨w.heap.size + 1, 0, none⟩) n1 n1, .slice (some ⟨w.heap.size + 1, 0, none⟩) n1 n1, .slice A n c, .int .i64 (n : Int), .map mb, .pointer (some ⟨w.heap.size + 1, n, none⟩), .bool true, .slice A n c, .func (.func 105) #[] #[.pointer (some ⟨wl.heap.size, 0, none⟩)], .int .i64 (x : Int), .agg #[.int .i64 op, .int .i64 ra, .int .i64 rb, .int .i64 rc, .int .i64 obj, .int .i64 m, .int .i64 fn, .int .i64 ord, .slice (fa x) (fm x) (fc x)], .slice A n c, .int .i64 (x : Int), .slice (some ⟨w.heap.size + 1, 0, none⟩) n1 n1, .map (some b), .tuple #[.int .i64 R, .bool true], .pointer (some ⟨X.heap.size, 0, none⟩), .agg #[.int .i64 op, .int .i64 ra, .int .i64 rb, .int .i64 rc, .int .i64 obj, .int .i64 m, .int .i64 fn, .int .i64 ord], .tuple #[.int .i64 R, .bool true], .int .i64 R, .bool true, .bool true, .map (some b), .int .i64 R, .pointer (some ⟨X.heap.size, 0, none⟩), .agg #[.int .i64 op, .int .i64 ra, .int .i64 rb, .int .i64 rc, .int .i64 obj, .int .i64 m, .int .i64 fn, .int .i64 ord], .slice A7 j c7, .int .i64 (j : Int), .int .i64 (j : Int), .bool false, u47, u48, u49, u50, u51, .map (some b), .int .i64 (q1 : Int), .slice (some ⟨w.heap.size + 1, 0, none⟩) n1 n1, .int .i64 (x : Int), .pointer (some ⟨w.heap.size + 1, x, none⟩), vk, .int .i64 (q2 : Int), .bool (decide (q2 < q1)), u 60, u 61, u 62, u 63, u 64, u 65], defers := [] } Z1 := by
              refine (hG _ _ _ _).2 ?_
              refine wpAnyIn_done (by kernel_rfl) ?_ _
              by_cases hlt : q2 < q1
              · have hd : decide (q2 < q1) = true := decide_eq_true hlt
                rw [hd]
                have HYS := HYES.out hlt
                gi_wp2
                exact HYS
              · have hd : decide (q2 < q1) = false := decide_eq_false hlt
                rw [hd]
                have HNS := HNO.out hlt
                gi_wp2
                exact HNS
            have hs11111110 : G 1 #[true, true, true, true, true, true, true, false] { tmps := #[.slice A n c, .map mb, .pointer (some ⟨w.heap.size, 0, none⟩), undef, .slice none 0 0, .pointer (some ⟨w.heap.size + 2, 0, none⟩), .pointer (some ⟨bc, 0, none⟩), .int .i64 (x : Int), .pointer (some ⟨X.heap.size, 0, none⟩), .map (some b), .int .i64 R, .bool true, u 12, u13, .slice A n c, .int .i64 (n : Int), .int .i64 (n1 : Int), .slice (some ⟨w.heap.size + 1, 0, none⟩) n1 n1, .slice (some ⟨w.heap.size + 1, 0, none⟩) n1 n1, .slice A n c, .int .i64 (n : Int), .map mb, .pointer (some ⟨w.heap.size + 1, n, none⟩), .bool true, .slice A n c, .func (.func 105) #[] #[.pointer (some ⟨wl.heap.size, 0, none⟩)], .int .i64 (x : Int), .agg #[.int .i64 op, .int .i64 ra, .int .i64 rb, .int .i64 rc, .int .i64 obj, .int .i64 m, .int .i64 fn, .int .i64 ord, .slice (fa x) (fm x) (fc x)], .slice A n c, .int .i64 (x : Int), .slice (some ⟨w.heap.size + 1, 0, none⟩) n1 n1, .map (some b), .tuple #[.int .i64 R, .bool true], .pointer (some ⟨X.heap.size, 0, none⟩), .agg #[.int .i64 op, .int .i64 ra, .int .i64 rb, .int .i64 rc, .int .i64 obj, .int .i64 m, .int .i64 fn, .int .i64 ord], .tuple #[.int .i64 R, .bool true], .int .i64 R, .bool true, .bool true, .map (some b), .int .i64 R, .pointer (some ⟨X.heap.size, 0, none⟩), .agg #[.int .i64 op, .int .i64 ra, .int .i64 rb, .int .i64 rc, .int .i64 obj, .int .i64 m, .int .i64 fn, .int .i64 ord], .slice A7 j c7, .int .i64 (j : Int), .int .i64 (j : Int), .bool false, u47, u48, u49, u50, u51, .map (some b), .int .i64 (q1 : Int), .slice (some ⟨w.heap.size + 1, 0, none⟩) n1 n1, .int .i64 (x : Int), .pointer (some ⟨w.heap.size + 1, x, none⟩), vk, .int .i64 (q2 : Int), u 59, u 60, u 61, u 62, u 63, u 64, u 65], defers := [] } Z1 := by
              refine (hG _ _ _ _).2 ?_
              refine wpAnyIn_ready (rs := [7]) (by kernel_rfl) (by simp) ?_
              refine AllReadyIn.cons rfl (fun K hK => ?_) (AllReadyIn.nil)
              · go_simp
                refine hK _ _ ?_
                clear hK K
                (try simp only [Act.put, List.setIfInBounds_toArray, List.set_cons_zero, List.set_cons_succ])
                exact (hG _ _ _ _).1 hs11111111
            have hs11111100 : G 2 #[true, true, true, true, true, true, false, false] { tmps := #[.slice A n c, .map mb, .pointer (some ⟨w.heap.size, 0, none⟩), undef, .slice none 0 0, .pointer (some ⟨w.heap.size + 2, 0, none⟩), .pointer (some ⟨bc, 0, none⟩), .int .i64 (x : Int), .pointer (some ⟨X.heap.size, 0, none⟩), .map (some b), .int .i64 R, .bool true, u 12, u13, .slice A n c, .int .i64 (n : Int), .int .i64 (n1 : Int), .slice (some ⟨w.heap.size + 1, 0, none⟩) n1 n1, .slice (some ⟨w.heap.size + 1, 0, none⟩) n1 n1, .slice A n c, .int .i64 (n : Int), .map mb, .pointer (some ⟨w.heap.size + 1, n, none⟩), .bool true, .slice A n c, .func (.func 105) #[] #[.pointer (some ⟨wl.heap.size, 0, none⟩)], .int .i64 (x : Int), .agg #[.int .i64 op, .int .i64 ra, .int .i64 rb, .int .i64 rc, .int .i64 obj, .int .i64 m, .int .i64 fn, .int .i64 ord, .slice (fa x) (fm x) (fc x)], .slice A n c, .int .i64 (x : Int), .slice (some ⟨w.heap.size + 1, 0, none⟩) n1 n1, .map (some b), .tuple #[.int .i64 R, .bool true], .pointer (some ⟨X.heap.size, 0, none⟩), .agg #[.int .i64 op, .int .i64 ra, .int .i64 rb, .int .i64 rc, .int .i64 obj, .int .i64 m, .int .i64 fn, .int .i64 ord], .tuple #[.int .i64 R, .bool true], .int .i64 R, .bool true, .bool true, .map (some b), .int .i64 R, .pointer (some ⟨X.heap.size, 0, none⟩), .agg #[.int .i64 op, .int .i64 ra, .int .i64 rb, .int .i64 rc, .int .i64 obj, .int .i64 m, .int .i64 fn, .int .i64 ord], .slice A7 j c7, .int .i64 (j : Int), .int .i64 (j : Int), .bool false, u47, u48, u49, u50, u51, .map (some b), .int .i64 (q1 : Int), .slice (some ⟨w.heap.size + 1, 0, none⟩) n1 n1, .int .i64 (x : Int), .pointer (some ⟨w.heap.size + 1, x, none⟩), vk, u 58, u 59, u 60, u 61, u 62, u 63, u 64, u 65], defers := [] } Z1 := by
              refine (hG _ _ _ _).2 ?_
              refine wpAnyIn_ready (rs := [6]) (by kernel_rfl) (by simp) ?_
              refine AllReadyIn.cons rfl (fun K hK => ?_) (AllReadyIn.nil)
              · go_simp
                refine hK _ _ ?_
                clear hK K
                (try simp only [Act.put, List.setIfInBounds_toArray, List.set_cons_zero, List.set_cons_succ])
                exact (hG _ _ _ _).1 hs11111110
            have hs11111000 : G 3 #[true, true, true, true, true, false, false, false] { tmps := #[.slice A n c, .map mb, .pointer (some ⟨w.heap.size, 0, none⟩), undef, .slice none 0 0, .pointer (some ⟨w.heap.size + 2, 0, none⟩), .pointer (some ⟨bc, 0, none⟩), .int .i64 (x : Int), .pointer (some ⟨X.heap.size, 0, none⟩), .map (some b), .int .i64 R, .bool true, u 12, u13, .slice A n c, .int .i64 (n : Int), .int .i64 (n1 : Int), .slice (some ⟨w.heap.size + 1, 0, none⟩) n1 n1, .slice (some ⟨w.heap.size + 1, 0, none⟩) n1 n1, .slice A n c, .int .i64 (n : Int), .map mb, .pointer (some ⟨w.heap.size + 1, n, none⟩), .bool true, .slice A n c, .func (.func 105) #[] #[.pointer (some ⟨wl.heap.size, 0, none⟩)], .int .i64 (x : Int), .agg #[.int .i64 op, .int .i64 ra, .int .i64 rb, .int .i64 rc, .int .i64 obj, .int .i64 m, .int .i64 fn, .int .i64 ord, .slice (fa x) (fm x) (fc x)], .slice A n c, .int .i64 (x : Int), .slice (some ⟨w.heap.size + 1, 0, none⟩) n1 n1, .map (some b), .tuple #[.int .i64 R, .bool true], .pointer (some ⟨X.heap.size, 0, none⟩), .agg #[.int .i64 op, .int .i64 ra, .int .i64 rb, .int .i64 rc, .int .i64 obj, .int .i64 m, .int .i64 fn, .int .i64 ord], .tuple #[.int .i64 R, .bool true], .int .i64 R, .bool true, .bool true, .map (some b), .int .i64 R, .pointer (some ⟨X.heap.size, 0, none⟩), .agg #[.int .i64 op, .int .i64 ra, .int .i64 rb, .int .i64 rc, .int .i64 obj, .int .i64 m, .int .i64 fn, .int .i64 ord], .slice A7 j c7, .int .i64 (j : Int), .int .i64 (j : Int), .bool false, u47, u48, u49, u50, u51, .map (some b), .int .i64 (q1 : Int), .slice (some ⟨w.heap.size + 1, 0, none⟩) n1 n1, .int .i64 (x : Int), .pointer (some ⟨w.heap.size + 1, x, none⟩), u 57, u 58, u 59, u 60, u 61, u 62, u 63, u 64, u 65], defers := [] } Z1 := by
              refine (hG _ _ _ _).2 ?_
              refine wpAnyIn_ready (rs := [5]) (by kernel_rfl) (by simp) ?_
              refine AllReadyIn.cons rfl (fun K hK => ?_) (AllReadyIn.nil)
              · go_simp
                refine hK _ _ ?_
                clear hK K
                (try simp only [Act.put, List.setIfInBounds_toArray, List.set_cons_zero, List.set_cons_succ])
                exact (hG _ _ _ _).1 hs11111100
            have hs10111100 : G 3 #[true, false, true, true, true, true, false, false] { tmps := #[.slice A n c, .map mb, .pointer (some ⟨w.heap.size, 0, none⟩), undef, .slice none 0 0, .pointer (some ⟨w.heap.size + 2, 0, none⟩), .pointer (some ⟨bc, 0, none⟩), .int .i64 (x : Int), .pointer (some ⟨X.heap.size, 0, none⟩), .map (some b), .int .i64 R, .bool true, u 12, u13, .slice A n c, .int .i64 (n : Int), .int .i64 (n1 : Int), .slice (some ⟨w.heap.size + 1, 0, none⟩) n1 n1, .slice (some ⟨w.heap.size + 1, 0, none⟩) n1 n1, .slice A n c, .int .i64 (n : Int), .map mb, .pointer (some ⟨w.heap.size + 1, n, none⟩), .bool true, .slice A n c, .func (.func 105) #[] #[.pointer (some ⟨wl.heap.size, 0, none⟩)], .int .i64 (x : Int), .agg #[.int .i64 op, .int .i64 ra, .int .i64 rb, .int .i64 rc, .int .i64 obj, .int .i64 m, .int .i64 fn, .int .i64 ord, .slice (fa x) (fm x) (fc x)], .slice A n c, .int .i64 (x : Int), .slice (some ⟨w.heap.size + 1, 0, none⟩) n1 n1, .map (some b), .tuple #[.int .i64 R, .bool true], .pointer (some ⟨X.heap.size, 0, none⟩), .agg #[.int .i64 op, .int .i64 ra, .int .i64 rb, .int .i64 rc, .int .i64 obj, .int .i64 m, .int .i64 fn, .int .i64 ord], .tuple #[.int .i64 R, .bool true], .int .i64 R, .bool true, .bool true, .map (some b), .int .i64 R, .pointer (some ⟨X.heap.size, 0, none⟩), .agg #[.int .i64 op, .int .i64 ra, .int .i64 rb, .int .i64 rc, .int .i64 obj, .int .i64 m, .int .i64 fn, .int .i64 ord], .slice A7 j c7, .int .i64 (j : Int), .int .i64 (j : Int), .bool false, u47, u48, u49, u50, u51, .map (some b), u 53, .slice (some ⟨w.heap.size + 1, 0, none⟩) n1 n1, .int .i64 (x : Int), .pointer (some ⟨w.heap.size + 1, x, none⟩), vk, u 58, u 59, u 60, u 61, u 62, u 63, u 64, u 65], defers := [] } Z1 := by
              refine (hG _ _ _ _).2 ?_
              refine wpAnyIn_ready (rs := [1]) (by kernel_rfl) (by simp) ?_
              refine AllReadyIn.cons rfl (fun K hK => ?_) (AllReadyIn.nil)
              · go_simp
                refine hK _ _ ?_
                clear hK K
                (try simp only [Act.put, List.setIfInBounds_toArray, List.set_cons_zero, List.set_cons_succ])
                exact (hG _ _ _ _).1 hs11111100
            have hs11110000 : G 4 #[true, true, true, true, false, false, false, false] { tmps := #[.slice A n c, .map mb, .pointer (some ⟨w.heap.size, 0, none⟩), undef, .slice none 0 0, .pointer (some ⟨w.heap.size + 2, 0, none⟩), .pointer (some ⟨bc, 0, none⟩), .int .i64 (x : Int), .pointer (some ⟨X.heap.size, 0, none⟩), .map (some b), .int .i64 R, .bool true, u 12, u13, .slice A n c, .int .i64 (n : Int), .int .i64 (n1 : Int), .slice (some ⟨w.heap.size + 1, 0, none⟩) n1 n1, .slice (some ⟨w.heap.size + 1, 0, none⟩) n1 n1, .slice A n c, .int .i64 (n : Int), .map mb, .pointer (some ⟨w.heap.size + 1, n, none⟩), .bool true, .slice A n c, .func (.func 105) #[] #[.pointer (some ⟨wl.heap.size, 0, none⟩)], .int .i64 (x : Int), .agg #[.int .i64 op, .int .i64 ra, .int .i64 rb, .int .i64 rc, .int .i64 obj, .int .i64 m, .int .i64 fn, .int .i64 ord, .slice (fa x) (fm x) (fc x)], .slice A n c, .int .i64 (x : Int), .slice (some ⟨w.heap.size + 1, 0, none⟩) n1 n1, .map (some b), .tuple #[.int .i64 R, .bool true], .pointer (some ⟨X.heap.size, 0, none⟩), .agg #[.int .i64 op, .int .i64 ra, .int .i64 rb, .int .i64 rc, .int .i64 obj, .int .i64 m, .int .i64 fn, .int .i64 ord], .tuple #[.int .i64 R, .bool true], .int .i64 R, .bool true, .bool true, .map (some b), .int .i64 R, .pointer (some ⟨X.heap.size, 0, none⟩), .agg #[.int .i64 op, .int .i64 ra, .int .i64 rb, .int .i64 rc, .int .i64 obj, .int .i64 m, .int .i64 fn, .int .i64 ord], .slice A7 j c7, .int .i64 (j : Int), .int .i64 (j : Int), .bool false, u47, u48, u49, u50, u51, .map (some b), .int .i64 (q1 : Int), .slice (some ⟨w.heap.size + 1, 0, none⟩) n1 n1, .int .i64 (x : Int), u 56, u 57, u 58, u 59, u 60, u 61, u 62, u 63, u 64, u 65], defers := [] } Z1 := by
              refine (hG _ _ _ _).2 ?_
              refine wpAnyIn_ready (rs := [4]) (by kernel_rfl) (by simp) ?_
              refine AllReadyIn.cons rfl (fun K hK => ?_) (AllReadyIn.nil)
              · go_simp
                refine hK _ _ ?_
                clear hK K
                (try simp only [Act.put, List.setIfInBounds_toArray, List.set_cons_zero, List.set_cons_succ])
                exact (hG _ _ _ _).1 hs11111000
            have hs10111000 : G 4 #[true, false, true, true, true, false, false, false] { tmps := #[.slice A n c, .map mb, .pointer (some ⟨w.heap.size, 0, none⟩), undef, .slice none 0 0, .pointer (some ⟨w.heap.size + 2, 0, none⟩), .pointer (some ⟨bc, 0, none⟩), .int .i64 (x : Int), .pointer (some ⟨X.heap.size, 0, none⟩), .map (some b), .int .i64 R, .bool true, u 12, u13, .slice A n c, .int .i64 (n : Int), .int .i64 (n1 : Int), .slice (some ⟨w.heap.size + 1, 0, none⟩) n1 n1, .slice (some ⟨w.heap.size + 1, 0, none⟩) n1 n1, .slice A n c, .int .i64 (n : Int), .map mb, .pointer (some ⟨w.heap.size + 1, n, none⟩), .bool true, .slice A n c, .func (.func 105) #[] #[.pointer (some ⟨wl.heap.size, 0, none⟩)], .int .i64 (x : Int), .agg #[.int .i64 op, .int .i64 ra, .int .i64 rb, .int .i64 rc, .int .i64 obj, .int .i64 m, .int .i64 fn, .int .i64 ord, .slice (fa x) (fm x) (fc x)], .slice A n c, .int .i64 (x : Int), .slice (some ⟨w.heap.size + 1, 0, none⟩) n1 n1, .map (some b), .tuple #[.int .i64 R, .bool true], .pointer (some ⟨X.heap.size, 0, none⟩), .agg #[.int .i64 op, .int .i64 ra, .int .i64 rb, .int .i64 rc, .int .i64 obj, .int .i64 m, .int .i64 fn, .int .i64 ord], .tuple #[.int .i64 R, .bool true], .int .i64 R, .bool true, .bool true, .map (some b), .int .i64 R, .pointer (some ⟨X.heap.size, 0, none⟩), .agg #[.int .i64 op, .int .i64 ra, .int .i64 rb, .int .i64 rc, .int .i64 obj, .int .i64 m, .int .i64 fn, .int .i64 ord], .slice A7 j c7, .int .i64 (j : Int), .int .i64 (j : Int), .bool false, u47, u48, u49, u50, u51, .map (some b), u 53, .slice (some ⟨w.heap.size + 1, 0, none⟩) n1 n1, .int .i64 (x : Int), .pointer (some ⟨w.heap.size + 1, x, none⟩), u 57, u 58, u 59, u 60, u 61, u 62, u 63, u 64, u 65], defers := [] } Z1 := by
              refine (hG _ _ _ _).2 ?_
              refine wpAnyIn_ready (rs := [1, 5]) (by kernel_rfl) (by simp) ?_
              refine AllReadyIn.cons rfl (fun K hK => ?_) (AllReadyIn.cons rfl (fun K hK => ?_) (AllReadyIn.nil))
              · go_simp
                refine hK _ _ ?_
                clear hK K
                (try simp only [Act.put, List.setIfInBounds_toArray, List.set_cons_zero, List.set_cons_succ])
                exact (hG _ _ _ _).1 hs11111000
              · go_simp
                refine hK _ _ ?_
                clear hK K
                (try simp only [Act.put, List.setIfInBounds_toArray, List.set_cons_zero, List.set_cons_succ])
                exact (hG _ _ _ _).1 hs10111100
            have hs00111100 : G 4 #[false, false, true, true, true, true, false, false] { tmps := #[.slice A n c, .map mb, .pointer (some ⟨w.heap.size, 0, none⟩), undef, .slice none 0 0, .pointer (some ⟨w.heap.size + 2, 0, none⟩), .pointer (some ⟨bc, 0, none⟩), .int .i64 (x : Int), .pointer (some ⟨X.heap.size, 0, none⟩), .map (some b), .int .i64 R, .bool true, u 12, u13, .slice A n c, .int .i64 (n : Int), .int .i64 (n1 : Int), .slice (some ⟨w.heap.size + 1, 0, none⟩) n1 n1, .slice (some ⟨w.heap.size + 1, 0, none⟩) n1 n1, .slice A n c, .int .i64 (n : Int), .map mb, .pointer (some ⟨w.heap.size + 1, n, none⟩), .bool true, .slice A n c, .func (.func 105) #[] #[.pointer (some ⟨wl.heap.size, 0, none⟩)], .int .i64 (x : Int), .agg #[.int .i64 op, .int .i64 ra, .int .i64 rb, .int .i64 rc, .int .i64 obj, .int .i64 m, .int .i64 fn, .int .i64 ord, .slice (fa x) (fm x) (fc x)], .slice A n c, .int .i64 (x : Int), .slice (some ⟨w.heap.size + 1, 0, none⟩) n1 n1, .map (some b), .tuple #[.int .i64 R, .bool true], .pointer (some ⟨X.heap.size, 0, none⟩), .agg #[.int .i64 op, .int .i64 ra, .int .i64 rb, .int .i64 rc, .int .i64 obj, .int .i64 m, .int .i64 fn, .int .i64 ord], .tuple #[.int .i64 R, .bool true], .int .i64 R, .bool true, .bool true, .map (some b), .int .i64 R, .pointer (some ⟨X.heap.size, 0, none⟩), .agg #[.int .i64 op, .int .i64 ra, .int .i64 rb, .int .i64 rc, .int .i64 obj, .int .i64 m, .int .i64 fn, .int .i64 ord], .slice A7 j c7, .int .i64 (j : Int), .int .i64 (j : Int), .bool false, u47, u48, u49, u50, u51, u 52, u 53, .slice (some ⟨w.heap.size + 1, 0, none⟩) n1 n1, .int .i64 (x : Int), .pointer (some ⟨w.heap.size + 1, x, none⟩), vk, u 58, u 59, u 60, u 61, u 62, u 63, u 64, u 65], defers := [] } Z1 := by
              refine (hG _ _ _ _).2 ?_
              refine wpAnyIn_ready (rs := [0]) (by kernel_rfl) (by simp) ?_
              refine AllReadyIn.cons rfl (fun K hK => ?_) (AllReadyIn.nil)
              · go_simp
                refine hK _ _ ?_
                clear hK K
                (try simp only [Act.put, List.setIfInBounds_toArray, List.set_cons_zero, List.set_cons_succ])
                exact (hG _ _ _ _).1 hs10111100
            have hs11100000 : G 5 #[true, true, true, false, false, false, false, false] { tmps := #[.slice A n c, .map mb, .pointer (some ⟨w.heap.size, 0, none⟩), undef, .slice none 0 0, .pointer (some ⟨w.heap.size + 2, 0, none⟩), .pointer (some ⟨bc, 0, none⟩), .int .i64 (x : Int), .pointer (some ⟨X.heap.size, 0, none⟩), .map (some b), .int .i64 R, .bool true, u 12, u13, .slice A n c, .int .i64 (n : Int), .int .i64 (n1 : Int), .slice (some ⟨w.heap.size + 1, 0, none⟩) n1 n1, .slice (some ⟨w.heap.size + 1, 0, none⟩) n1 n1, .slice A n c, .int .i64 (n : Int), .map mb, .pointer (some ⟨w.heap.size + 1, n, none⟩), .bool true, .slice A n c, .func (.func 105) #[] #[.pointer (some ⟨wl.heap.size, 0, none⟩)], .int .i64 (x : Int), .agg #[.int .i64 op, .int .i64 ra, .int .i64 rb, .int .i64 rc, .int .i64 obj, .int .i64 m, .int .i64 fn, .int .i64 ord, .slice (fa x) (fm x) (fc x)], .slice A n c, .int .i64 (x : Int), .slice (some ⟨w.heap.size + 1, 0, none⟩) n1 n1, .map (some b), .tuple #[.int .i64 R, .bool true], .pointer (some ⟨X.heap.size, 0, none⟩), .agg #[.int .i64 op, .int .i64 ra, .int .i64 rb, .int .i64 rc, .int .i64 obj, .int .i64 m, .int .i64 fn, .int .i64 ord], .tuple #[.int .i64 R, .bool true], .int .i64 R, .bool true, .bool true, .map (some b), .int .i64 R, .pointer (some ⟨X.heap.size, 0, none⟩), .agg #[.int .i64 op, .int .i64 ra, .int .i64 rb, .int .i64 rc, .int .i64 obj, .int .i64 m, .int .i64 fn, .int .i64 ord], .slice A7 j c7, .int .i64 (j : Int), .int .i64 (j : Int), .bool false, u47, u48, u49, u50, u51, .map (some b), .int .i64 (q1 : Int), .slice (some ⟨w.heap.size + 1, 0, none⟩) n1 n1, u 55, u 56, u 57, u 58, u 59, u 60, u 61, u 62, u 63, u 64, u 65], defers := [] } Z1 := by
              refine (hG _ _ _ _).2 ?_
              refine wpAnyIn_ready (rs := [3]) (by kernel_rfl) (by simp) ?_
              refine AllReadyIn.cons rfl (fun K hK => ?_) (AllReadyIn.nil)
              · go_simp
                refine hK _ _ ?_
                clear hK K
                (try simp only [Act.put, List.setIfInBounds_toArray, List.set_cons_zero, List.set_cons_succ])
                exact (hG _ _ _ _).1 hs11110000
            have hs11010000 : G 5 #[true, true, false, true, false, false, false, false] { tmps := #[.slice A n c, .map mb, .pointer (some ⟨w.heap.size, 0, none⟩), undef, .slice none 0 0, .pointer (some ⟨w.heap.size + 2, 0, none⟩), .pointer (some ⟨bc, 0, none⟩), .int .i64 (x : Int), .pointer (some ⟨X.heap.size, 0, none⟩), .map (some b), .int .i64 R, .bool true, u 12, u13, .slice A n c, .int .i64 (n : Int), .int .i64 (n1 : Int), .slice (some ⟨w.heap.size + 1, 0, none⟩) n1 n1, .slice (some ⟨w.heap.size + 1, 0, none⟩) n1 n1, .slice A n c, .int .i64 (n : Int), .map mb, .pointer (some ⟨w.heap.size + 1, n, none⟩), .bool true, .slice A n c, .func (.func 105) #[] #[.pointer (some ⟨wl.heap.size, 0, none⟩)], .int .i64 (x : Int), .agg #[.int .i64 op, .int .i64 ra, .int .i64 rb, .int .i64 rc, .int .i64 obj, .int .i64 m, .int .i64 fn, .int .i64 ord, .slice (fa x) (fm x) (fc x)], .slice A n c, .int .i64 (x : Int), .slice (some ⟨w.heap.size + 1, 0, none⟩) n1 n1, .map (some b), .tuple #[.int .i64 R, .bool true], .pointer (some ⟨X.heap.size, 0, none⟩), .agg #[.int .i64 op, .int .i64 ra, .int .i64 rb, .int .i64 rc, .int .i64 obj, .int .i64 m, .int .i64 fn, .int .i64 ord], .tuple #[.int .i64 R, .bool true], .int .i64 R, .bool true, .bool true, .map (some b), .int .i64 R, .pointer (some ⟨X.heap.size, 0, none⟩), .agg #[.int .i64 op, .int .i64 ra, .int .i64 rb, .int .i64 rc, .int .i64 obj, .int .i64 m, .int .i64 fn, .int .i64 ord], .slice A7 j c7, .int .i64 (j : Int), .int .i64 (j : Int), .bool false, u47, u48, u49, u50, u51, .map (some b), .int .i64 (q1 : Int), u 54, .int .i64 (x : Int), u 56, u 57, u 58, u 59, u 60, u 61, u 62, u 63, u 64, u 65], defers := [] } Z1 := by
              refine (hG _ _ _ _).2 ?_
              refine wpAnyIn_ready (rs := [2]) (by kernel_rfl) (by simp) ?_
              refine AllReadyIn.cons rfl (fun K hK => ?_) (AllReadyIn.nil)
              · go_simp
                refine hK _ _ ?_
                clear hK K
                (try simp only [Act.put, List.setIfInBounds_toArray, List.set_cons_zero, List.set_cons_succ])
                exact (hG _ _ _ _).1 hs11110000
            have hs10110000 : G 5 #[true, false, true, true, false, false, false, false] { tmps := #[.slice A n c, .map mb, .pointer (some ⟨w.heap.size, 0, none⟩), undef, .slice none 0 0, .pointer (some ⟨w.heap.size + 2, 0, none⟩), .pointer (some ⟨bc, 0, none⟩), .int .i64 (x : Int), .pointer (some ⟨X.heap.size, 0, none⟩), .map (some b), .int .i64 R, .bool true, u 12, u13, .slice A n c, .int .i64 (n : Int), .int .i64 (n1 : Int), .slice (some ⟨w.heap.size + 1, 0, none⟩) n1 n1, .slice (some ⟨w.heap.size + 1, 0, none⟩) n1 n1, .slice A n c, .int .i64 (n : Int), .map mb, .pointer (some ⟨w.heap.size + 1, n, none⟩), .bool true, .slice A n c, .func (.func 105) #[] #[.pointer (some ⟨wl.heap.size, 0, none⟩)], .int .i64 (x : Int), .agg #[.int .i64 op, .int .i64 ra, .int .i64 rb, .int .i64 rc, .int .i64 obj, .int .i64 m, .int .i64 fn, .int .i64 ord, .slice (fa x) (fm x) (fc x)], .slice A n c, .int .i64 (x : Int), .slice (some ⟨w.heap.size + 1, 0, none⟩) n1 n1, .map (some b), .tuple #[.int .i64 R, .bool true], .pointer (some ⟨X.heap.size, 0, none⟩), .agg #[.int .i64 op, .int .i64 ra, .int .i64 rb, .int .i64 rc, .int .i64 obj, .int .i64 m, .int .i64 fn, .int .i64 ord], .tuple #[.int .i64 R, .bool true], .int .i64 R, .bool true, .bool true, .map (some b), .int .i64 R, .pointer (some ⟨X.heap.size, 0, none⟩), .agg #[.int .i64 op, .int .i64 ra, .int .i64 rb, .int .i64 rc, .int .i64 obj, .int .i64 m, .int .i64 fn, .int .i64 ord], .slice A7 j c7, .int .i64 (j : Int), .int .i64 (j : Int), .bool false, u47, u48, u49, u50, u51, .map (some b), u 53, .slice (some ⟨w.heap.size + 1, 0, none⟩) n1 n1, .int .i64 (x : Int), u 56, u 57, u 58, u 59, u 60, u 61, u 62, u 63, u 64, u 65], defers := [] } Z1 := by
              refine (hG _ _ _ _).2 ?_
              refine wpAnyIn_ready (rs := [1, 4]) (by kernel_rfl) (by simp) ?_
              refine AllReadyIn.cons rfl (fun K hK => ?_) (AllReadyIn.cons rfl (fun K hK => ?_) (AllReadyIn.nil))
              · go_simp
                refine hK _ _ ?_
                clear hK K
                (try simp only [Act.put, List.setIfInBounds_toArray, List.set_cons_zero, List.set_cons_succ])
                exact (hG _ _ _ _).1 hs11110000
              · go_simp
                refine hK _ _ ?_
                clear hK K
                (try simp only [Act.put, List.setIfInBounds_toArray, List.set_cons_zero, List.set_cons_succ])
                exact (hG _ _ _ _).1 hs10111000
            have hs00111000 : G 5 #[false, false, true, true, true, false, false, false] { tmps := #[.slice A n c, .map mb, .pointer (some ⟨w.heap.size, 0, none⟩), undef, .slice none 0 0, .pointer (some ⟨w.heap.size + 2, 0, none⟩), .pointer (some ⟨bc, 0, none⟩), .int .i64 (x : Int), .pointer (some ⟨X.heap.size, 0, none⟩), .map (some b), .int .i64 R, .bool true, u 12, u13, .slice A n c, .int .i64 (n : Int), .int .i64 (n1 : Int), .slice (some ⟨w.heap.size + 1, 0, none⟩) n1 n1, .slice (some ⟨w.heap.size + 1, 0, none⟩) n1 n1, .slice A n c, .int .i64 (n : Int), .map mb, .pointer (some ⟨w.heap.size + 1, n, none⟩), .bool true, .slice A n c, .func (.func 105) #[] #[.pointer (some ⟨wl.heap.size, 0, none⟩)], .int .i64 (x : Int), .agg #[.int .i64 op, .int .i64 ra, .int .i64 rb, .int .i64 rc, .int .i64 obj, .int .i64 m, .int .i64 fn, .int .i64 ord, .slice (fa x) (fm x) (fc x)], .slice A n c, .int .i64 (x : Int), .slice (some ⟨w.heap.size + 1, 0, none⟩) n1 n1, .map (some b), .tuple #[.int .i64 R, .bool true], .pointer (some ⟨X.heap.size, 0, none⟩), .agg #[.int .i64 op, .int .i64 ra, .int .i64 rb, .int .i64 rc, .int .i64 obj, .int .i64 m, .int .i64 fn, .int .i64 ord], .tuple #[.int .i64 R, .bool true], .int .i64 R, .bool true, .bool true, .map (some b), .int .i64 R, .pointer (some ⟨X.heap.size, 0, none⟩), .agg #[.int .i64 op, .int .i64 ra, .int .i64 rb, .int .i64 rc, .int .i64 obj, .int .i64 m, .int .i64 fn, .int .i64 ord], .slice A7 j c7, .int .i64 (j : Int), .int .i64 (j : Int), .bool false, u47, u48, u49, u50, u51, u 52, u 53, .slice (some ⟨w.heap.size + 1, 0, none⟩) n1 n1, .int .i64 (x : Int), .pointer (some ⟨w.heap.size + 1, x, none⟩), u 57, u 58, u 59, u 60, u 61, u 62, u 63, u 64, u 65], defers := [] } Z1 := by
              refine (hG _ _ _ _).2 ?_
              refine wpAnyIn_ready (rs := [0, 5]) (by kernel_rfl) (by simp) ?_
              refine AllReadyIn.cons rfl (fun K hK => ?_) (AllReadyIn.cons rfl (fun K hK => ?_) (AllReadyIn.nil))
              · go_simp
                refine hK _ _ ?_
                clear hK K
                (try simp only [Act.put, List.setIfInBounds_toArray, List.set_cons_zero, List.set_cons_succ])
                exact (hG _ _ _ _).1 hs10111000
              · go_simp
                refine hK _ _ ?_
                clear hK K
                (try simp only [Act.put, List.setIfInBounds_toArray, List.set_cons_zero, List.set_cons_succ])
                exact (hG _ _ _ _).1 hs00111100
            have hs11000000 : G 6 #[true, true, false, false, false, false, false, false] { tmps := #[.slice A n c, .map mb, .pointer (some ⟨w.heap.size, 0, none⟩), undef, .slice none 0 0, .pointer (some ⟨w.heap.size + 2, 0, none⟩), .pointer (some ⟨bc, 0, none⟩), .int .i64 (x : Int), .pointer (some ⟨X.heap.size, 0, none⟩), .map (some b), .int .i64 R, .bool true, u 12, u13, .slice A n c, .int .i64 (n : Int), .int .i64 (n1 : Int), .slice (some ⟨w.heap.size + 1, 0, none⟩) n1 n1, .slice (some ⟨w.heap.size + 1, 0, none⟩) n1 n1, .slice A n c, .int .i64 (n : Int), .map mb, .pointer (some ⟨w.heap.size + 1, n, none⟩), .bool true, .slice A n c, .func (.func 105) #[] #[.pointer (some ⟨wl.heap.size, 0, none⟩)], .int .i64 (x : Int), .agg #[.int .i64 op, .int .i64 ra, .int .i64 rb, .int .i64 rc, .int .i64 obj, .int .i64 m, .int .i64 fn, .int .i64 ord, .slice (fa x) (fm x) (fc x)], .slice A n c, .int .i64 (x : Int), .slice (some ⟨w.heap.size + 1, 0, none⟩) n1 n1, .map (some b), .tuple #[.int .i64 R, .bool true], .pointer (some ⟨X.heap.size, 0, none⟩), .agg #[.int .i64 op, .int .i64 ra, .int .i64 rb, .int .i64 rc, .int .i64 obj, .int .i64 m, .int .i64 fn, .int .i64 ord], .tuple #[.int .i64 R, .bool true], .int .i64 R, .bool true, .bool true, .map (some b), .int .i64 R, .pointer (some ⟨X.heap.size, 0, none⟩), .agg #[.int .i64 op, .int .i64 ra, .int .i64 rb, .int .i64 rc, .int .i64 obj, .int .i64 m, .int .i64 fn, .int .i64 ord], .slice A7 j c7, .int .i64 (j : Int), .int .i64 (j : Int), .bool false, u47, u48, u49, u50, u51, .map (some b), .int .i64 (q1 : Int), u 54, u 55, u 56, u 57, u 58, u 59, u 60, u 61, u 62, u 63, u 64, u 65], defers := [] } Z1 := by
              refine (hG _ _ _ _).2 ?_
              refine wpAnyIn_ready (rs := [2, 3]) (by kernel_rfl) (by simp) ?_
              refine AllReadyIn.cons rfl (fun K hK => ?_) (AllReadyIn.cons rfl (fun K hK => ?_) (AllReadyIn.nil))
              · go_simp
                refine hK _ _ ?_
                clear hK K
                (try simp only [Act.put, List.setIfInBounds_toArray, List.set_cons_zero, List.set_cons_succ])
                exact (hG _ _ _ _).1 hs11100000
              · go_simp
                refine hK _ _ ?_
                clear hK K
                (try simp only [Act.put, List.setIfInBounds_toArray, List.set_cons_zero, List.set_cons_succ])
                exact (hG _ _ _ _).1 hs11010000
            have hs10100000 : G 6 #[true, false, true, false, false, false, false, false] { tmps := #[.slice A n c, .map mb, .pointer (some ⟨w.heap.size, 0, none⟩), undef, .slice none 0 0, .pointer (some ⟨w.heap.size + 2, 0, none⟩), .pointer (some ⟨bc, 0, none⟩), .int .i64 (x : Int), .pointer (some ⟨X.heap.size, 0, none⟩), .map (some b), .int .i64 R, .bool true, u 12, u13, .slice A n c, .int .i64 (n : Int), .int .i64 (n1 : Int), .slice (some ⟨w.heap.size + 1, 0, none⟩) n1 n1, .slice (some ⟨w.heap.size + 1, 0, none⟩) n1 n1, .slice A n c, .int .i64 (n : Int), .map mb, .pointer (some ⟨w.heap.size + 1, n, none⟩), .bool true, .slice A n c, .func (.func 105) #[] #[.pointer (some ⟨wl.heap.size, 0, none⟩)], .int .i64 (x : Int), .agg #[.int .i64 op, .int .i64 ra, .int .i64 rb, .int .i64 rc, .int .i64 obj, .int .i64 m, .int .i64 fn, .int .i64 ord, .slice (fa x) (fm x) (fc x)], .slice A n c, .int .i64 (x : Int), .slice (some ⟨w.heap.size + 1, 0, none⟩) n1 n1, .map (some b), .tuple #[.int .i64 R, .bool true], .pointer (some ⟨X.heap.size, 0, none⟩), .agg #[.int .i64 op, .int .i64 ra, .int .i64 rb, .int .i64 rc, .int .i64 obj, .int .i64 m, .int .i64 fn, .int .i64 ord], .tuple #[.int .i64 R, .bool true], .int .i64 R, .bool true, .bool true, .map (some b), .int .i64 R, .pointer (some ⟨X.heap.size, 0, none⟩), .agg #[.int .i64 op, .int .i64 ra, .int .i64 rb, .int .i64 rc, .int .i64 obj, .int .i64 m, .int .i64 fn, .int .i64 ord], .slice A7 j c7, .int .i64 (j : Int), .int .i64 (j : Int), .bool false, u47, u48, u49, u50, u51, .map (some b), u 53, .slice (some ⟨w.heap.size + 1, 0, none⟩) n1 n1, u 55, u 56, u 57, u 58, u 59, u 60, u 61, u 62, u 63, u 64, u 65], defers := [] } Z1 := by
              refine (hG _ _ _ _).2 ?_
              refine wpAnyIn_ready (rs := [1, 3]) (by kernel_rfl) (by simp) ?_
              refine AllReadyIn.cons rfl (fun K hK => ?_) (AllReadyIn.cons rfl (fun K hK => ?_) (AllReadyIn.nil))
              · go_simp
                refine hK _ _ ?_
                clear hK K
                (try simp only [Act.put, List.setIfInBounds_toArray, List.set_cons_zero, List.set_cons_succ])
                exact (hG _ _ _ _).1 hs11100000
              · go_simp
                refine hK _ _ ?_
                clear hK K
                (try simp only [Act.put, List.setIfInBounds_toArray, List.set_cons_zero, List.set_cons_succ])
                exact (hG _ _ _ _).1 hs10110000
            have hs10010000 : G 6 #[true, false, false, true, false, false, false, false] { tmps := #[.slice A n c, .map mb, .pointer (some ⟨w.heap.size, 0, none⟩), undef, .slice none 0 0, .pointer (some ⟨w.heap.size + 2, 0, none⟩), .pointer (some ⟨bc, 0, none⟩), .int .i64 (x : Int), .pointer (some ⟨X.heap.size, 0, none⟩), .map (some b), .int .i64 R, .bool true, u 12, u13, .slice A n c, .int .i64 (n : Int), .int .i64 (n1 : Int), .slice (some ⟨w.heap.size + 1, 0, none⟩) n1 n1, .slice (some ⟨w.heap.size + 1, 0, none⟩) n1 n1, .slice A n c, .int .i64 (n : Int), .map mb, .pointer (some ⟨w.heap.size + 1, n, none⟩), .bool true, .slice A n c, .func (.func 105) #[] #[.pointer (some ⟨wl.heap.size, 0, none⟩)], .int .i64 (x : Int), .agg #[.int .i64 op, .int .i64 ra, .int .i64 rb, .int .i64 rc, .int .i64 obj, .int .i64 m, .int .i64 fn, .int .i64 ord, .slice (fa x) (fm x) (fc x)], .slice A n c, .int .i64 (x : Int), .slice (some ⟨w.heap.size + 1, 0, none⟩) n1 n1, .map (some b), .tuple #[.int .i64 R, .bool true], .pointer (some ⟨X.heap.size, 0, none⟩), .agg #[.int .i64 op, .int .i64 ra, .int .i64 rb, .int .i64 rc, .int .i64 obj, .int .i64 m, .int .i64 fn, .int .i64 ord], .tuple #[.int .i64 R, .bool true], .int .i64 R, .bool true, .bool true, .map (some b), .int .i64 R, .pointer (some ⟨X.heap.size, 0, none⟩), .agg #[.int .i64 op, .int .i64 ra, .int .i64 rb, .int .i64 rc, .int .i64 obj, .int .i64 m, .int .i64 fn, .int .i64 ord], .slice A7 j c7, .int .i64 (j : Int), .int .i64 (j : Int), .bool false, u47, u48, u49, u50, u51, .map (some b), u 53, u 54, .int .i64 (x : Int), u 56, u 57, u 58, u 59, u 60, u 61, u 62, u 63, u 64, u 65], defers := [] } Z1 := by
              refine (hG _ _ _ _).2 ?_
              refine wpAnyIn_ready (rs := [1, 2]) (by kernel_rfl) (by simp) ?_
              refine AllReadyIn.cons rfl (fun K hK => ?_) (AllReadyIn.cons rfl (fun K hK => ?_) (AllReadyIn.nil))
              · go_simp
                refine hK _ _ ?_
                clear hK K
                (try simp only [Act.put, List.setIfInBounds_toArray, List.set_cons_zero, List.set_cons_succ])
                exact (hG _ _ _ _).1 hs11010000
              · go_simp
                refine hK _ _ ?_
                clear hK K
                (try simp only [Act.put, List.setIfInBounds_toArray, List.set_cons_zero, List.set_cons_succ])
                exact (hG _ _ _ _).1 hs10110000
            have hs00110000 : G 6 #[false, false, true, true, false, false, false, false] { tmps := #[.slice A n c, .map mb, .pointer (some ⟨w.heap.size, 0, none⟩), undef, .slice none 0 0, .pointer (some ⟨w.heap.size + 2, 0, none⟩), .pointer (some ⟨bc, 0, none⟩), .int .i64 (x : Int), .pointer (some ⟨X.heap.size, 0, none⟩), .map (some b), .int .i64 R, .bool true, u 12, u13, .slice A n c, .int .i64 (n : Int), .int .i64 (n1 : Int), .slice (some ⟨w.heap.size + 1, 0, none⟩) n1 n1, .slice (some ⟨w.heap.size + 1, 0, none⟩) n1 n1, .slice A n c, .int .i64 (n : Int), .map mb, .pointer (some ⟨w.heap.size + 1, n, none⟩), .bool true, .slice A n c, .func (.func 105) #[] #[.pointer (some ⟨wl.heap.size, 0, none⟩)], .int .i64 (x : Int), .agg #[.int .i64 op, .int .i64 ra, .int .i64 rb, .int .i64 rc, .int .i64 obj, .int .i64 m, .int .i64 fn, .int .i64 ord, .slice (fa x) (fm x) (fc x)], .slice A n c, .int .i64 (x : Int), .slice (some ⟨w.heap.size + 1, 0, none⟩) n1 n1, .map (some b), .tuple #[.int .i64 R, .bool true], .pointer (some ⟨X.heap.size, 0, none⟩), .agg #[.int .i64 op, .int .i64 ra, .int .i64 rb, .int .i64 rc, .int .i64 obj, .int .i64 m, .int .i64 fn, .int .i64 ord], .tuple #[.int .i64 R, .bool true], .int .i64 R, .bool true, .bool true, .map (some b), .int .i64 R, .pointer (some ⟨X.heap.size, 0, none⟩), .agg #[.int .i64 op, .int .i64 ra, .int .i64 rb, .int .i64 rc, .int .i64 obj, .int .i64 m, .int .i64 fn, .int .i64 ord], .slice A7 j c7, .int .i64 (j : Int), .int .i64 (j : Int), .bool false, u47, u48, u49, u50, u51, u 52, u 53, .slice (some ⟨w.heap.size + 1, 0, none⟩) n1 n1, .int .i64 (x : Int), u 56, u 57, u 58, u 59, u 60, u 61, u 62, u 63, u 64, u 65], defers := [] } Z1 := by
              refine (hG _ _ _ _).2 ?_
              refine wpAnyIn_ready (rs := [0, 4]) (by kernel_rfl) (by simp) ?_
              refine AllReadyIn.cons rfl (fun K hK => ?_) (AllReadyIn.cons rfl (fun K hK => ?_) (AllReadyIn.nil))
              · go_simp
                refine hK _ _ ?_
                clear hK K
                (try simp only [Act.put, List.setIfInBounds_toArray, List.set_cons_zero, List.set_cons_succ])
                exact (hG _ _ _ _).1 hs10110000
              · go_simp
                refine hK _ _ ?_
                clear hK K
                (try simp only [Act.put, List.setIfInBounds_toArray, List.set_cons_zero, List.set_cons_succ])
                exact (hG _ _ _ _).1 hs00111000
            have hs10000000 : G 7 #[true, false, false, false, false, false, false, false] { tmps := #[.slice A n c, .map mb, .pointer (some ⟨w.heap.size, 0, none⟩), undef, .slice none 0 0, .pointer (some ⟨w.heap.size + 2, 0, none⟩), .pointer (some ⟨bc, 0, none⟩), .int .i64 (x : Int), .pointer (some ⟨X.heap.size, 0, none⟩), .map (some b), .int .i64 R, .bool true, u 12, u13, .slice A n c, .int .i64 (n : Int), .int .i64 (n1 : Int), .slice (some ⟨w.heap.size + 1, 0, none⟩) n1 n1, .slice (some ⟨w.heap.size + 1, 0, none⟩) n1 n1, .slice A n c, .int .i64 (n : Int), .map mb, .pointer (some ⟨w.heap.size + 1, n, none⟩), .bool true, .slice A n c, .func (.func 105) #[] #[.pointer (some ⟨wl.heap.size, 0, none⟩)], .int .i64 (x : Int), .agg #[.int .i64 op, .int .i64 ra, .int .i64 rb, .int .i64 rc, .int .i64 obj, .int .i64 m, .int .i64 fn, .int .i64 ord, .slice (fa x) (fm x) (fc x)], .slice A n c, .int .i64 (x : Int), .slice (some ⟨w.heap.size + 1, 0, none⟩) n1 n1, .map (some b), .tuple #[.int .i64 R, .bool true], .pointer (some ⟨X.heap.size, 0, none⟩), .agg #[.int .i64 op, .int .i64 ra, .int .i64 rb, .int .i64 rc, .int .i64 obj, .int .i64 m, .int .i64 fn, .int .i64 ord], .tuple #[.int .i64 R, .bool true], .int .i64 R, .bool true, .bool true, .map (some b), .int .i64 R, .pointer (some ⟨X.heap.size, 0, none⟩), .agg #[.int .i64 op, .int .i64 ra, .int .i64 rb, .int .i64 rc, .int .i64 obj, .int .i64 m, .int .i64 fn, .int .i64 ord], .slice A7 j c7, .int .i64 (j : Int), .int .i64 (j : Int), .bool false, u47, u48, u49, u50, u51, .map (some b), u 53, u 54, u 55, u 56, u 57, u 58, u 59, u 60, u 61, u 62, u 63, u 64, u 65], defers := [] } Z1 := by
              refine (hG _ _ _ _).2 ?_
              refine wpAnyIn_ready (rs := [1, 2, 3]) (by kernel_rfl) (by simp) ?_
              refine AllReadyIn.cons rfl (fun K hK => ?_) (AllReadyIn.cons rfl (fun K hK => ?_) (AllReadyIn.cons rfl (fun K hK => ?_) (AllReadyIn.nil)))
              · go_simp
                refine hK _ _ ?_
                clear hK K
                (try simp only [Act.put, List.setIfInBounds_toArray, List.set_cons_zero, List.set_cons_succ])
                exact (hG _ _ _ _).1 hs11000000
              · go_simp
                refine hK _ _ ?_
                clear hK K
                (try simp only [Act.put, List.setIfInBounds_toArray, List.set_cons_zero, List.set_cons_succ])
                exact (hG _ _ _ _).1 hs10100000
              · go_simp
                refine hK _ _ ?_
                clear hK K
                (try simp only [Act.put, List.setIfInBounds_toArray, List.set_cons_zero, List.set_cons_succ])
                exact (hG _ _ _ _).1 hs10010000
            have hs00100000 : G 7 #[false, false, true, false, false, false, false, false] { tmps := #[.slice A n c, .map mb, .pointer (some ⟨w.heap.size, 0, none⟩), undef, .slice none 0 0, .pointer (some ⟨w.heap.size + 2, 0, none⟩), .pointer (some ⟨bc, 0, none⟩), .int .i64 (x : Int), .pointer (some ⟨X.heap.size, 0, none⟩), .map (some b), .int .i64 R, .bool true, u 12, u13, .slice A n c, .int .i64 (n : Int), .int .i64 (n1 : Int), .slice (some ⟨w.heap.size + 1, 0, none⟩) n1 n1, .slice (some ⟨w.heap.size + 1, 0, none⟩) n1 n1, .slice A n c, .int .i64 (n : Int), .map mb, .pointer (some ⟨w.heap.size + 1, n, none⟩), .bool true, .slice A n c, .func (.func 105) #[] #[.pointer (some ⟨wl.heap.size, 0, none⟩)], .int .i64 (x : Int), .agg #[.int .i64 op, .int .i64 ra, .int .i64 rb, .int .i64 rc, .int .i64 obj, .int .i64 m, .int .i64 fn, .int .i64 ord, .slice (fa x) (fm x) (fc x)], .slice A n c, .int .i64 (x : Int), .slice (some ⟨w.heap.size + 1, 0, none⟩) n1 n1, .map (some b), .tuple #[.int .i64 R, .bool true], .pointer (some ⟨X.heap.size, 0, none⟩), .agg #[.int .i64 op, .int .i64 ra, .int .i64 rb, .int .i64 rc, .int .i64 obj, .int .i64 m, .int .i64 fn, .int .i64 ord], .tuple #[.int .i64 R, .bool true], .int .i64 R, .bool true, .bool true, .map (some b), .int .i64 R, .pointer (some ⟨X.heap.size, 0, none⟩), .agg #[.int .i64 op, .int .i64 ra, .int .i64 rb, .int .i64 rc, .int .i64 obj, .int .i64 m, .int .i64 fn, .int .i64 ord], .slice A7 j c7, .int .i64 (j : Int), .int .i64 (j : Int), .bool false, u47, u48, u49, u50, u51, u 52, u 53, .slice (some ⟨w.heap.size + 1, 0, none⟩) n1 n1, u 55, u 56, u 57, u 58, u 59, u 60, u 61, u 62, u 63, u 64, u 65], defers := [] } Z1 := by
              refine (hG _ _ _ _).2 ?_
              refine wpAnyIn_ready (rs := [0, 3]) (by kernel_rfl) (by simp) ?_
              refine AllReadyIn.cons rfl (fun K hK => ?_) (AllReadyIn.cons rfl (fun K hK => ?_) (AllReadyIn.nil))
              · go_simp
                refine hK _ _ ?_
                clear hK K
                (try simp only [Act.put, List.setIfInBounds_toArray, List.set_cons_zero, List.set_cons_succ])
                exact (hG _ _ _ _).1 hs10100000
              · go_simp
                refine hK _ _ ?_
                clear hK K
                (try simp only [Act.put, List.setIfInBounds_toArray, List.set_cons_zero, List.set_cons_succ])
                exact (hG _ _ _ _).1 hs00110000
            have hs00010000 : G 7 #[false, false, false, true, false, false, false, false] { tmps := #[.slice A n c, .map mb, .pointer (some ⟨w.heap.size, 0, none⟩), undef, .slice none 0 0, .pointer (some ⟨w.heap.size + 2, 0, none⟩), .pointer (some ⟨bc, 0, none⟩), .int .i64 (x : Int), .pointer (some ⟨X.heap.size, 0, none⟩), .map (some b), .int .i64 R, .bool true, u 12, u13, .slice A n c, .int .i64 (n : Int), .int .i64 (n1 : Int), .slice (some ⟨w.heap.size + 1, 0, none⟩) n1 n1, .slice (some ⟨w.heap.size + 1, 0, none⟩) n1 n1, .slice A n c, .int .i64 (n : Int), .map mb, .pointer (some ⟨w.heap.size + 1, n, none⟩), .bool true, .slice A n c, .func (.func 105) #[] #[.pointer (some ⟨wl.heap.size, 0, none⟩)], .int .i64 (x : Int), .agg #[.int .i64 op, .int .i64 ra, .int .i64 rb, .int .i64 rc, .int .i64 obj, .int .i64 m, .int .i64 fn, .int .i64 ord, .slice (fa x) (fm x) (fc x)], .slice A n c, .int .i64 (x : Int), .slice (some ⟨w.heap.size + 1, 0, none⟩) n1 n1, .map (some b), .tuple #[.int .i64 R, .bool true], .pointer (some ⟨X.heap.size, 0, none⟩), .agg #[.int .i64 op, .int .i64 ra, .int .i64 rb, .int .i64 rc, .int .i64 obj, .int .i64 m, .int .i64 fn, .int .i64 ord], .tuple #[.int .i64 R, .bool true], .int .i64 R, .bool true, .bool true, .map (some b), .int .i64 R, .pointer (some ⟨X.heap.size, 0, none⟩), .agg #[.int .i64 op, .int .i64 ra, .int .i64 rb, .int .i64 rc, .int .i64 obj, .int .i64 m, .int .i64 fn, .int .i64 ord], .slice A7 j c7, .int .i64 (j : Int), .int .i64 (j : Int), .bool false, u47, u48, u49, u50, u51, u 52, u 53, u 54, .int .i64 (x : Int), u 56, u 57, u 58, u 59, u 60, u 61, u 62, u 63, u 64, u 65], defers := [] } Z1 := by
              refine (hG _ _ _ _).2 ?_
              refine wpAnyIn_ready (rs := [0, 2]) (by kernel_rfl) (by simp) ?_
              refine AllReadyIn.cons rfl (fun K hK => ?_) (AllReadyIn.cons rfl (fun K hK => ?_) (AllReadyIn.nil))
              · go_simp
                refine hK _ _ ?_
                clear hK K
                (try simp only [Act.put, List.setIfInBounds_toArray, List.set_cons_zero, List.set_cons_succ])
                exact (hG _ _ _ _).1 hs10010000
              · go_simp
                refine hK _ _ ?_
                clear hK K
                (try simp only [Act.put, List.setIfInBounds_toArray, List.set_cons_zero, List.set_cons_succ])
                exact (hG _ _ _ _).1 hs00110000
            have hs00000000 : G 8 #[false, false, false, false, false, false, false, false] { tmps := #[.slice A n c, .map mb, .pointer (some ⟨w.heap.size, 0, none⟩), undef, .slice none 0 0, .pointer (some ⟨w.heap.size + 2, 0, none⟩), .pointer (some ⟨bc, 0, none⟩), .int .i64 (x : Int), .pointer (some ⟨X.heap.size, 0, none⟩), .map (some b), .int .i64 R, .bool true, u 12, u13, .slice A n c, .int .i64 (n : Int), .int .i64 (n1 : Int), .slice (some ⟨w.heap.size + 1, 0, none⟩) n1 n1, .slice (some ⟨w.heap.size + 1, 0, none⟩) n1 n1, .slice A n c, .int .i64 (n : Int), .map mb, .pointer (some ⟨w.heap.size + 1, n, none⟩), .bool true, .slice A n c, .func (.func 105) #[] #[.pointer (some ⟨wl.heap.size, 0, none⟩)], .int .i64 (x : Int), .agg #[.int .i64 op, .int .i64 ra, .int .i64 rb, .int .i64 rc, .int .i64 obj, .int .i64 m, .int .i64 fn, .int .i64 ord, .slice (fa x) (fm x) (fc x)], .slice A n c, .int .i64 (x : Int), .slice (some ⟨w.heap.size + 1, 0, none⟩) n1 n1, .map (some b), .tuple #[.int .i64 R, .bool true], .pointer (some ⟨X.heap.size, 0, none⟩), .agg #[.int .i64 op, .int .i64 ra, .int .i64 rb, .int .i64 rc, .int .i64 obj, .int .i64 m, .int .i64 fn, .int .i64 ord], .tuple #[.int .i64 R, .bool true], .int .i64 R, .bool true, .bool true, .map (some b), .int .i64 R, .pointer (some ⟨X.heap.size, 0, none⟩), .agg #[.int .i64 op, .int .i64 ra, .int .i64 rb, .int .i64 rc, .int .i64 obj, .int .i64 m, .int .i64 fn, .int .i64 ord], .slice A7 j c7, .int .i64 (j : Int), .int .i64 (j : Int), .bool false, u47, u48, u49, u50, u51, u 52, u 53, u 54, u 55, u 56, u 57, u 58, u 59, u 60, u 61, u 62, u 63, u 64, u 65], defers := [] } Z1 := by
              refine (hG _ _ _ _).2 ?_
              refine wpAnyIn_ready (rs := [0, 2, 3]) (by kernel_rfl) (by simp) ?_
              refine AllReadyIn.cons rfl (fun K hK => ?_) (AllReadyIn.cons rfl (fun K hK => ?_) (AllReadyIn.cons rfl (fun K hK => ?_) (AllReadyIn.nil)))
              · go_simp
                refine hK _ _ ?_
                clear hK K
                (try simp only [Act.put, List.setIfInBounds_toArray, List.set_cons_zero, List.set_cons_succ])
                exact (hG _ _ _ _).1 hs10000000
              · go_simp
                refine hK _ _ ?_
                clear hK K
                (try simp only [Act.put, List.setIfInBounds_toArray, List.set_cons_zero, List.set_cons_succ])
                exact (hG _ _ _ _).1 hs00100000
              · go_simp
                refine hK _ _ ?_
                clear hK K
                (try simp only [Act.put, List.setIfInBounds_toArray, List.set_cons_zero, List.set_cons_succ])
                exact (hG _ _ _ _).1 hs00010000
            exact hs00000000
end Go.Proofs.YtkanamdfjegcbaaDoor
