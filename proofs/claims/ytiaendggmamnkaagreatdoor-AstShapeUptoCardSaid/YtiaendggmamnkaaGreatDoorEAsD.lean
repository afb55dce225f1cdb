/-
  Count and Depth: ranges over the iterators.
-/
import Derived.Test.YtiaendggmamnkaaGreatDoorEAsJ
import Derived.Test.YtiaendggmamnkaaGreatDoorEAsJx
namespace Go.Proofs.YtiaendggmamnkaaGreatDoor
open Go Go.RowKit Go.Shelf
attribute [local go_sem] Oper.semAt_some

/-- The iterator's two boxes lie below B. -/
theorem keepG {w0 X Y : World} {zi n c : Nat} {A : Option Addr} {F Fb : Nat → Prop} (h : Chg w0 X Fb ∧ ItrM X zi A n c) (hc : Chg X Y F) (h1 : ∀ q, q < w0.heap.size → Fb q → F q) (h2 : F zi) (h3 : F (zi + 1)) : Chg w0 Y Fb ∧ ItrM Y zi A n c :=
  ⟨h.1.trans hc h1, (hc.block _ h.2.l.lt h2).trans h.2.l, (hc.block _ h.2.f.lt h3).trans h.2.f⟩
theorem lowG {w0 : World} {zi n c B : Nat} {A : Option Addr} {Fb : Nat → Prop} (h0 : w0.heap.size ≤ B) (hz : zi + 1 < B) : LowI B (fun X => Chg w0 X Fb ∧ ItrM X zi A n c) := fun _ _ h hc => keepG h hc (fun _ hq _ => by omega) (by omega) hz
theorem keepGX {w0 X Y : World} {zi n c : Nat} {A : Option Addr} {F Fb : Nat → Prop} (h : Chg w0 X Fb ∧ ItrX X zi A n c) (hc : Chg X Y F) (h1 : ∀ q, q < w0.heap.size → Fb q → F q) (h2 : F zi) (h3 : F (zi + 1)) : Chg w0 Y Fb ∧ ItrX Y zi A n c :=
  ⟨h.1.trans hc h1, (hc.block _ h.2.l.lt h2).trans h.2.l, (hc.block _ h.2.f.lt h3).trans h.2.f⟩
theorem lowGX {w0 : World} {zi n c B : Nat} {A : Option Addr} {Fb : Nat → Prop} (h0 : w0.heap.size ≤ B) (hz : zi + 1 < B) : LowI B (fun X => Chg w0 X Fb ∧ ItrX X zi A n c) := fun _ _ h hc => keepGX h hc (fun _ hq _ => by omega) (by omega) hz
theorem lowBox {B b : Nat} {T : TypeId} {v : Value} (h : b < B) : LowI B (fun X => Boxed X b T v) := fun _ _ hX hc => (hc.block _ hX.lt h).trans hX
theorem lowAnd {B : Nat} {T U : World → Prop} (h1 : LowI B T) (h2 : LowI B U) : LowI B (fun X => T X ∧ U X) := fun X Y h hc => ⟨h1 X Y h.1 hc, h2 X Y h.2 hc⟩
theorem lowBlk {B b : Nat} {T : TypeId} {cs : Array Value} (h : b < B) : LowI B (fun X => Blk X b T cs) := fun _ _ hX hc => (hc.block _ hX.lt h).trans hX
theorem lowPure {B : Nat} (p : Prop) : LowI B (fun _ => p) := fun _ _ h _ => h
theorem zip2 (i j : Nat) (a b : Value) : (#[i, j] : Array Nat).zip #[a, b] = #[(i, a), (j, b)] := by simp
set_option maxRecDepth 100000 in
set_option maxHeartbeats 2000000 in
theorem iCount16 (dx D : Nat) (A : Option Addr) (n c : Nat) (ts : List Sm) (hn : ts.length = n) (hsz : Tr.szL ts ≤ 4000000) (w : World) (hr : RdE 9 (EM dx D) w A c ts) :
    Calls Tryz.prog 26 #[.slice A n c] w fun e w' => e = .returned (.int .i64 (Tr.szL ts : Int)) ∧ Below w.heap.size w w' := by
  obtain ⟨W, hW⟩ : ∃ W, w.alloc (.cells #[.int .i64 0] 3) = W := ⟨_, rfl⟩
  have hbW : Below w.heap.size w W := by rw [← hW]; exact belowAlloc _ _
  have hB : Boxed W w.heap.size 3 (.int .i64 0) := by rw [← hW]; exact Boxed.new w _ _
  have HZW : Hid (W.heap.size = w.heap.size + 1) := by rw [← hW]; exact Lib.hid (by simp)
  have HIT := Lib.hid (iStatements A n c W)
  have HV := Lib.hid (visSM dx D 7 (by omega) w W.heap.size A n c ts hn hr hsz (fun _ => True) (fun _ _ h => absurd trivial h))
  have HW := Lib.hid hW
  clear hW
  refine (callsIn_wide (n := 8)).1 ?_
  refine callsIn_of_wp_marks Tryz.func26 rfl trivial ?_ rfl
  simp only [Tryz.ntmps26, List.size_toArray, List.length_cons, List.length_nil, Nat.reduceAdd, Nat.reduceSub, Array.replicate_succ, Array.replicate_zero, List.push_toArray, List.append_toArray, List.nil_append, List.cons_append]
  gi_wp2_with fail
  rw [HW.out]
  refine ⟨trivial, (callsIn_wide.2 HIT.out).mono ?_⟩
  rintro e V ⟨rfl, hI, hb⟩
  have hbV := belowThen hbW hb
  have hBV : Boxed V w.heap.size 3 (.int .i64 0) := (hb.block _ hB.lt).trans hB
  have hzV := hI.f.lt
  have HK := Lib.hid hBV
  have HI := Lib.hid hI
  have HB := Lib.hid hbV
  have HZV := Lib.hid hzV
  unfold itrM
  clear hI hb hBV hzV hbV
  gi_wp2_with fail
  refine rangeLow (w := V) (w0 := w) (gf := 170) (lb := #[.pointer (some ⟨W.heap.size, 0, none⟩), .pointer (some ⟨W.heap.size + 1, 0, none⟩)]) rfl entVisM (Arg := ArgM dx D w) (G := fun X => Chg w X (fun _ => True) ∧ ItrM X W.heap.size A n c) HV.out
    (lowG (by have := HZW.out; have := HZV.out; omega) HZV.out) HB.out (fun x args h => by obtain ⟨_, _, _, _, _, _, rfl, _⟩ := h; rfl)
    (fun pre X => Boxed X w.heap.size 3 (.int .i64 (pre.length : Int)) ∧ Chg w X (fun _ => True) ∧ ItrM X W.heap.size A n c) (fun _ _ _ => False)
    (fun p => lowAnd (lowBox (by have := HZW.out; have := HZV.out; omega)) (lowG (by have := HZW.out; have := HZV.out; omega) HZV.out)) (fun _ _ _ _ h => h.elim) (fun _ _ h => h.2) (fun _ _ _ h => h.elim)
    ⟨HK.out, Chg.ofBelow HB.out _, HI.out⟩ (fun _ args => { tmps := #[.slice A n c, undef, .int .i64 0, .pointer (some ⟨w.heap.size, 0, none⟩), .slice A n c, .func (.func 170) #[] #[.pointer (some ⟨W.heap.size, 0, none⟩), .pointer (some ⟨W.heap.size + 1, 0, none⟩)], args.getD 0 undef, args.getD 1 undef, undef, undef, undef], defers := [] }) (fun _ W => W) (fun _ _ => Below.refl _ _) ?assign ?body ?done ?stop
  case stop => exact fun _ _ _ _ _ h _ => h.elim
  case assign =>
    intro lr x args X K ha hK
    obtain ⟨_, _, _, _, _, _, rfl, _⟩ := ha
    gi_wp2
    rw [zip2]
    exact hK
  case body =>
    rintro lr pre x post args X U hL ⟨h1, h2, h3⟩ hA hs - hlX hlV
    obtain ⟨k, hk⟩ : ∃ k, pre.length = k := ⟨_, rfl⟩
    rw [hk] at h1
    have hkl : k < 4000000 := by
      have h9 := congrArg List.length hL
      rw [numbLen, Tr.ndsLLen, List.length_append, List.length_cons, hk] at h9
      omega
    have kf := h1.cell
    have ff := h1.frozen
    have HY := Lib.hid (h1.set (.int .i64 ((k : Int) + 1)))
    have HC := Lib.hid (chgSet16 U w.heap.size 0 (.int .i64 ((k : Int) + 1)))
    have HG := Lib.hid (And.intro h2 h3)
    have HL := Lib.hid hk
    clear h1 h2 h3 hk hL
    gi_wp2
    exact ⟨HC.out.mono fun q hq => by have := HZW.out; have := HZV.out; omega, by rw [List.length_append, HL.out]; exact HY.out, keepG HG.out HC.out (fun q hq _ => by omega) (by have := HZW.out; omega) (by have := HZW.out; omega)⟩
  case done =>
    rintro R X hR ⟨h1, h2, h3⟩ hK
    have kf := h1.cell
    have hlen : (numb 0 (Tr.ndsL 1 ts)).length = Tr.szL ts := by rw [numbLen, Tr.ndsLLen]
    rw [hlen] at kf
    have HR := Lib.hid (h2.below fun _ _ => trivial)
    clear h1 h2 h3 hlen
    gi_wp2
    refine ⟨by simp, .inl ⟨_, _, rfl, run_takeDeferred hK, ?_⟩⟩
    refine ⟨_, results_tmp rfl _ _ _, rfl, ?_⟩
    exact ⟨HR.out.os, HR.out.tape, HR.out.output, by simpa using HR.out.size, fun q hq => (World.putObj_heap_other (by have := HZW.out; have := HZV.out; omega)).trans (HR.out.block q hq)⟩
theorem ex1 (d : Nat) {w : World} {g : Nat} {t : Ex} {A4 : Option Addr} {c4 n4 : Nat} (hn : t.fst.length = n4) (hs : t.snd = []) (hB : Blk w g 37 (exC t.val.kind t.val.n t.val.name t.val.fn (.slice A4 n4 c4))) (hr : RdE 5 (EX d) w A4 c4 t.fst) : RdE 5 (EX (d + 1)) w (some ⟨g, 0, none⟩) 1 [t] := by
  subst hn
  exact ⟨Nat.le_refl _, by unfold maxLen; omega, fun _ => ⟨g, 0, rfl, hB.lt, fun j hj => by
    have : j = 0 := by simpa using hj
    subst this
    exact ⟨hB.cell 0, hB.cell 1, hB.cell 2, hB.cell 3, hs, _, hB.cell 4, A4, c4, rfl, hr⟩⟩⟩
theorem topNumb {β : Type} : ∀ (k : Nat) (l : List (Nat × Tr β)), (numb k l).foldl (fun m x => max m x.2.1) 0 = Tr.top l := by
  have key : ∀ (l : List (Nat × Tr β)) (k m : Nat), (numb k l).foldl (fun m x => max m x.2.1) m = max m (Tr.top l) := by
    intro l
    induction l with
    | nil => intro k m; simp [numb, Tr.top]
    | cons q r ih => intro k m; obtain ⟨a, b⟩ := q; rw [numb, List.foldl_cons, ih, Tr.top, Nat.max_assoc]
  intro k l
  rw [key]
  simp
set_option maxRecDepth 100000 in
set_option maxHeartbeats 2000000 in
theorem iDepth16 (d : Nat) (t : Ex) (hs : t.snd = []) (A4 : Option Addr) (n4 c4 : Nat) (hn : t.fst.length = n4) (hsz : Tr.szL [t] ≤ 4000000) (w : World) (hr : RdE 5 (EX d) w A4 c4 t.fst) :
    Calls Tryz.prog 21 #[.agg (exC t.val.kind t.val.n t.val.name t.val.fn (.slice A4 n4 c4))] w fun e w' => e = .returned (.int .i64 (Tr.dp t : Int)) ∧ Below w.heap.size w w' := by
  obtain ⟨W0, hW0⟩ : ∃ W, w.alloc (.cells (exC t.val.kind t.val.n t.val.name t.val.fn (.slice A4 n4 c4)) 37) = W := ⟨_, rfl⟩
  obtain ⟨W, hW⟩ : ∃ W, W0.alloc (.cells #[.int .i64 0] 3) = W := ⟨_, rfl⟩
  have hb0 : Below w.heap.size w W0 := by rw [← hW0]; exact belowAlloc _ _
  have hb1 : Below W0.heap.size W0 W := by rw [← hW]; exact belowAlloc _ _
  have B0 : Blk W0 w.heap.size 37 (exC t.val.kind t.val.n t.val.name t.val.fn (.slice A4 n4 c4)) := by rw [← hW0]; exact Blk.new _ _ _
  have hB : Boxed W W0.heap.size 3 (.int .i64 0) := by rw [← hW]; exact Boxed.new W0 _ _
  have B1 := B0.below' hb1
  have f0 : W.cell? ⟨w.heap.size, 0, none⟩ = some (.int .i64 t.val.kind) := B1.cell 0
  have f1 : W.cell? ⟨w.heap.size, 1, none⟩ = some (.int .i64 t.val.n) := B1.cell 1
  have f2 : W.cell? ⟨w.heap.size, 2, none⟩ = some (.string t.val.name) := B1.cell 2
  have f3 : W.cell? ⟨w.heap.size, 3, none⟩ = some (.int .i64 t.val.fn) := B1.cell 3
  have f4 : W.cell? ⟨w.heap.size, 4, none⟩ = some (.slice A4 n4 c4) := B1.cell 4
  have HZW : Hid (W.heap.size = W0.heap.size + 1 ∧ W0.heap.size = w.heap.size + 1) := by rw [← hW, ← hW0]; exact Lib.hid (by simp)
  have HIT := Lib.hid (iExpressions t.val.kind t.val.n t.val.fn t.val.name A4 n4 c4 W)
  have HBW := Lib.hid (belowThen hb0 hb1)
  have HB := Lib.hid hB
  have HR := Lib.hid hr
  unfold exC at hW0 HIT ⊢
  have HW := Lib.hid hW
  have HW0 := Lib.hid hW0
  clear hW hW0 hb0 hb1 B0 B1 hB hr
  refine (callsIn_wide (n := 8)).1 ?_
  refine callsIn_of_wp_marks Tryz.func21 rfl trivial ?_ rfl
  simp only [Tryz.ntmps21, List.size_toArray, List.length_cons, List.length_nil, Nat.reduceAdd, Nat.reduceSub, Array.replicate_succ, Array.replicate_zero, List.push_toArray, List.append_toArray, List.nil_append, List.cons_append]
  gi_upto_region 1 with fail
  rw [HW0.out]
  gi_upto_region 2 with fail
  rw [HW.out]
  gi_wp2_with fail
  refine ⟨trivial, (callsIn_wide.2 HIT.out).mono ?_⟩
  rintro e V ⟨g, z, rfl, hg, hz, hBg, hI, hb⟩
  have HRX := Lib.hid (ex1 d hn hs hBg ((HR.out.below (stabX d) HBW.out).below (stabX d) hb))
  have HBV := Lib.hid (belowThen HBW.out hb)
  have HK := Lib.hid (show Boxed V W0.heap.size 3 (.int .i64 0) from (hb.block _ HB.out.lt).trans HB.out)
  have HI := Lib.hid hI
  have HZ := Lib.hid (show W0.heap.size < z ∧ z + 1 < V.heap.size ∧ W0.heap.size < V.heap.size from ⟨by have := HZW.out; omega, hI.f.lt, by have := HZW.out; have := hI.f.lt; omega⟩)
  have HV := Lib.hid (visSX (d + 1) 7 (by omega) V z (some ⟨g, 0, none⟩) 1 1 [t] rfl HRX.out hsz (fun q => q ≠ W0.heap.size) (fun q _ h => ⟨3, .int .i64 0, by rw [Classical.not_not.1 h]; exact HK.out⟩))
  unfold itrX
  clear hg hz hBg hI hb f0 f1 f2 f3 f4
  gi_wp2_with fail
  refine rangeLow (w := V) (w0 := V) (gf := 164) (lb := #[.pointer (some ⟨z, 0, none⟩), .pointer (some ⟨z + 1, 0, none⟩)]) rfl entVisX (Arg := ArgX (d + 1) V) (G := fun X => Chg V X (fun q => q ≠ W0.heap.size) ∧ ItrX X z (some ⟨g, 0, none⟩) 1 1) HV.out
    (lowGX (Nat.le_refl _) HZ.out.2.1) (Below.refl _ _) (fun x args h => by obtain ⟨_, _, rfl, _⟩ := h; rfl)
    (fun pre X => Boxed X W0.heap.size 3 (.int .i64 ((pre.foldl (fun m x => max m x.2.1) 0 : Nat) : Int)) ∧ Chg V X (fun q => q ≠ W0.heap.size) ∧ ItrX X z (some ⟨g, 0, none⟩) 1 1) (fun _ _ _ => False)
    (fun p => lowAnd (lowBox HZ.out.2.2) (lowGX (Nat.le_refl _) HZ.out.2.1)) (fun _ _ _ _ h => h.elim) (fun _ _ h => h.2) (fun _ _ _ h => h.elim)
    ⟨HK.out, Chg.refl _ _, HI.out⟩ (fun X args => { tmps := #[.agg #[.int .i64 t.val.kind, .int .i64 t.val.n, .string t.val.name, .int .i64 t.val.fn, .slice A4 n4 c4], .pointer (some ⟨w.heap.size, 0, none⟩), .int .i64 0, .pointer (some ⟨W0.heap.size, 0, none⟩), .pointer (some ⟨X.heap.size, 0, none⟩), .agg #[.int .i64 t.val.kind, .int .i64 t.val.n, .string t.val.name, .int .i64 t.val.fn, .slice A4 n4 c4], .func (.func 164) #[] #[.pointer (some ⟨z, 0, none⟩), .pointer (some ⟨z + 1, 0, none⟩)], args.getD 0 undef, args.getD 1 undef, undef, undef, undef, undef, undef], defers := [] }) (fun args X => X.alloc (.cells (agC (args.getD 0 undef)) 92)) (fun _ _ => belowAlloc _ _) ?assign ?body ?done ?stop
  case stop => exact fun _ _ _ _ _ h _ => h.elim
  case assign =>
    intro lr x args X K ha hK
    obtain ⟨_, _, rfl, _⟩ := ha
    rw [zip2]
    gi_wp2
    exact hK
  case body =>
    rintro lr pre x post args X U hL ⟨h1, h2, h3⟩ hA hs ⟨o, hU⟩ hlX hlV
    obtain ⟨_, _, rfl, _⟩ := hA
    obtain ⟨k, hk⟩ : ∃ k : Nat, pre.foldl (fun m x => max m x.2.1) 0 = k := ⟨_, rfl⟩
    rw [hk] at h1
    obtain ⟨num, lv, y⟩ := x
    have hpl : Blk U X.heap.size 92 #[.int .i64 (num : Int), .int .i64 (lv : Int)] := by
      rw [hU]
      exact (World.putObj_heap_other (show X.heap.size ≠ lr by omega)).trans (Blk.new X _ _)
    have p1 : U.cell? ⟨X.heap.size, 1, none⟩ = some (.int .i64 (lv : Int)) := hpl.cell 1
    have kf := h1.cell
    have ff := h1.frozen
    obtain ⟨m, hm⟩ : ∃ m : Nat, max k lv = m := ⟨_, rfl⟩
    have HY := Lib.hid (h1.set (.int .i64 (m : Int)))
    have HC := Lib.hid (chgSet16 U W0.heap.size 0 (.int .i64 (m : Int)))
    have HG := Lib.hid (And.intro h2 h3)
    have HL := Lib.hid hk
    have HM := Lib.hid hm
    have hcase : (k < lv ∧ m = lv) ∨ (¬ k < lv ∧ m = k) := by omega
    clear h1 h2 h3 hk hL hpl hm hU
    rcases hcase with ⟨hlt, rfl⟩ | ⟨hlt, rfl⟩
    all_goals
      gi_wp2
      refine ⟨HC.out.mono fun q hq => by have := HZ.out; omega, by rw [List.foldl_append, HL.out, List.foldl_cons, List.foldl_nil, HM.out]; exact HY.out, keepGX HG.out HC.out (fun q _ h => h) (by have := HZ.out; omega) (by have := HZ.out; omega)⟩
  case done =>
    rintro R X hR ⟨h1, h2, h3⟩ hK
    have kf := h1.cell
    rw [topNumb, Tr.topDp] at kf
    have HR := Lib.hid (h2.trans (Chg.refl X (fun q => q ≠ W0.heap.size)) fun _ _ h => h)
    clear h1 h2 h3
    gi_wp2
    refine ⟨by simp, .inl ⟨_, _, rfl, run_takeDeferred hK, ?_⟩⟩
    refine ⟨_, results_tmp rfl _ _ _, rfl, ?_⟩
    have hb := HBV.out
    have hz := HZW.out
    refine ⟨HR.out.os.trans hb.os, HR.out.tape.trans hb.tape, HR.out.output.trans hb.output, by simpa using Nat.le_trans hb.size HR.out.size, fun q hq => (World.putObj_heap_other (by have := HZ.out; omega)).trans ((HR.out.block q (Nat.lt_of_lt_of_le hq hb.size) (by omega)).trans (hb.block q hq))⟩
end Go.Proofs.YtiaendggmamnkaaGreatDoor
