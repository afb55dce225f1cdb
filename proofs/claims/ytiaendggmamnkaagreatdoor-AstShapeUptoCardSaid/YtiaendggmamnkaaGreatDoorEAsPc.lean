/-
  procCheck: the first error of the procedures.
-/
import Derived.Test.YtiaendggmamnkaaGreatDoorECs
import Derived.Test.YtiaendggmamnkaaGreatDoorEOw
namespace Go.Proofs.YtiaendggmamnkaaGreatDoor
open Go Go.RowKit Go.Shelf
attribute [local go_sem] Oper.semAt_some

theorem pcFgo {u : Un} {l : List Pc} {k : Nat} (hk : k < l.length) : pcF u (l.drop k) k = if (pcE u l[k]).1 ≠ 0 then ((pcE u l[k]).1, (k : Int), (pcE u l[k]).2) else pcF u (l.drop (k + 1)) (k + 1) := by
  rw [List.drop_eq_getElem_cons hk, pcF]
theorem pcFend {u : Un} {l : List Pc} {k : Nat} (hk : l.length ≤ k) : pcF u (l.drop k) k = (0, -1, -1) := by
  rw [List.drop_eq_nil_of_le hk, pcF]
/-- What a function that gives an error with two numbers returns. -/
def err6 (r : Int × Int × Int) : Ending := .returned (.tuple #[.int .i64 r.1, .int .i64 r.2.1, .int .i64 r.2.2])
/-- The three boxes of the results. -/
structure Res6 (b : Nat) (x y z : Int) (W : World) : Prop where
  r1 : Boxed W b 30 (.int .i64 x)
  r2 : Boxed W (b + 1) 3 (.int .i64 y)
  r3 : Boxed W (b + 1 + 1) 3 (.int .i64 z)
theorem Res6.set {b : Nat} {x y z : Int} {W : World} (h : Res6 b x y z W) (x' y' z' : Int) : Res6 b x' y' z' (((W.setCell ⟨b, 0, none⟩ (.int .i64 x')).setCell ⟨b + 1, 0, none⟩ (.int .i64 y')).setCell ⟨b + 1 + 1, 0, none⟩ (.int .i64 z')) :=
  ⟨((h.r1.set _).other (by omega) _).other (by omega) _, ((h.r2.other (by omega) _).set _).other (by omega) _, ((h.r3.other (by omega) _).other (by omega) _).set _⟩
theorem Res6.chg {b : Nat} {x y z : Int} {W W' : World} {F : Nat → Prop} (h : Res6 b x y z W) (hc : Chg W W' F) (h1 : F b) (h2 : F (b + 1)) (h3 : F (b + 1 + 1)) : Res6 b x y z W' := ⟨(hc.block _ h.r1.lt h1).trans h.r1, (hc.block _ h.r2.lt h2).trans h.r2, (hc.block _ h.r3.lt h3).trans h.r3⟩
theorem Res6.below {b : Nat} {x y z : Int} {W W' : World} (h : Res6 b x y z W) (hb : Below W.heap.size W W') : Res6 b x y z W' := h.chg (Chg.ofBelow hb fun _ => True) trivial trivial trivial
theorem Res6.put {b D : Nat} {x y z : Int} {W : World} (h : Res6 b x y z W) (hD : b + 1 + 1 < D) (o : Obj) : Res6 b x y z (W.putObj D o) := ⟨(World.putObj_heap_other (by omega)).trans h.r1, (World.putObj_heap_other (by omega)).trans h.r2, (World.putObj_heap_other (by omega)).trans h.r3⟩
theorem res6 {tmps : Array Value} {b1 b2 b3 : Nat} {x y z : Int} {W : World} (h1 : tmps.getD 1 undef = .pointer (some ⟨b1, 0, none⟩)) (h2 : tmps.getD 2 undef = .pointer (some ⟨b2, 0, none⟩)) (h3 : tmps.getD 3 undef = .pointer (some ⟨b3, 0, none⟩))
    (k1 : Boxed W b1 30 (.int .i64 x)) (k2 : Boxed W b2 3 (.int .i64 y)) (k3 : Boxed W b3 3 (.int .i64 z)) : (results Tryz.f104 tmps).run Tryz.prog W = .ok (.tuple #[.int .i64 x, .int .i64 y, .int .i64 z]) W := by
  have c1 := k1.cell
  have c2 := k2.cell
  have c3 := k3.cell
  have h1' : tmps[1]?.getD undef = .pointer (some ⟨b1, 0, none⟩) := by simpa using h1
  have h2' : tmps[2]?.getD undef = .pointer (some ⟨b2, 0, none⟩) := by simpa using h2
  have h3' : tmps[3]?.getD undef = .pointer (some ⟨b3, 0, none⟩) := by simpa using h3
  simp [results, h1', h2', h3', asAddr, loadVar, isAgg, run_underlying Tryz.underlying30, run_underlying Tryz.underlying3, go_sem, c1, c2, c3]
theorem lowBelow {W : World} : LowI W.heap.size (fun X => Below W.heap.size W X) := fun _ _ h hc => ⟨hc.os.trans h.os, hc.tape.trans h.tape, hc.output.trans h.output, Nat.le_trans h.size hc.size, fun q hq => (hc.block q (Nat.lt_of_lt_of_le hq h.size) hq).trans (h.block q hq)⟩
theorem lowChg {W : World} {F : Nat → Prop} : LowI W.heap.size (fun X => Chg W X F) := fun _ _ h hc => h.trans hc fun _ hq _ => hq
theorem lowRes6 {b B : Nat} {x y z : Int} (hB : b + 1 + 1 < B) : LowI B (fun X => Res6 b x y z X) := fun _ _ h hc => h.chg hc (by omega) (by omega) hB
/-- Three stores into the results' boxes. -/
theorem storedR {b : Nat} {W : World} (x y z : Int) : Chg W (((W.setCell ⟨b, 0, none⟩ (.int .i64 x)).setCell ⟨b + 1, 0, none⟩ (.int .i64 y)).setCell ⟨b + 1 + 1, 0, none⟩ (.int .i64 z)) (fun q => q ≠ b ∧ q ≠ b + 1 ∧ q ≠ b + 1 + 1) :=
  (((chgSet16 W b 0 _).mono fun _ h => h.1).trans (chgSet16 _ (b + 1) 0 _) fun _ _ h => h.2.1).trans (chgSet16 _ (b + 1 + 1) 0 _) fun _ _ h => h.2.2
theorem belowSetC {W X : World} {b : Nat} {v : Value} (h : Below W.heap.size W X) (hb : W.heap.size ≤ b) : Below W.heap.size W (X.setCell ⟨b, 0, none⟩ v) := by
  have hc := chgSet16 X b 0 v
  exact ⟨hc.os.trans h.os, hc.tape.trans h.tape, hc.output.trans h.output, Nat.le_trans h.size hc.size, fun q hq => (hc.block q (Nat.lt_of_lt_of_le hq h.size) (by omega)).trans (h.block q hq)⟩
theorem Chks.set {g ub lb : Nat} {a : PgA} {AL : Option Addr} {nl cL : Nat} {X : World} (h : Chks g ub lb a AL nl cL X) {b : Nat} (v : Value) (h1 : g ≠ b) (h2 : ub ≠ b) (h3 : lb ≠ b) : Chks g ub lb a AL nl cL (X.setCell ⟨b, 0, none⟩ v) := by
  have hc := chgSet16 X b 0 v
  exact ⟨(hc.block _ h.arr.lt h1).trans h.arr, (hc.block _ h.ubx.lt h2).trans h.ubx, (hc.block _ h.lbx.lt h3).trans h.lbx⟩
theorem rdSet {W Z : World} {base b : Nat} {AL : Option Addr} {n cL : Nat} {D : List ByteArray} (h : OwnS6 W base (.slice AL n cL) D) (hb : Below W.heap.size W Z) (v : Value) (hlt : b < base) : RdE 1 ES (Z.setCell ⟨b, 0, none⟩ v) AL cL D := by
  have ho := (h.below hb).chg (chgSet16 Z b 0 v) (fun g hg => by have := (OwnS6.lt h hg).1; omega)
  obtain ⟨A', c', he, hr⟩ := ho.rd
  cases he
  exact hr
theorem splitSeq {F : Fence} {n : Nat} {P : Program} {c d : Code} {Q : Exit → Act → World → Prop} {K : Act → World → Prop} (hK : ∀ a w, (c.seq d).wpIn F n P Q a w → K a w) :
    ∃ K2 : Act → World → Prop, (∀ a w, d.wpIn F n P Q a w → K2 a w) ∧ (∀ a w, c.wpIn F n P (Exit.then K2 Q) a w → K a w) := ⟨fun a w => d.wpIn F n P Q a w, fun _ _ h => h, fun a w h => hK a w (wpIn_seq h)⟩
theorem ckCalls (u : Un) (a : PgA) (dx d ub lb g : Nat) (ls : List ByteArray) (AL : Option Addr) (nl cL : Nat) (hl : ls.length = nl) (lv : Nat) (y : Sm) (A6 A7 A8 : Option Addr) (c6 c7 c8 : Nat) (X : World) (hT : RwsT X) (hU : UnR X a u dx d) (hC : Chks g ub lb a AL nl cL X)
    (hE : RdE 5 (EX dx) X A6 c6 y.val.exprs) (hx : ∀ e ∈ y.val.exprs, WfX e) (hn : y.val.name.size ≤ maxLen) (hrl : RdE 1 ES X AL cL ls) (j : Nat) (hj : j < 9) (h0 : ∀ i, i < j → ckS u ls lv y i = 0) (fn : Nat) (bs : Array Value) (hf : (ckFs ub lb)[j]? = some (.func (.func fn) #[] bs)) :
    Calls Tryz.prog fn (#[smV y A6 A7 A8 c6 c7 c8, .int .i64 (lv : Int)] ++ bs) X fun e w' => e = .returned (.int .i64 (ckS u ls lv y j)) ∧ Below X.heap.size X w' := by
  have hk : 2 ≤ j → ∃ m : Nat, 1 ≤ m ∧ m ≤ 20 ∧ y.val.kind = (m : Int) := fun h => by
    have h1 : kdOk y.val.kind = true := (un0z _ (by simp)).1 (h0 1 (by omega))
    unfold kdOk at h1
    simp only [Bool.and_eq_true, decide_eq_true_eq] at h1
    exact ⟨y.val.kind.toNat, by omega, by omega, by omega⟩
  have hj9 : j = 0 ∨ j = 1 ∨ j = 2 ∨ j = 3 ∨ j = 4 ∨ j = 5 ∨ j = 6 ∨ j = 7 ∨ j = 8 := by omega
  rcases hj9 with rfl | rfl | rfl | rfl | rfl | rfl | rfl | rfl | rfl <;> simp [ckFs] at hf <;> obtain ⟨rfl, rfl⟩ := hf
  · exact iCk1 y lv A6 A7 A8 c6 c7 c8 X
  · exact iCk2 y lv A6 A7 A8 c6 c7 c8 X
  · obtain ⟨m, h1, h2, h3⟩ := hk (by omega)
    exact iCk3 m h1 h2 y lv A6 A7 A8 c6 c7 c8 X h3 hT
  · obtain ⟨m, h1, h2, h3⟩ := hk (by omega)
    exact iCk4 m h1 h2 y lv A6 A7 A8 c6 c7 c8 X h3 hT hn
  · obtain ⟨m, h1, h2, h3⟩ := hk (by omega)
    exact iCk5 u a dx d ub m h1 h2 y lv A6 A7 A8 c6 c7 c8 X h3 hT hU hC.ubx
  · obtain ⟨m, h1, h2, h3⟩ := hk (by omega)
    exact iCk6 m h1 h2 y lv A6 A7 A8 c6 c7 c8 X h3 hT
  · exact iCk7 y lv A6 A7 A8 c6 c7 c8 X
  · exact iCk8 dx ls AL nl cL lb hl y lv A6 A7 A8 c6 c7 c8 X hE hx hrl hC.lbx
  · refine iCk9 dx y lv A6 A7 A8 c6 c7 c8 X hE (fun h6 => ?_) fun e he => (hx e he).sz
    have h1 : hfB y = true := (un0z _ (by simp)).1 (h0 2 (by omega))
    unfold hfB at h1
    rw [h6] at h1
    simp only [Bool.and_eq_true, beq_iff_eq] at h1
    exact h1.1.1.2
set_option maxRecDepth 100000 in
set_option maxHeartbeats 4000000 in
theorem iProcs (u : Un) (a : PgA) (dx d b : Nat) (w : World) (hU : UnR w a u dx d) (hB : UBox w b a) (hW : u.Wf) (hT : RwsT w) :
    Calls Tryz.prog 104 #[.pointer (some ⟨b, 0, none⟩)] w fun e w' => e = err6 (pcF u u.procs 0) ∧ Below w.heap.size w w' := by
  obtain ⟨V, hV⟩ : ∃ V, ((w.alloc (.cells #[.int .i64 0] 30)).alloc (.cells #[.int .i64 0] 3)).alloc (.cells #[.int .i64 0] 3) = V := ⟨_, rfl⟩
  obtain ⟨h0, h1, h2, hb, hz⟩ := three16 w _ _ _ hV
  have R0 : Res6 w.heap.size 0 0 0 V := ⟨h0, h1, h2⟩
  obtain ⟨R, hR⟩ : ∃ R, pcF u u.procs 0 = R := ⟨_, rfl⟩
  rw [hR]
  have HR : Hid (pcF u (u.procs.drop 0) 0 = R) := Lib.hid hR
  obtain ⟨A4, hA4⟩ : ∃ x, a.A4 = x := ⟨_, rfl⟩
  obtain ⟨n4, hn4⟩ : ∃ x, a.n4 = x := ⟨_, rfl⟩
  obtain ⟨c4, hc4⟩ : ∃ x, a.c4 = x := ⟨_, rfl⟩
  have k3 : V.cell? ⟨b, 3, none⟩ = some (.slice A4 n4 c4) := by rw [← hA4, ← hn4, ← hc4]; exact (hB.below hb).facts.2.2.2.1
  have hl4 := hU.l4
  have hle := hU.procs.le
  have hmx := hU.procs.max
  have hpr := hU.procs
  rw [hn4] at hl4
  rw [hc4] at hle hmx hpr
  rw [hA4] at hpr
  rw [hl4] at hle
  unfold maxLen at hmx
  have HU := Lib.hid hU
  have HUB := Lib.hid hB
  have HWF := Lib.hid hW
  have HT := Lib.hid hT
  have HRS := Lib.hid R0
  have HB := Lib.hid hb
  have HZ := Lib.hid hz
  have HL4 := Lib.hid hl4
  have HPR := Lib.hid hpr
  have HV := Lib.hid hV
  clear hU hB hW hT R0 hb hz h0 h1 h2 hR hA4 hn4 hc4 hV hl4 hpr
  refine (callsIn_wide (n := 8)).1 ?_
  refine callsIn_of_wp_marks Tryz.func104 rfl trivial ?_ rfl
  simp only [Tryz.ntmps104, List.size_toArray, List.length_cons, List.length_nil, Nat.reduceAdd, Nat.reduceSub, Array.replicate_succ, Array.replicate_zero, List.push_toArray, List.append_toArray, List.nil_append, List.cons_append]
  gi_upto_region 1 with fail
  rw [HV.out]
  gi_wp2_with fail
  obtain ⟨INV, hINV⟩ : ∃ INV : Act → World → Prop, INV = (fun a' w' => ∃ (v : Nat → Value) (Ds : List Nat) (k : Nat), a' = { tmps := #[.pointer (some ⟨b, 0, none⟩), .pointer (some ⟨w.heap.size, 0, none⟩), .pointer (some ⟨w.heap.size + 1, 0, none⟩), .pointer (some ⟨w.heap.size + 1 + 1, 0, none⟩), v 4, v 5, v 6, v 7, v 8, v 9, v 10, v 11, v 12, .pointer (some ⟨b, 3, none⟩), .slice A4 n4 c4, .int .i64 (n4 : Int), .int .i64 (k : Int), v 17, v 18, v 19, v 20, v 21, v 22, v 23, v 24, v 25, v 26, v 27, v 28, v 29, v 30, v 31, v 32, v 33, v 34, v 35, v 36, v 37, v 38, v 39, v 40, v 41, v 42, v 43, v 44, v 45, v 46, v 47, v 48, v 49, v 50, v 51, v 52, v 53, v 54], defers := Ds.map markR } ∧ Hid (Res6 w.heap.size 0 0 0 w') ∧ Hid (Below w.heap.size w w') ∧ Hid (OpenR Ds w' ∧ Ds.Nodup ∧ ∀ D ∈ Ds, V.heap.size ≤ D) ∧ Hid (pcF u (u.procs.drop k) k = R) ∧ k ≤ n4) := ⟨_, rfl⟩
  obtain ⟨MU, hMU⟩ : ∃ MU : Act → World → Nat, MU = (fun a' _ => n4 - (intOf (a'.tmps.getD 16 undef)).toNat) := ⟨_, rfl⟩
  have HINV := Lib.hid hINV
  have HMU := Lib.hid hMU
  clear hINV hMU
  refine wpIn_loop INV MU ?_ ?_
  · rw [HINV.out]
    exact ⟨fun _ => undef, [], 0, rfl, HRS, HB, Lib.hid ⟨(fun _ h => by cases h), List.nodup_nil, (fun _ h => by cases h)⟩, HR, Nat.zero_le _⟩
  intro a' wl hi
  rw [HINV.out] at hi
  obtain ⟨v, Ds, k, rfl, HS, HBL, HO, HPK, hk⟩ := hi
  clear k3
  by_cases hlt : k < n4
  · have hkl : k < u.procs.length := by rw [HL4.out]; exact hlt
    obtain ⟨pb, off, hA, hel, e0, e1, v2, e2, Ab, cb, rfl, hrb⟩ := HPR.out.one hkl
    subst hA
    have hwp := HWF.out.pc _ (List.getElem_mem hkl)
    have hgo := pcFgo (u := u) hkl
    obtain ⟨p, hp⟩ : ∃ p, u.procs[k] = p := ⟨_, rfl⟩
    rw [hp] at e0 e1 e2 hrb hwp hgo
    obtain ⟨nb, hnb⟩ : ∃ n, p.body.length = n := ⟨_, rfl⟩
    rw [hnb] at e2
    have hbl := HBL.out
    have y0 := (hbl.cell (p := ⟨pb, off + k * 3, none⟩) hel).trans e0
    have y1 := (hbl.cell (p := ⟨pb, off + k * 3 + 1, none⟩) hel).trans e1
    have y2 := (hbl.cell (p := ⟨pb, off + k * 3 + 2, none⟩) hel).trans e2
    obtain ⟨X1, hX1⟩ : ∃ X, (wl.alloc (.cells #[.int .i64 (k : Int)] 3)).alloc (.cells #[.string p.name, .string p.param, .slice Ab nb cb] 44) = X := ⟨_, rfl⟩
    obtain ⟨g0, g1, hb1, hz1⟩ := two16s wl _ _ hX1
    have KA : Boxed X1 wl.heap.size 3 (.int .i64 (k : Int)) := g0
    have PB : Blk X1 (wl.heap.size + 1) 44 #[.string p.name, .string p.param, .slice Ab nb cb] := g1
    have z0 : X1.cell? ⟨wl.heap.size + 1, 0, none⟩ = some (.string p.name) := PB.cell 0
    have z1 : X1.cell? ⟨wl.heap.size + 1, 1, none⟩ = some (.string p.param) := PB.cell 1
    have z2 : X1.cell? ⟨wl.heap.size + 1, 2, none⟩ = some (.slice Ab nb cb) := PB.cell 2
    have hwX := belowThen hbl hb1
    have HSZ := Lib.hid (iSize16 dx d p hwp Ab nb cb hnb X1 (HT.out.below hwX) (hrb.below (stabM dx d) hwX))
    obtain ⟨er, her⟩ : ∃ r, szE p = r := ⟨_, rfl⟩
    rw [her] at HSZ
    have HER := Lib.hid her
    have HGO := Lib.hid hgo
    have HKA := Lib.hid KA
    have HPB := Lib.hid PB
    have HWX := Lib.hid hwX
    have HX1 := Lib.hid hX1
    have HB1 := Lib.hid hb1
    have HZ1 := Lib.hid hz1
    have HRB := Lib.hid hrb
    have HNB := Lib.hid hnb
    have HWP := Lib.hid hwp
    have hk0 : (0 : Int) ≤ k := by omega
    have hk1 : (k : Int) < n4 := by omega
    clear hX1 g0 g1 hb1 hz1 KA PB hwX her hgo hbl e0 e1 e2 hrb hwp hp hnb
    gi_upto_region 4 with fail
    rw [HX1.out]
    gi_wp2_with fail
    refine ⟨trivial, (callsIn_wide.2 HSZ.out).mono ?_⟩
    rintro e Y ⟨rfl, hY⟩
    have hKY : Boxed Y wl.heap.size 3 (.int .i64 (k : Int)) := (hY.block _ HKA.out.lt).trans HKA.out
    have hPY : Blk Y (wl.heap.size + 1) 44 #[.string p.name, .string p.param, .slice Ab nb cb] := (hY.block _ HPB.out.lt).trans HPB.out
    have hRY : Res6 w.heap.size 0 0 0 Y := (HS.out.below HB1.out).below hY
    have hOY : OpenR Ds Y := HO.out.1.chg (Chg.ofBelow (belowThen HB1.out hY) fun _ => True) fun _ _ => trivial
    have hBY := belowThen HWX.out hY
    have x0 : Y.cell? ⟨wl.heap.size + 1, 0, none⟩ = some (.string p.name) := hPY.cell 0
    have x1 : Y.cell? ⟨wl.heap.size + 1, 1, none⟩ = some (.string p.param) := hPY.cell 1
    have x2 : Y.cell? ⟨wl.heap.size + 1, 2, none⟩ = some (.slice Ab nb cb) := hPY.cell 2
    have kk := hKY.cell
    have HKY := Lib.hid hKY
    have HPY := Lib.hid hPY
    have HRY := Lib.hid hRY
    have HOY := Lib.hid hOY
    have HBY := Lib.hid hBY
    have HZW := Lib.hid (show w.heap.size + 3 ≤ wl.heap.size from by have h1 := HS.out.r3.lt; omega)
    by_cases her : er = 0
    rotate_left
    · have hez : (er != 0) = true := by simpa using her
      have HRR := Lib.hid (show (er, (k : Int), (-1 : Int)) = R by
        rw [← HPK.out, HGO.out]
        have : pcE u p = (er, -1) := by unfold pcE; rw [if_pos (by rw [HER.out]; exact her), HER.out]
        rw [this, if_pos her])
      have q1 := hRY.r1.cell
      have q2 := hRY.r2.cell
      have q3 := hRY.r3.cell
      have q4 := hRY.r1.frozen
      have q5 := hRY.r2.frozen
      have q6 := hRY.r3.frozen
      have hch := storedR (b := w.heap.size) (W := Y) er (k : Int) (-1)
      have HCH := Lib.hid (hch.trans (Chg.ofBelow ((Below.refl _ _).drew) (fun q => q ≠ w.heap.size ∧ q ≠ w.heap.size + 1 ∧ q ≠ w.heap.size + 1 + 1)) fun _ _ h => h)
      have hr6 := hRY.set er (k : Int) (-1)
      have HR6 := Lib.hid (hr6.below ((Below.refl _ _).drew))
      clear hch hr6
      clear hKY hPY hRY hOY hBY hY her x0 x1 x2 z0 z1 z2 y0 y1 y2
      have hzw : w.heap.size + 1 + 1 < wl.heap.size := by have := HZW.out; omega
      gi_wp2_with fail
      gi_region
      all_goals gi_wp2_with fail
      all_goals
        refine leaveR (B := V.heap.size) (K := fun X => Res6 w.heap.size er (k : Int) (-1) X ∧ Below w.heap.size w X) (fun X D hD _ h => ⟨h.1.put (by have := HZ.out; omega) _, belowPutR h.2 (by have := HZ.out; omega)⟩) (fun X hK => ?_) Ds _ HO.out.2.1 HO.out.2.2 (HOY.out.chg HCH.out fun D hD => by have := HO.out.2.2 D hD; have := HZ.out; omega) ⟨HR6.out, ?_⟩
        · exact ⟨_, res6 rfl rfl rfl hK.1.r1 hK.1.r2 hK.1.r3, by rw [← HRR.out]; rfl, hK.2⟩
        · have hb := HBY.out
          have hc := HCH.out
          exact ⟨hc.os.trans hb.os, hc.tape.trans hb.tape, hc.output.trans hb.output, Nat.le_trans hb.size hc.size, fun q hq => (hc.block q (Nat.lt_of_lt_of_le hq hb.size) ⟨by omega, by omega, by omega⟩).trans (hb.block q hq)⟩
    · subst her
      have HSTF := Lib.hid (show pcE u p = stF u (lcP p) (numb 0 (Tr.ndsL 1 p.body)) from by unfold pcE; rw [if_neg (by rw [HER.out]; simp)])
      clear hKY hPY hRY hOY hBY x0 x1 x2 z0 z1 z2 y0 y1 y2 kk
      gi_upto_region 7 with fail
      rename_i K hK
      have hkk : ∀ (Z : World) (vb g ub lb : Nat) (AL : Option Addr) (nl cL : Nat), Below Y.heap.size Y Z → Chks g ub lb a AL nl cL Z → Boxed Z vb 150 (.slice (some ⟨g, 0, none⟩) 9 9) → (lcP p).length = nl → RdE 1 ES Z AL cL (lcP p) →
          K { tmps := #[.pointer (some ⟨b, 0, none⟩), .pointer (some ⟨w.heap.size, 0, none⟩), .pointer (some ⟨w.heap.size + 1, 0, none⟩), .pointer (some ⟨w.heap.size + 1 + 1, 0, none⟩), .pointer (some ⟨wl.heap.size, 0, none⟩), .pointer (some ⟨wl.heap.size + 1, 0, none⟩), .int .i64 0, .pointer (some ⟨vb, 0, none⟩), v 8, v 9, v 10, v 11, v 12, .pointer (some ⟨b, 3, none⟩), .slice (some ⟨pb, off, none⟩) n4 c4, .int .i64 (n4 : Int), .int .i64 (k : Int), .bool true, .int .i64 (k : Int), .pointer (some ⟨pb, off + k * 3, none⟩), .agg #[.string p.name, .string p.param, .slice Ab nb cb], .agg #[.string p.name, .string p.param, .slice Ab nb cb], .int .i64 0, .int .i64 0, .bool false, v 25, v 26, .agg #[.slice a.A1 a.n1 a.c1, .slice a.A2 a.n2 a.c2, .slice a.A3 a.n3 a.c3, .slice a.A4 a.n4 a.c4, .slice a.A5 a.n5 a.c5], .agg #[.string p.name, .string p.param, .slice Ab nb cb], .slice AL nl cL, .slice (some ⟨g, 0, none⟩) 9 9, v 31, v 32, v 33, v 34, v 35, v 36, v 37, v 38, v 39, v 40, v 41, v 42, v 43, v 44, v 45, v 46, v 47, v 48, v 49, v 50, v 51, v 52, v 53, v 54], defers := Ds.map markR } Z := by
        intro Z vb g ub lb AL nl cL hYZ hCk hvb hnl hrl
        refine hK _ _ ?_
        clear hK K
        have hWZ := belowThen HBY.out hYZ
        have PZ : Blk Z (wl.heap.size + 1) 44 #[.string p.name, .string p.param, .slice Ab nb cb] := (hYZ.block _ HPY.out.lt).trans HPY.out
        have x2 : Z.cell? ⟨wl.heap.size + 1, 2, none⟩ = some (.slice Ab nb cb) := PZ.cell 2
        have HST := Lib.hid (iStatements Ab nb cb Z)
        have HWZ := Lib.hid hWZ
        have HYZ := Lib.hid hYZ
        have HCK := Lib.hid hCk
        have HVB := Lib.hid hvb
        have HNL := Lib.hid hnl
        have HRL := Lib.hid hrl
        clear hWZ PZ hYZ hCk hvb hnl hrl
        gi_wp2_with fail
        refine ⟨trivial, (callsIn_wide.2 HST.out).mono ?_⟩
        rintro e Z2 ⟨rfl, hI, hb2⟩
        obtain ⟨z, hzz⟩ : ∃ z, Z.heap.size = z := ⟨_, rfl⟩
        rw [hzz] at hI
        have HI := Lib.hid hI
        have HZ2 := Lib.hid hb2
        have HZS := Lib.hid (show z + 1 < Z2.heap.size ∧ Y.heap.size ≤ z ∧ Z.heap.size = z ∧ w.heap.size + 3 ≤ Y.heap.size from ⟨hI.f.lt, by have := HYZ.out.size; omega, hzz, by have := HRY.out.r3.lt; omega⟩)
        have HV2 := Lib.hid (visSM dx d 7 (by omega) w z Ab nb cb p.body HNB.out HRB.out HWP.out.body.sz (fun _ => True) (fun _ _ h => absurd trivial h))
        obtain ⟨RR, hRR⟩ : ∃ RR, stF u (lcP p) (numb 0 (Tr.ndsL 1 p.body)) = RR := ⟨_, rfl⟩
        have HRR := Lib.hid hRR
        unfold itrM
        rw [hzz]
        clear hI hb2 hzz x2 hRR
        gi_wp2_with fail
        refine rangeLow (w := Z2) (w0 := w) (gf := 170) (lb := #[.pointer (some ⟨z, 0, none⟩), .pointer (some ⟨z + 1, 0, none⟩)]) rfl entVisM (Arg := ArgM dx d w) (G := fun X => Chg w X (fun _ => True) ∧ ItrM X z Ab nb cb) HV2.out
          (lowG (by have := HZS.out; omega) HZS.out.1) (belowThen HWZ.out HZ2.out) (fun x args h => by obtain ⟨_, _, _, _, _, _, rfl, _⟩ := h; rfl)
          (fun pre X => (∀ post, numb 0 (Tr.ndsL 1 p.body) = pre ++ post → stF u (lcP p) post = RR) ∧ Below Z2.heap.size Z2 X)
          (fun c pre X => (c = .ret ∧ RR.1 ≠ 0) ∧ Res6 w.heap.size RR.1 (k : Int) RR.2 X ∧ Chg Z2 X (fun q => q ≠ w.heap.size ∧ q ≠ w.heap.size + 1 ∧ q ≠ w.heap.size + 1 + 1))
          ?hI ?hIx ?hIG ?hIxG ⟨fun post h => by rw [← HRR.out, h]; rfl, Below.refl _ _⟩
          (fun X args => { tmps := #[.pointer (some ⟨b, 0, none⟩), .pointer (some ⟨w.heap.size, 0, none⟩), .pointer (some ⟨w.heap.size + 1, 0, none⟩), .pointer (some ⟨w.heap.size + 1 + 1, 0, none⟩), .pointer (some ⟨wl.heap.size, 0, none⟩), .pointer (some ⟨wl.heap.size + 1, 0, none⟩), .int .i64 0, .pointer (some ⟨vb, 0, none⟩), .pointer (some ⟨X.heap.size, 0, none⟩), .pointer (some ⟨X.heap.size + 1, 0, none⟩), v 10, v 11, v 12, .pointer (some ⟨b, 3, none⟩), .slice (some ⟨pb, off, none⟩) n4 c4, .int .i64 (n4 : Int), .int .i64 (k : Int), .bool true, .int .i64 (k : Int), .pointer (some ⟨pb, off + k * 3, none⟩), .agg #[.string p.name, .string p.param, .slice Ab nb cb], .agg #[.string p.name, .string p.param, .slice Ab nb cb], .int .i64 0, .int .i64 0, .bool false, v 25, v 26, .agg #[.slice a.A1 a.n1 a.c1, .slice a.A2 a.n2 a.c2, .slice a.A3 a.n3 a.c3, .slice a.A4 a.n4 a.c4, .slice a.A5 a.n5 a.c5], .agg #[.string p.name, .string p.param, .slice Ab nb cb], .slice AL nl cL, .slice (some ⟨g, 0, none⟩) 9 9, .pointer (some ⟨wl.heap.size + 1, 2, none⟩), .slice Ab nb cb, .func (.func 170) #[] #[.pointer (some ⟨z, 0, none⟩), .pointer (some ⟨z + 1, 0, none⟩)], args.getD 0 undef, args.getD 1 undef, v 36, v 37, v 38, v 39, v 40, v 41, v 42, v 43, v 44, v 45, v 46, v 47, v 48, v 49, v 50, v 51, v 52, v 53, v 54], defers := [] }) (fun args X => (X.alloc (.cells (agC (args.getD 0 undef)) 92)).alloc (.cells (agC (args.getD 1 undef)) 54)) (fun _ _ => belowThen (belowAlloc _ _) (belowAlloc _ _)) ?assign ?body ?done ?stop
        case hI => exact fun p => lowAnd (lowPure _) lowBelow
        case hIx => exact fun c p => lowAnd (lowPure _) (lowAnd (lowRes6 (by have := HZS.out; omega)) lowChg)
        case hIG => exact fun p X h => ⟨Chg.ofBelow (belowThen (belowThen HWZ.out HZ2.out) h.2) _, (h.2.block _ HI.out.l.lt).trans HI.out.l, (h.2.block _ HI.out.f.lt).trans HI.out.f⟩
        case hIxG => exact fun c p X h => ⟨(Chg.ofBelow (belowThen HWZ.out HZ2.out) (fun _ => True)).trans h.2.2 (fun q hq _ => by omega), (h.2.2.block _ HI.out.l.lt (by have := HZS.out; omega)).trans HI.out.l, (h.2.2.block _ HI.out.f.lt (by have := HZS.out; omega)).trans HI.out.f⟩
        case assign =>
          intro lr x args X KK ha hKK
          obtain ⟨_, _, _, _, _, _, rfl, _⟩ := ha
          rw [zip2]
          gi_wp2_with fail
          exact hKK
        case stop =>
          rintro Dn c pre X hDn ⟨⟨rfl, h2⟩, h3, h4⟩ hKd
          have hYZ2 := belowThen HYZ.out HZ2.out
          have HCX := Lib.hid ((Chg.ofBelow hYZ2 (fun q => q ≠ w.heap.size ∧ q ≠ w.heap.size + 1 ∧ q ≠ w.heap.size + 1 + 1)).trans h4 fun _ _ h => h)
          have HRQ := Lib.hid (show (RR.1, (k : Int), RR.2) = R by rw [← HPK.out, HGO.out, HSTF.out, HRR.out, if_pos h2])
          have HR6 := Lib.hid h3
          have HKD := Lib.hid hKd
          have hds : ∀ D ∈ Dn :: Ds, V.heap.size ≤ D := fun D hD => by
            rcases List.mem_cons.1 hD with rfl | hD
            · have := HZ.out; have := HZS.out; omega
            · exact HO.out.2.2 D hD
          have hnd : (Dn :: Ds).Nodup := List.nodup_cons.2 ⟨fun h => by have := HOY.out.lt h; have := HZS.out; omega, HO.out.2.1⟩
          have hop : OpenR (Dn :: Ds) X := fun D hD => by
            rcases List.mem_cons.1 hD with rfl | hD
            · exact HKD.out
            · exact HOY.out.chg HCX.out (fun D hD => by have := HO.out.2.2 D hD; have := HZ.out; omega) D hD
          have HDS := Lib.hid (And.intro hop (And.intro hnd hds))
          clear h2 h3 h4 hKd hYZ2 hds hnd hop
          gi_wp2_with fail
          refine leaveR (B := V.heap.size) (K := fun X => Res6 w.heap.size RR.1 (k : Int) RR.2 X ∧ Below w.heap.size w X) (fun X D hD _ h => ⟨h.1.put (by have := HZ.out; omega) _, belowPutR h.2 (by have := HZ.out; omega)⟩) (fun X hK => ?_) (Dn :: Ds) _ HDS.out.2.1 HDS.out.2.2 HDS.out.1 ⟨HR6.out, ?_⟩
          · exact ⟨_, res6 rfl rfl rfl hK.1.r1 hK.1.r2 hK.1.r3, by rw [← HRQ.out]; rfl, hK.2⟩
          · have hb := HBY.out
            have hc := HCX.out
            exact ⟨hc.os.trans hb.os, hc.tape.trans hb.tape, hc.output.trans hb.output, Nat.le_trans hb.size hc.size, fun q hq => (hc.block q (Nat.lt_of_lt_of_le hq hb.size) ⟨by omega, by omega, by omega⟩).trans (hb.block q hq)⟩
        case done =>
          rintro Dn X hDn ⟨h1, h2⟩ hKd
          have hYX := belowThen (belowThen HYZ.out HZ2.out) h2
          have HRX := Lib.hid (HRY.out.below hYX)
          have HBX := Lib.hid (belowThen HBY.out hYX)
          have hds : ∀ D ∈ Dn :: Ds, V.heap.size ≤ D := fun D hD => by
            rcases List.mem_cons.1 hD with rfl | hD
            · have := HZ.out; have := HZS.out; omega
            · exact HO.out.2.2 D hD
          have hnd : (Dn :: Ds).Nodup := List.nodup_cons.2 ⟨fun h => by have := HOY.out.lt h; have := HZS.out; omega, HO.out.2.1⟩
          have hop : OpenR (Dn :: Ds) X := fun D hD => by
            rcases List.mem_cons.1 hD with rfl | hD
            · exact hKd
            · exact HOY.out.chg (Chg.ofBelow hYX (fun _ => True)) (fun _ _ => trivial) D hD
          have HDS := Lib.hid (And.intro hop (And.intro hnd hds))
          have HNX := Lib.hid (show pcF u (u.procs.drop (k + 1)) (k + 1) = R by
            have h0 : (0, -1) = RR := h1 [] (by simp)
            rw [← HPK.out, HGO.out, HSTF.out, HRR.out, ← h0, if_neg (by simp)])
          clear h1 h2 hKd hYX hds hnd hop
          gi_wp2_with fail
          refine ⟨?_, ?_⟩
          · rw [HINV.out]
            exact ⟨fun i => (#[.pointer (some ⟨b, 0, none⟩), .pointer (some ⟨w.heap.size, 0, none⟩), .pointer (some ⟨w.heap.size + 1, 0, none⟩), .pointer (some ⟨w.heap.size + 1 + 1, 0, none⟩), .pointer (some ⟨wl.heap.size, 0, none⟩), .pointer (some ⟨wl.heap.size + 1, 0, none⟩), .int .i64 0, .pointer (some ⟨vb, 0, none⟩), v 8, v 9, v 10, v 11, v 12, .pointer (some ⟨b, 3, none⟩), .slice (some ⟨pb, off, none⟩) n4 c4, .int .i64 (n4 : Int), .int .i64 (k : Int), .bool true, .int .i64 (k : Int), .pointer (some ⟨pb, off + k * 3, none⟩), .agg #[.string p.name, .string p.param, .slice Ab nb cb], .agg #[.string p.name, .string p.param, .slice Ab nb cb], .int .i64 0, .int .i64 0, .bool false, v 25, v 26, .agg #[.slice a.A1 a.n1 a.c1, .slice a.A2 a.n2 a.c2, .slice a.A3 a.n3 a.c3, .slice a.A4 a.n4 a.c4, .slice a.A5 a.n5 a.c5], .agg #[.string p.name, .string p.param, .slice Ab nb cb], .slice AL nl cL, .slice (some ⟨g, 0, none⟩) 9 9, .pointer (some ⟨wl.heap.size + 1, 2, none⟩), .slice Ab nb cb, .func (.func 170) #[] #[.pointer (some ⟨z, 0, none⟩), .pointer (some ⟨z + 1, 0, none⟩)], v 34, v 35, v 36, v 37, v 38, v 39, v 40, v 41, v 42, v 43, v 44, v 45, v 46, v 47, v 48, v 49, v 50, v 51, v 52, v 53, .int .i64 ((k : Int) + 1)] : Array Value).getD i undef, Dn :: Ds, k + 1, rfl, HRX, HBX, HDS, HNX, by omega⟩
          · rw [HMU.out]
            show n4 - (intOf (.int .i64 ((k : Int) + 1))).toNat < n4 - (intOf (.int .i64 (k : Int))).toNat
            simp only [intOf]
            omega
        case body =>
          rintro lr pre x post args X U' hL ⟨h1, h2⟩ hA hs ⟨o, hU'⟩ hlX hlV
          obtain ⟨A6, c6, A7, c7, A8, c8, rfl, hE6, hE7, hE8⟩ := hA
          obtain ⟨num, lv, y⟩ := x
          dsimp only at hE6 hE7 hE8
          have hmem : (num, lv, y) ∈ numb 0 (Tr.ndsL 1 p.body) := by rw [hL]; simp
          have hnam : y.val.name.size ≤ maxLen := HWP.out.body.nm _ hmem
          have hex : ∀ e ∈ y.val.exprs, WfX e := HWP.out.body.ex _ hmem
          have hgoS : ∀ q, stF u (lcP p) ((num, lv, y) :: q) = if stE u (lcP p) lv y ≠ 0 then (stE u (lcP p) lv y, (num : Int)) else stF u (lcP p) q := fun q => rfl
          obtain ⟨E, hE⟩ : ∃ E, stE u (lcP p) lv y = E := ⟨_, rfl⟩
          rw [hE] at hgoS
          rw [stEck] at hE
          have hpl : Blk U' X.heap.size 92 #[.int .i64 (num : Int), .int .i64 (lv : Int)] := by
            rw [hU']
            exact (World.putObj_heap_other (show X.heap.size ≠ lr by omega)).trans ((belowAlloc _ _).block _ (by simp) |>.trans (Blk.new X _ _))
          have hst : Blk U' (X.heap.size + 1) 54 (smC y.val.kind y.val.name y.val.obj y.val.other y.val.fn y.val.ord (.slice A6 y.val.exprs.length c6) (.slice A7 y.fst.length c7) (.slice A8 y.snd.length c8)) := by
            rw [hU']
            refine (World.putObj_heap_other (show X.heap.size + 1 ≠ lr by omega)).trans ?_
            exact Blk.new1 X _ _ _
          have hYU := belowThen (belowThen HYZ.out HZ2.out) h2
          have hZU := belowThen HZ2.out h2
          have hck := HCK.out.below hZU
          have hvb : Boxed U' vb 150 (.slice (some ⟨g, 0, none⟩) 9 9) := (hZU.block _ HVB.out.lt).trans HVB.out
          have v0 := hvb.cell
          have HH1 := Lib.hid h1
          have HH2 := Lib.hid h2
          have HPL := Lib.hid hpl
          have HSM := Lib.hid hst
          have HCU := Lib.hid hck
          have HYU := Lib.hid hYU
          have HNAM := Lib.hid hnam
          have HEX := Lib.hid hex
          have HGS := Lib.hid hgoS
          have HEE := Lib.hid (show ckF (ckS u (lcP p) lv y) (9 - 0) 0 = E ∧ ∀ i, i < 0 → ckS u (lcP p) lv y i = 0 from ⟨hE, fun _ h => absurd h (Nat.not_lt_zero _)⟩)
          have HE6 := Lib.hid hE6
          have HLP := Lib.hid hL
          clear h1 h2 hpl hst hck hYU hZU hnam hex hgoS hE hE6 hE7 hE8 hmem hU' hvb hL
          gi_wp2_with fail
          gi_loopw [38] (fun i wr => ∃ j : Nat, j ≤ 9 ∧ i = .int .i64 j ∧ Hid (Below U'.heap.size U' wr) ∧ Hid (ckF (ckS u (lcP p) lv y) (9 - j) j = E ∧ ∀ i, i < j → ckS u (lcP p) lv y i = 0)) (fun i _ => 9 - (intOf i).toNat)
          case atStart => exact ⟨0, by omega, rfl, Lib.hid (Below.refl _ _), HEE⟩
          case round =>
            obtain ⟨j, hj, rfl, hbr, hcj⟩ := hrel
            by_cases hlt : j < 9
            · have hwU := belowThen (belowThen HBY.out HYU.out) hbr.out
              have hcw := HCU.out.below hbr.out
              have hpw := HPL.out.below' hbr.out
              have hsw := HSM.out.below' hbr.out
              have p1 : wr.cell? ⟨X.heap.size, 1, none⟩ = some (.int .i64 (lv : Int)) := hpw.cell 1
              have s0 : wr.cell? ⟨X.heap.size + 1, 0, none⟩ = some (.int .i64 y.val.kind) := hsw.cell 0
              have s1 : wr.cell? ⟨X.heap.size + 1, 1, none⟩ = some (.string y.val.name) := hsw.cell 1
              have s2 : wr.cell? ⟨X.heap.size + 1, 2, none⟩ = some (.string y.val.obj) := hsw.cell 2
              have s3 : wr.cell? ⟨X.heap.size + 1, 3, none⟩ = some (.string y.val.other) := hsw.cell 3
              have s4 : wr.cell? ⟨X.heap.size + 1, 4, none⟩ = some (.int .i64 y.val.fn) := hsw.cell 4
              have s5 : wr.cell? ⟨X.heap.size + 1, 5, none⟩ = some (.int .i64 y.val.ord) := hsw.cell 5
              have s6 : wr.cell? ⟨X.heap.size + 1, 6, none⟩ = some (.slice A6 y.val.exprs.length c6) := hsw.cell 6
              have s7 : wr.cell? ⟨X.heap.size + 1, 7, none⟩ = some (.slice A7 y.fst.length c7) := hsw.cell 7
              have s8 : wr.cell? ⟨X.heap.size + 1, 8, none⟩ = some (.slice A8 y.snd.length c8) := hsw.cell 8
              obtain ⟨r9, hr9⟩ : ∃ r, ckS u (lcP p) lv y j = r := ⟨_, rfl⟩
              have hcc := fun fn bs h => ckCalls u a dx d ub lb g (lcP p) AL nl cL HNL.out lv y A6 A7 A8 c6 c7 c8 wr (HT.out.below hwU) (HU.out.below hwU) hcw (HE6.out.below (stabX dx) hwU) HEX.out HNAM.out (HRL.out.below stabS (belowThen (belowThen HZ2.out HH2.out) hbr.out)) j hlt hcj.out.2 fn bs h
              rw [hr9] at hcc
              have har := hcw.arr
              have HR9 := Lib.hid hr9
              have HWU := Lib.hid hwU
              have hstep : ckF (ckS u (lcP p) lv y) (9 - j) j = if r9 ≠ 0 then r9 else ckF (ckS u (lcP p) lv y) (9 - (j + 1)) (j + 1) := by
                rw [show 9 - j = (9 - (j + 1)) + 1 by omega, ckF, hr9]
              have HSTP := Lib.hid hstep
              clear hwU hcw hpw hsw hr9 hstep
              have hj0 : (0 : Int) ≤ j := by omega
              have hj1 : (j : Int) < 9 := by omega
              gi_upto_region 13 with fail
              rename_i KA hKA
              obtain ⟨KB, hKB, hKA2⟩ := splitSeq hKA
              clear hKA
              have hrest : ∀ (t11 t40 t41 t42 t43 t44 t45 t46 : Value) (Y9 : World), Below wr.heap.size wr Y9 → KB { tmps := #[.pointer (some ⟨b, 0, none⟩), .pointer (some ⟨w.heap.size, 0, none⟩), .pointer (some ⟨w.heap.size + 1, 0, none⟩), .pointer (some ⟨w.heap.size + 1 + 1, 0, none⟩), .pointer (some ⟨wl.heap.size, 0, none⟩), .pointer (some ⟨wl.heap.size + 1, 0, none⟩), .int .i64 0, .pointer (some ⟨vb, 0, none⟩), .pointer (some ⟨X.heap.size, 0, none⟩), .pointer (some ⟨X.heap.size + 1, 0, none⟩), v 10, t11, .int .i64 r9, .pointer (some ⟨b, 3, none⟩), .slice (some ⟨pb, off, none⟩) n4 c4, .int .i64 (n4 : Int), .int .i64 (k : Int), .bool true, .int .i64 (k : Int), .pointer (some ⟨pb, off + k * 3, none⟩), .agg #[.string p.name, .string p.param, .slice Ab nb cb], .agg #[.string p.name, .string p.param, .slice Ab nb cb], .int .i64 0, .int .i64 0, .bool false, v 25, v 26, .agg #[.slice a.A1 a.n1 a.c1, .slice a.A2 a.n2 a.c2, .slice a.A3 a.n3 a.c3, .slice a.A4 a.n4 a.c4, .slice a.A5 a.n5 a.c5], .agg #[.string p.name, .string p.param, .slice Ab nb cb], .slice AL nl cL, .slice (some ⟨g, 0, none⟩) 9 9, .pointer (some ⟨wl.heap.size + 1, 2, none⟩), .slice Ab nb cb, .func (.func 170) #[] #[.pointer (some ⟨z, 0, none⟩), .pointer (some ⟨z + 1, 0, none⟩)], .agg #[.int .i64 (num : Int), .int .i64 (lv : Int)], .agg #[.int .i64 y.val.kind, .string y.val.name, .string y.val.obj, .string y.val.other, .int .i64 y.val.fn, .int .i64 y.val.ord, .slice A6 y.val.exprs.length c6, .slice A7 y.fst.length c7, .slice A8 y.snd.length c8], .slice (some ⟨g, 0, none⟩) 9 9, .int .i64 9, .int .i64 (j : Int), .bool true, t40, t41, t42, t43, t44, t45, t46, u47, u48, u49, u50, u51, u52, u53, v 54], defers := [] } Y9 := by
                intro t11 t40 t41 t42 t43 t44 t45 t46 Y9 hb9
                have HB9 := Lib.hid (belowThen hbr.out hb9)
                clear s0 s1 s2 s3 s4 s5 s6 s7 s8 p1 hb9 har hcc hKA2
                refine hKB _ _ ?_
                clear hKB KB KA
                by_cases hr0 : r9 = 0
                · subst hr0
                  have HNX := Lib.hid (show ckF (ckS u (lcP p) lv y) (9 - (j + 1)) (j + 1) = E ∧ ∀ i, i < j + 1 → ckS u (lcP p) lv y i = 0 from ⟨by rw [← hcj.out.1, HSTP.out, if_neg (by simp)], fun i hi => by
                    rcases (by omega : i < j ∨ i = j) with h | rfl
                    · exact hcj.out.2 i h
                    · exact HR9.out⟩)
                  gi_wp2_with fail
                  go_roundw
                  case rel => exact ⟨j + 1, by omega, by go_num, HB9, HNX⟩
                  case measure => simp [intOf]; omega
                · have HRQ := Lib.hid (show (r9, (num : Int)) = RR by
                    have h1 := HH1.out _ HLP.out
                    have hE : r9 = E := by rw [← hcj.out.1, HSTP.out, if_pos hr0]
                    rw [← h1, HGS.out, ← hE, if_pos hr0])
                  have hez : (r9 != 0) = true := by simpa using hr0
                  have hY9 := belowThen HYU.out HB9.out
                  have hRY := HRY.out.below hY9
                  have q1 := hRY.r1.cell
                  have q2 := hRY.r2.cell
                  have q3 := hRY.r3.cell
                  have q4 := hRY.r1.frozen
                  have q5 := hRY.r2.frozen
                  have q6 := hRY.r3.frozen
                  have kk := Boxed.cell (show Boxed Y9 wl.heap.size 3 (.int .i64 (k : Int)) from (hY9.block _ HKY.out.lt).trans HKY.out)
                  have p0 : Y9.cell? ⟨X.heap.size, 0, none⟩ = some (.int .i64 (num : Int)) := (HPL.out.below' HB9.out).cell 0
                  have HCH := Lib.hid ((storedR (b := w.heap.size) (W := Y9) r9 (k : Int) (num : Int)).trans (Chg.ofBelow ((Below.refl _ _).drew) (fun q => q ≠ w.heap.size ∧ q ≠ w.heap.size + 1 ∧ q ≠ w.heap.size + 1 + 1)) fun _ _ h => h)
                  have HR6 := Lib.hid ((hRY.set r9 (k : Int) (num : Int)).below ((Below.refl _ _).drew))
                  have HRN := Lib.hid hr0
                  have hzw : w.heap.size + 1 + 1 < wl.heap.size := by have := HZW.out; omega
                  have hzx : w.heap.size + 1 + 1 < X.heap.size := by have := HZS.out; omega
                  clear hr0 hY9 hRY
                  gi_wp2_with fail
                  gi_region
                  all_goals gi_wp2_with fail
                  all_goals exact ⟨(Chg.ofBelow HB9.out (fun q => Z2.heap.size ≤ q)).trans HCH.out (fun q _ hq => by have := HZS.out; omega), ⟨rfl, by rw [← HRQ.out]; exact HRN.out⟩, by rw [← HRQ.out]; exact HR6.out, (Chg.ofBelow (belowThen HH2.out HB9.out) (fun q => q ≠ w.heap.size ∧ q ≠ w.heap.size + 1 ∧ q ≠ w.heap.size + 1 + 1)).trans HCH.out fun _ _ h => h⟩
              have hj9 : j = 0 ∨ j = 1 ∨ j = 2 ∨ j = 3 ∨ j = 4 ∨ j = 5 ∨ j = 6 ∨ j = 7 ∨ j = 8 := by omega
              clear HR9 HSTP hcj hKB
              rcases hj9 with rfl | rfl | rfl | rfl | rfl | rfl | rfl | rfl | rfl
              · have a0 : wr.cell? ⟨g, 0, none⟩ = some (.func (.func 146) #[] #[]) := har.cell 0
                have HCC := Lib.hid (hcc _ _ rfl)
                clear hcc har
                gi_wp2_with fail
                refine ⟨trivial, (callsIn_wide.2 HCC.out).mono ?_⟩
                rintro e Y9 ⟨rfl, hb9⟩
                gi_wp2_with fail
                exact hb9
              · have a0 : wr.cell? ⟨g, 1, none⟩ = some (.func (.func 147) #[] #[]) := har.cell 1
                have HCC := Lib.hid (hcc _ _ rfl)
                clear hcc har
                gi_wp2_with fail
                refine ⟨trivial, (callsIn_wide.2 HCC.out).mono ?_⟩
                rintro e Y9 ⟨rfl, hb9⟩
                gi_wp2_with fail
                exact hb9
              · have a0 : wr.cell? ⟨g, 2, none⟩ = some (.func (.func 148) #[] #[]) := har.cell 2
                have HCC := Lib.hid (hcc _ _ rfl)
                clear hcc har
                gi_wp2_with fail
                refine ⟨trivial, (callsIn_wide.2 HCC.out).mono ?_⟩
                rintro e Y9 ⟨rfl, hb9⟩
                gi_wp2_with fail
                exact hb9
              · have a0 : wr.cell? ⟨g, 3, none⟩ = some (.func (.func 150) #[] #[]) := har.cell 3
                have HCC := Lib.hid (hcc _ _ rfl)
                clear hcc har
                gi_wp2_with fail
                refine ⟨trivial, (callsIn_wide.2 HCC.out).mono ?_⟩
                rintro e Y9 ⟨rfl, hb9⟩
                gi_wp2_with fail
                exact hb9
              · have a0 : wr.cell? ⟨g, 4, none⟩ = some (.func (.func 151) #[] #[.pointer (some ⟨ub, 0, none⟩)]) := har.cell 4
                have HCC := Lib.hid (hcc _ _ rfl)
                clear hcc har
                gi_wp2_with fail
                refine ⟨trivial, (callsIn_wide.2 HCC.out).mono ?_⟩
                rintro e Y9 ⟨rfl, hb9⟩
                gi_wp2_with fail
                exact hb9
              · have a0 : wr.cell? ⟨g, 5, none⟩ = some (.func (.func 152) #[] #[]) := har.cell 5
                have HCC := Lib.hid (hcc _ _ rfl)
                clear hcc har
                gi_wp2_with fail
                refine ⟨trivial, (callsIn_wide.2 HCC.out).mono ?_⟩
                rintro e Y9 ⟨rfl, hb9⟩
                gi_wp2_with fail
                exact hb9
              · have a0 : wr.cell? ⟨g, 6, none⟩ = some (.func (.func 153) #[] #[]) := har.cell 6
                have HCC := Lib.hid (hcc _ _ rfl)
                clear hcc har
                gi_wp2_with fail
                refine ⟨trivial, (callsIn_wide.2 HCC.out).mono ?_⟩
                rintro e Y9 ⟨rfl, hb9⟩
                gi_wp2_with fail
                exact hb9
              · have a0 : wr.cell? ⟨g, 7, none⟩ = some (.func (.func 155) #[] #[.pointer (some ⟨lb, 0, none⟩)]) := har.cell 7
                have HCC := Lib.hid (hcc _ _ rfl)
                clear hcc har
                gi_wp2_with fail
                refine ⟨trivial, (callsIn_wide.2 HCC.out).mono ?_⟩
                rintro e Y9 ⟨rfl, hb9⟩
                gi_wp2_with fail
                exact hb9
              · have a0 : wr.cell? ⟨g, 8, none⟩ = some (.func (.func 156) #[] #[]) := har.cell 8
                have HCC := Lib.hid (hcc _ _ rfl)
                clear hcc har
                gi_wp2_with fail
                refine ⟨trivial, (callsIn_wide.2 HCC.out).mono ?_⟩
                rintro e Y9 ⟨rfl, hb9⟩
                gi_wp2_with fail
                exact hb9
            · have hj9 : j = 9 := by omega
              subst hj9
              have hE0 : (0 : Int) = E := hcj.out.1
              gi_wp2_with fail
              exact ⟨Chg.ofBelow hbr.out _, fun post' h => by
                have h1 := HH1.out ((num, lv, y) :: post') (by rw [h, List.append_assoc]; rfl)
                rw [← h1, HGS.out, ← hE0, if_neg (by simp)], belowThen HH2.out hbr.out⟩
      have HKK := Lib.hid hkk
      have HLO := Lib.hid (fun (W' : World) (h : Below Y.heap.size Y W') => iLocals16 dx d p HWP.out Ab nb cb HNB.out W' (HT.out.below (belowThen HBY.out h)) (HRB.out.below (stabM dx d) (belowThen HBY.out h)))
      have HSC := Lib.hid (fun AL nl cL W' => iChecks a AL nl cL W')
      have yb := HUB.out.below HBY.out
      obtain ⟨b0, b1, b2, b3, b4⟩ := yb.facts
      have x0 : Y.cell? ⟨wl.heap.size + 1, 0, none⟩ = some (.string p.name) := HPY.out.cell 0
      have x1 : Y.cell? ⟨wl.heap.size + 1, 1, none⟩ = some (.string p.param) := HPY.out.cell 1
      have x2 : Y.cell? ⟨wl.heap.size + 1, 2, none⟩ = some (.slice Ab nb cb) := HPY.out.cell 2
      have HLY := Lib.hid (show b < Y.heap.size ∧ wl.heap.size + 1 < Y.heap.size from ⟨yb.lt, HPY.out.lt⟩)
      have hlb := HLY.out.1
      have hlp := HLY.out.2
      clear hkk hK yb
      gi_region_with (
        first
        | (refine ⟨trivial, (callsIn_wide.2 (HLO.out _ (by first | exact (Below.refl _ _).drew | exact belowThen ((Below.refl _ _).drew) (belowAlloc _ _)))).mono ?_⟩
           rintro e Z1 ⟨lov, rfl, hov, hb1⟩
           obtain ⟨AL, cL, rfl, hrl⟩ := hov.rd
           have hyz : Below Y.heap.size Y Z1 := belowThen (by first | exact (Below.refl _ _).drew | exact belowThen ((Below.refl _ _).drew) (belowAlloc _ _)) hb1
           have HYZ1 := Lib.hid hyz
           have HRL1 := Lib.hid hrl
           obtain ⟨d0, d1, d2, d3, d4⟩ := UBox.facts (HUB.out.below (belowThen HBY.out hyz))
           first
           | (have HVA := Lib.hid (show Boxed Z1 Y.heap.size 150 (.slice none 0 0) from (hb1.block _ (by simp)).trans (Blk.new Y.drew _ _)))
           | skip
           have hlz : b < Z1.heap.size := Nat.lt_of_lt_of_le hlb hyz.size
           have HOV := Lib.hid hov
           clear hov hyz hrl b0 b1 b2 b3 b4 x0 x1 x2)
        | (refine ⟨trivial, (callsIn_wide.2 (HSC.out _ _ _ _)).mono ?_⟩
           rintro e Z3 ⟨g, ub, lb, rfl, hck, hg, hub, hlb, hb3⟩
           first
           | (have HBX := Lib.hid (show Boxed Z3 Z1.heap.size 150 (.slice none 0 0) from (hb3.block _ (by simp)).trans (Blk.new Z1 _ _))
              have q5 := HBX.out.cell
              have f5 := HBX.out.frozen)
           | (have HBX := Lib.hid (show Boxed Z3 Y.heap.size 150 (.slice none 0 0) from (hb3.block _ HVA.out.lt).trans HVA.out)
              have q5 := HBX.out.cell
              have f5 := HBX.out.frozen)
           | skip
           have HCK3 := Lib.hid hck
           clear hck))
      all_goals
        gi_wp2_with fail
        first
        | exact HKK.out _ _ g ub lb AL _ cL (belowThen (belowThen HYZ1.out hb3) (belowAlloc _ _)) (HCK3.out.below (belowAlloc _ _)) (Blk.new Z3 _ _) rfl (HRL1.out.below stabS (belowThen hb3 (belowAlloc _ _)))
        | exact HKK.out _ _ g ub lb AL _ cL (belowThen HYZ1.out (belowSetC (belowThen (belowAlloc _ _) hb3) (Nat.le_refl _))) (HCK3.out.set _ (by simp at hg; omega) (by simp at hub; omega) (by simp at hlb; omega)) (HBX.out.set _) rfl (HRL1.out.below stabS (belowSetC (belowThen (belowAlloc _ _) hb3) (Nat.le_refl _)))
        | exact HKK.out _ _ g ub lb AL _ cL (belowSetC (belowThen HYZ1.out hb3) (Nat.le_refl _)) (HCK3.out.set _ (by have := HVA.out.lt; omega) (by have := HVA.out.lt; omega) (by have := HVA.out.lt; omega)) (HBX.out.set _) rfl (rdSet HOV.out hb3 _ (by simp))
  · have HX := Lib.hid (show (0, -1, -1) = R by rw [← HPK.out, pcFend (by rw [HL4.out]; omega)])
    have q1 := HS.out.r1.cell
    have q2 := HS.out.r2.cell
    have q3 := HS.out.r3.cell
    have q4 := HS.out.r1.frozen
    have q5 := HS.out.r2.frozen
    have q6 := HS.out.r3.frozen
    have HCH := Lib.hid (storedR (b := w.heap.size) (W := wl) 0 (-1) (-1))
    have HR6 := Lib.hid (HS.out.set 0 (-1) (-1))
    gi_wp2_with fail
    refine leaveR (B := V.heap.size) (K := fun X => Res6 w.heap.size 0 (-1) (-1) X ∧ Below w.heap.size w X) (fun X D hD _ h => ⟨h.1.put (by have := HZ.out; omega) _, belowPutR h.2 (by have := HZ.out; omega)⟩) (fun X hK => ?_) Ds _ HO.out.2.1 HO.out.2.2 (HO.out.1.chg HCH.out fun D hD => by have := HO.out.2.2 D hD; have := HZ.out; omega) ⟨HR6.out, ?_⟩
    · exact ⟨_, res6 rfl rfl rfl hK.1.r1 hK.1.r2 hK.1.r3, by rw [← HX.out]; rfl, hK.2⟩
    · have hb := HBL.out
      have hc := HCH.out
      exact ⟨hc.os.trans hb.os, hc.tape.trans hb.tape, hc.output.trans hb.output, Nat.le_trans hb.size hc.size, fun q hq => (hc.block q (Nat.lt_of_lt_of_le hq hb.size) ⟨by omega, by omega, by omega⟩).trans (hb.block q hq)⟩
end Go.Proofs.YtiaendggmamnkaaGreatDoor
