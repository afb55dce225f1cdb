/-
  Words for Reachable: the set that it has found so far lies in a box of its own; the marks that ranges over a function leave behind.
-/
import Derived.Test.YtdmajlgdjhmpdaaDoorCPgY
import Derived.Test.YtdmajlgdjhmpdaaDoorCPgP
import Derived.Test.YtdmajlgdjhmpdaaDoorCMkMrg
namespace Go.Proofs.YtdmajlgdjhmpdaaDoor
open Go Go.RowKit Go.Shelf
attribute [local go_sem] Oper.semAt_some

/-- The set of what has been reached, its box q, the program's box b. -/
structure RS (w0 : World) (b q : Nat) (a : PgA) (S : List Int) (W : World) : Prop where
  bel : Below w0.heap.size w0 W
  box : PBox W b a
  set : ∃ A n c, Boxed W q 45 (.slice A n c) ∧ Rd W A c S ∧ S.length = n
theorem rdBox {W : World} {A : Option Addr} {c q : Nat} {S : List Int} {B : Option Addr} {m d : Nat} (h : Rd W A c S) (hq : Boxed W q 45 (.slice B m d)) (v : Value) : Rd (W.setCell ⟨q, 0, none⟩ v) A c S :=
  ⟨Rds.le h, Rds.max h, fun hp => by
    obtain ⟨ad, e, lt, hc⟩ := Rds.at_ h hp
    refine ⟨ad, e, by simpa using lt, fun j u hu => ?_⟩
    have hcj := hc j u hu
    rw [World.cell?_setCell_other _ _ _ _ fun e => ?_]
    · exact hcj
    · rw [← e, hq.cell] at hcj
      have hu' : u ∈ iv S := List.mem_of_getElem? hu
      unfold iv at hu'
      obtain ⟨z, _, rfl⟩ := List.mem_map.1 hu'
      cases hcj⟩
theorem RS.put {w0 W : World} {b q : Nat} {a : PgA} {S S' : List Int} (h : RS w0 b q a S W) (hq : w0.heap.size ≤ q) (hb : b ≠ q) {A : Option Addr} {n c : Nat} (hr : Rd W A c S') (hn : S'.length = n) : RS w0 b q a S' (W.setCell ⟨q, 0, none⟩ (.slice A n c)) := by
  obtain ⟨B, m, d, hx, _, _⟩ := h.set
  exact ⟨h.bel.setCell hq _, Blk.other h.box hb 0 _, A, n, c, hx.set _, rdBox hr hx _, hn⟩
theorem RS.below {w0 W W' : World} {b q : Nat} {a : PgA} {S : List Int} (h : RS w0 b q a S W) (hb : Below W.heap.size W W') : RS w0 b q a S W' := by
  obtain ⟨A, n, c, hx, hr, hn⟩ := h.set
  exact ⟨belowThen h.bel hb, h.box.below hb, A, n, c, (hb.block _ hx.lt).trans hx, hr.below hb, hn⟩
theorem RS.own {β : Type} {B : Nat} {w0 : World} {b q : Nat} {a : PgA} {S : β → List Int} (hB : w0.heap.size ≤ B) : OwnFrom B (fun s W => RS w0 b q a (S s) W) := fun s X Y row h hg hr => by
  obtain ⟨A, n, c, hx, hrd, hn⟩ := h.set
  have hrow : ∀ r, row = some r → ∃ o : Obj, X.heap[r]? = some o ∧ o.isCells = false := fun r e => (hr r e).2
  have hne : ∀ {k : Nat} {T : TypeId} {cs : Array Value} {fr : Nat × Nat}, X.heap[k]? = some (.cells cs T fr) → some k ≠ row := fun hk e => by
    obtain ⟨_, ho, hc⟩ := hrow _ e.symm
    rw [hk] at ho
    injection ho with ho
    subst ho
    cases hc
  refine ⟨⟨hg.os.trans h.bel.os, hg.tape.trans h.bel.tape, hg.output.trans h.bel.output, Nat.le_trans h.bel.size hg.size, fun k hk => (hg.block k (Nat.lt_of_lt_of_le hk h.bel.size) fun e => ?_).trans (h.bel.block k hk)⟩, (hg.block b h.box.lt (hne h.box)).trans h.box, A, n, c, (hg.block q hx.lt (hne hx)).trans hx, ?_, hn⟩
  · have := (hr k e.symm).1
    omega
  · exact ⟨Rds.le hrd, Rds.max hrd, fun hp => by
      obtain ⟨ad, e, lt, hc⟩ := Rds.at_ hrd hp
      exact ⟨ad, e, Nat.lt_of_lt_of_le lt hg.size, fun j u hu => cell_kept (hc j u hu) hg hrow⟩⟩
theorem RS.drop {w0 W : World} {b q D : Nat} {a : PgA} {S : List Int} (h : RS w0 b q a S W) (hD : w0.heap.size ≤ D) (hd : W.heap[D]? = some (.deferred (some []))) (o : Obj) : RS w0 b q a S (W.putObj D o) :=
  RS.own (β := Unit) (S := fun _ => S) (Nat.le_refl w0.heap.size) () W _ (some D) h (grownBy_putObj' W D o) fun r e => by
    injection e with e
    subst e
    exact ⟨hD, _, hd, rfl⟩
/-- The mark of a range over a function. -/
def markD (D : Nat) : Deferred := { target := .collected D, args := #[] }
/-- The blocks of the marks: each holds no call. -/
def OpenD (Ds : List Nat) (W : World) : Prop := ∀ D ∈ Ds, W.heap[D]? = some (.deferred (some []))
theorem OpenD.keep {Ds : List Nat} {W W' : World} (h : OpenD Ds W) (hk : ∀ D ∈ Ds, W'.heap[D]? = W.heap[D]?) : OpenD Ds W' := fun D hD => (hk D hD).trans (h D hD)
/-- A function that leaves with marks alone: each block is shut, then it returns. -/
theorem leaveMarks {F : Fence} {n : Nat} {P : Program} {fn : Func} {tmps : Array Value} {R : Ending → World → Prop} {K : World → Prop} {B : Nat} (hK : ∀ (W : World) (D : Nat), B ≤ D → W.heap[D]? = some (.deferred (some [])) → K W → K (W.putObj D (.deferred none)))
    (hfin : ∀ W, K W → LeavesIn F n P fn tmps R [] .returning W) : ∀ (Ds : List Nat) (W : World), Ds.Nodup → (∀ D ∈ Ds, B ≤ D) → OpenD Ds W → K W → LeavesInM F n P fn tmps R (Ds.map markD) .returning W
  | [], W, _, _, _, h => hfin W h
  | D :: Ds, W, hn, hB, ho, h => by
    rw [List.nodup_cons] at hn
    have hd := ho D (by simp)
    refine ⟨by simp, .inl ⟨D, W.putObj D (.deferred none), rfl, run_takeDeferred hd, ?_⟩⟩
    refine leaveMarks hK hfin Ds _ hn.2 (fun D' h' => hB D' (by simp [h'])) (fun D' h' => ?_) (hK W D (hB D (by simp)) hd h)
    have hne : D' ≠ D := fun e => hn.1 (e ▸ h')
    exact (World.putObj_heap_other hne).trans (ho D' (by simp [h']))
theorem lenStart {p : Prg} (h : p.chk.1 = 0) (k : Nat) : (startS (p.thr.take k)).length ≤ 8 := by
  have h8 := (chkMany h).1
  have := srtLen (n := p.funcs.length) (startSrt (p.thr.take k)) fun y hy => by
    obtain ⟨s, hs, rfl⟩ := startMem.1 hy
    have hb := chkThr h s (List.mem_of_mem_take hs)
    unfold belB at hb
    rwa [Bool.and_eq_true, decide_eq_true_iff, decide_eq_true_iff] at hb
  omega
end Go.Proofs.YtdmajlgdjhmpdaaDoor

namespace Go.Proofs.YtdmajlgdjhmpdaaDoor
open Go Go.RowKit Go.Shelf
attribute [local go_sem] Oper.semAt_some

theorem passLen {p : Prg} (hc : p.chk.1 = 0) {S : List Int} (hS : Srt S) (hr : ∀ y ∈ S, p.rchI y) {t : List (Nat × Nat × I8)} (ht : ∀ x ∈ t, x ∈ flF p.funcs 0) : (passS S t).length ≤ 8 ∧ (∀ y ∈ passS S t, p.rchI y) := by
  have h1 : ∀ y ∈ passS S t, p.rchI y := passAll t S hr fun x hx => rchSpawns hc x (ht x hx)
  have h8 := (chkMany hc).1
  have := srtLen (n := p.funcs.length) (passSrt t S hS) (RchL.bound hc h1)
  exact ⟨by omega, h1⟩
/-- What the outer loop knows: the set, its length before, and that nothing is missing if it has not grown. -/
structure RGood (p : Prg) (S : List Int) (bf : Int) : Prop where
  srt : Srt S
  st : ∀ y ∈ startS p.thr, y ∈ S
  rch : ∀ y ∈ S, p.rchI y
  fix : (S.length : Int) ≤ bf → ∀ x ∈ flF p.funcs 0, x.2.2.op = 21 → (x.1 : Int) ∈ S → x.2.2.obj ∈ S
theorem RGood.next {p : Prg} (hc : p.chk.1 = 0) {S : List Int} {bf : Int} (h : RGood p S bf) : RGood p (passS S (flF p.funcs 0)) S.length := by
  have hl := passLen hc h.srt h.rch (t := flF p.funcs 0) fun x hx => hx
  have hs := passSrt (flF p.funcs 0) S h.srt
  refine ⟨hs, fun y hy => passSub _ _ _ (h.st y hy), hl.2, fun hle => ?_⟩
  have e := srtSame h.srt hs (fun y hy => passSub _ _ _ hy) (by omega)
  rw [e]
  exact passFix _ S S (fun y hy => e ▸ hy) fun y hy => hy
theorem RGood.done {p : Prg} {S : List Int} {bf : Int} (h : RGood p S bf) (hle : (S.length : Int) ≤ bf) : RchL p S :=
  ⟨h.srt, fun _ => ⟨h.rch _, rchAll h.st (h.fix hle)⟩⟩
/-- The length of the slice in box q. -/
def lenAt (q : Nat) (W : World) : Nat := match W.cell? ⟨q, 0, none⟩ with | some (.slice _ n _) => n | _ => 0
theorem lenAtIs {q : Nat} {W : World} {A : Option Addr} {n c : Nat} (h : Boxed W q 45 (.slice A n c)) : lenAt q W = n := by unfold lenAt; rw [h.cell]
theorem rdDrop {W : World} {D c : Nat} {A : Option Addr} {S : List Int} (h : Rd W A c S) (hd : W.heap[D]? = some (.deferred (some []))) : Rd (W.putObj D (.deferred none)) A c S :=
  ⟨Rds.le h, Rds.max h, fun hp => by
    obtain ⟨ad, e, lt, hc⟩ := Rds.at_ h hp
    have hg := grownBy_putObj' W D (.deferred none)
    exact ⟨ad, e, Nat.lt_of_lt_of_le lt hg.size, fun j u hu => cell_kept (hc j u hu) hg fun r er => by injection er with er; subst er; exact ⟨_, hd, rfl⟩⟩⟩
theorem belowDrop {w W : World} {D : Nat} {o : Obj} (h : Below w.heap.size w W) (hD : w.heap.size ≤ D) : Below w.heap.size w (W.putObj D o) :=
  ⟨h.os, h.tape, h.output, by simpa using h.size, fun k hk => (World.putObj_heap_other (by omega)).trans (h.block k hk)⟩
/-- A new list of just the functions that threads can run. -/
def GivesRe (p : Prg) (w : World) (e : Ending) (w' : World) : Prop := ∃ A n c l, e = .returned (.tuple #[.slice A n c, .int .i64 0]) ∧ Rd w' A c l ∧ l.length = n ∧ RchL p l ∧ Below w.heap.size w w'
set_option maxRecDepth 100000 in
set_option maxHeartbeats 4000000 in
theorem iReach {a : PgA} {p : Prg} (w : World) (hP : PgW w a p) (hW : p.Wf) (hT : InsT w) (hN : Nm w) (hc : p.chk.1 = 0) : Calls Tryd.prog 12 #[a.val] w (GivesRe p w) := by
  have HCK := Lib.hid (fun X (hX : Below w.heap.size w X) => iCheckP X (hP.below hX) hW (hT.below hX) (hN.below hX))
  have HSEQ := Lib.hid (fun b2 X hF => instC 7 (by omega) a p w b2 hP X hF)
  have HIT := Lib.hid (fun X => iInsts a X)
  have HTH := Lib.hid (fun X (hX : Below w.heap.size w X) k (hk : k < p.thr.length) => (hP.below hX).thr.one hk)
  have HC0 := Lib.hid hc
  have HL5 := Lib.hid hP.l5
  have hle5 := hP.thr.le
  have hm5 := hP.thr.max
  rw [hP.l5] at hle5
  unfold maxLen at hm5
  obtain ⟨A1, n1, c1, A2, n2, c2, A3, n3, c3, A4, n4, c4, A5, n5, c5⟩ := a
  simp only [PgA.val, PgA.fs] at *
  obtain ⟨V, hV⟩ : ∃ V, w.alloc (.cells #[.slice A1 n1 c1, .slice A2 n2 c2, .slice A3 n3 c3, .slice A4 n4 c4, .slice A5 n5 c5] 27) = V := ⟨_, rfl⟩
  have hbV : Below w.heap.size w V := by rw [← hV]; exact belowAlloc w _
  have HB : Hid (PBox V w.heap.size ⟨A1, n1, c1, A2, n2, c2, A3, n3, c3, A4, n4, c4, A5, n5, c5⟩) := by rw [← hV]; exact Lib.hid (Blk.new w _ _)
  have HC1 := HCK.out V hbV
  rw [show err3 p.chk = .returned (.tuple #[.int .i64 0, .int .i64 p.chk.2.1, .int .i64 p.chk.2.2]) by unfold err3; rw [hc]] at HC1
  obtain ⟨y0, hy0⟩ : ∃ y, p.chk.2.1 = y := ⟨_, rfl⟩
  obtain ⟨z0, hz0⟩ : ∃ y, p.chk.2.2 = y := ⟨_, rfl⟩
  rw [hy0, hz0] at HC1
  have HC1 := Lib.hid HC1
  obtain ⟨v0, v1, v2, v3, v4⟩ := HB.out.facts
  simp only at v0 v1 v2 v3 v4
  have HV := Lib.hid hV
  clear hV hP hW hT hN hc hy0 hz0 HCK
  refine (callsIn_wide (n := 8)).1 ?_
  refine callsIn_of_wp_marks Tryd.func12 rfl trivial ?_ rfl
  simp only [Tryd.ntmps12, List.size_toArray, List.length_cons, List.length_nil, Nat.reduceAdd, Nat.reduceSub, Array.replicate_succ, Array.replicate_zero, List.push_toArray, List.append_toArray, List.nil_append, List.cons_append]
  gi_wp2_with fail
  rw [HV.out]
  gi_wp2_with fail
  refine ⟨trivial, (callsIn_wide.2 HC1.out).mono ?_⟩
  rintro e w1 ⟨rfl, b1⟩
  have hbw1 := belowThen hbV b1
  have HB1 := Lib.hid (HB.out.below b1)
  clear v0 v1 v2 v3 v4
  obtain ⟨v0, v1, v2, v3, v4⟩ := HB1.out.facts
  simp only at v0 v1 v2 v3 v4
  have HW := Lib.hid (And.intro hbw1 HB1.out)
  obtain ⟨W, hWd⟩ : ∃ W, w1.alloc (.cells #[.slice none 0 0] 45) = W := ⟨_, rfl⟩
  have HWd := Lib.hid hWd
  have hbW : Below w1.heap.size w1 W := by rw [← hWd]; exact belowAlloc w1 _
  have hrs0 : RS w w.heap.size w1.heap.size ⟨A1, n1, c1, A2, n2, c2, A3, n3, c3, A4, n4, c4, A5, n5, c5⟩ (startS (p.thr.take 0)) W := ⟨belowThen hbw1 hbW, HB1.out.below hbW, none, 0, 0, by rw [← hWd]; exact Boxed.new w1 _ _, Rd.nil, rfl⟩
  have hq1 : w.heap.size < w1.heap.size := HB1.out.lt
  have HRS0 := Lib.hid hrs0
  have x4 := HRS0.out.box.facts.2.2.2.2
  simp only at x4
  rw [← hWd] at x4
  clear hWd hrs0
  gi_wp2_with fail
  rw [HWd.out]
  gi_wp2_with fail
  gi_loopw [25] (fun v wr => ∃ k : Nat, k ≤ n5 ∧ v = .int .i64 k ∧ Hid (RS w w.heap.size w1.heap.size ⟨A1, n1, c1, A2, n2, c2, A3, n3, c3, A4, n4, c4, A5, n5, c5⟩ (startS (p.thr.take k)) wr)) (fun v _ => n5 - (intOf v).toNat)
  case atStart => exact ⟨0, Nat.zero_le _, rfl, HRS0⟩
  case round =>
    obtain ⟨k, hk, rfl, HR⟩ := hrel
    by_cases hlt : k < n5
    · have hkl : k < p.thr.length := by rw [HL5.out]; exact hlt
      obtain ⟨q, off, hA, _, h1, h2⟩ := HTH.out wr HR.out.bel k hkl
      have hA : A5 = _ := hA
      subst hA
      obtain ⟨s, hs⟩ : ∃ s, p.thr[k].1 = s := ⟨_, rfl⟩
      obtain ⟨z, hz⟩ : ∃ s, p.thr[k].2 = s := ⟨_, rfl⟩
      rw [hs] at h1
      rw [hz] at h2
      have hk0 : (0 : Int) ≤ k := by omega
      have hk1 : (k : Int) < n5 := by omega
      have hlen := lenStart HC0.out k
      obtain ⟨A, n, c, hx, hr, hn⟩ := HR.out.set
      rw [hn] at hlen
      have hba := belowAlloc wr (.cells #[.int .i64 s, .int .i64 z] 44)
      have HRX := Lib.hid (HR.out.below hba)
      have HAD := Lib.hid (iAdd (startS (p.thr.take k)) s n hn (startS (p.thr.take (k + 1))) (by rw [List.take_succ_eq_append_getElem hkl, startOne, hs]) (by omega) A c _ (hr.below hba))
      have kx := hx.cell
      have kx2 := (show Boxed (wr.alloc (.cells #[.int .i64 s, .int .i64 z] 44)) w1.heap.size 45 (.slice A n c) from (hba.block _ hx.lt).trans hx).cell
      clear hs hz hn hr hx
      gi_wp2_with fail
      refine ⟨trivial, (callsIn_wide.2 HAD.out).mono ?_⟩
      rintro e w3 ⟨A', c', rfl, hr3, b3⟩
      have HR3 := HRX.out.below b3
      obtain ⟨B, m, d, hx3, _, _⟩ := HR3.set
      have k3 := hx3.cell
      have f3 := hx3.frozen
      have HFN := Lib.hid (HR3.put (by omega) (by omega) hr3 rfl)
      clear HR3 hx3 hr3
      gi_wp2_with fail
      go_roundw
      case rel => exact ⟨k + 1, by omega, by go_num, HFN⟩
      case measure => simp [intOf]; omega
    · obtain rfl : k = n5 := by omega
      have hkn : p.thr.take k = p.thr := List.take_of_length_le (by rw [HL5.out]; omega)
      have HR := HR.out
      rw [hkn] at HR
      have HR := Lib.hid HR
      clear hlt hk hkn
      gi_wp2
      have hG0 : RGood p (startS p.thr) (-1) := ⟨startSrt _, fun y hy => hy, rchStarts HC0.out, fun h => by omega⟩
      have hO0 : OpenD [] wr ∧ ([] : List Nat).Nodup ∧ ∀ D ∈ ([] : List Nat), w1.heap.size < D := ⟨(fun _ h => by cases h), List.nodup_nil, (fun _ h => by cases h)⟩
      obtain ⟨INV, hINV⟩ : ∃ INV : Act → World → Prop, INV = (fun a' w' => ∃ (u : Nat → Value) (Ds : List Nat) (S : List Int) (bf : Int), a' = { tmps := #[.agg #[.slice A1 n1 c1, .slice A2 n2 c2, .slice A3 n3 c3, .slice A4 n4 c4, .slice A5 k c5], .pointer (some ⟨w.heap.size, 0, none⟩), .slice none 0 0, .int .i64 0, .int .i64 0, .int .i64 y0, .int .i64 z0, .pointer (some ⟨w1.heap.size, 0, none⟩), undef, u9, .int .i64 bf, u 11, u 12, .tuple #[.int .i64 0, .int .i64 y0, .int .i64 z0], .agg #[.slice A1 n1 c1, .slice A2 n2 c2, .slice A3 n3 c3, .slice A4 n4 c4, .slice A5 k c5], .tuple #[.int .i64 0, .int .i64 y0, .int .i64 z0], .int .i64 0, .int .i64 y0, .int .i64 z0, .int .i64 0, .bool false, undef, .pointer (some ⟨w.heap.size, 4, none⟩), .slice A5 k c5, .int .i64 (k : Int), .int .i64 (k : Int), .bool false, u27, u28, u29, u30, u31, u32, u33, u 34, u 35, u 36, u 37, u 38, u 39, u 40, u 41, u 42, u 43, u 44, u 45, u 46, u 47, u 48, u 49, u 50, u 51, u 52, u 53, u 54, u 55, u 56, undef], defers := Ds.map markD } ∧ Hid (RS w w.heap.size w1.heap.size ⟨A1, n1, c1, A2, n2, c2, A3, n3, c3, A4, n4, c4, A5, k, c5⟩ S w') ∧ Hid (RGood p S bf) ∧ Hid (OpenD Ds w' ∧ Ds.Nodup ∧ ∀ D ∈ Ds, w1.heap.size < D)) := ⟨_, rfl⟩
      obtain ⟨MU, hMU⟩ : ∃ MU : Act → World → Nat, MU = (fun a' w' => 2 * (9 - lenAt w1.heap.size w') + if intOf (a'.tmps.getD 10 undef) < (lenAt w1.heap.size w' : Int) then 1 else 0) := ⟨_, rfl⟩
      have HINV := Lib.hid hINV
      have HMU := Lib.hid hMU
      clear hINV hMU
      refine wpIn_loop INV MU ?_ ?_
      · rw [HINV.out]
        exact ⟨fun _ => undef, [], _, -1, rfl, HR, Lib.hid hG0, Lib.hid hO0⟩
      intro a' wl hi
      rw [HINV.out] at hi
      obtain ⟨u, Ds, S, bf, rfl, HS, HG, HO⟩ := hi
      dsimp only
      obtain ⟨A, n, c, hx, hr, hn⟩ := HS.out.set
      have kx := hx.cell
      have hL8 := passLen HC0.out HG.out.srt HG.out.rch (t := []) (fun x hx => by cases hx)
      have hn8 : n ≤ 8 := by have := hL8.1; rw [passS, hn] at this; exact this
      have HN := Lib.hid hn
      have HLA := Lib.hid (lenAtIs hx)
      have HRD := Lib.hid hr
      clear hL8 hn hr hx hG0
      by_cases hlt : bf < (n : Int)
      · have hb8 := HS.out.box.facts
        obtain ⟨v0, v1, v2, v3, v4⟩ := hb8
        simp only at v0 v1 v2 v3 v4
        have hba := belowAlloc wl (.cells #[.slice A1 n1 c1, .slice A2 n2 c2, .slice A3 n3 c3, .slice A4 n4 c4, .slice A5 k c5] 27)
        have HSx := HS.out.below hba
        have HFx : FixP w wl.heap.size ⟨A1, n1, c1, A2, n2, c2, A3, n3, c3, A4, n4, c4, A5, k, c5⟩ (wl.alloc (.cells #[.slice A1 n1 c1, .slice A2 n2 c2, .slice A3 n3 c3, .slice A4 n4 c4, .slice A5 k c5] 27)) := ⟨HSx.bel, Blk.new wl _ _⟩
        have HSQ := Lib.hid (HSEQ.out wl.heap.size _ HFx)
        have HIX := Lib.hid (HIT.out wl)
        obtain ⟨X0, hX0⟩ : ∃ X0, wl.alloc (.cells #[.slice A1 n1 c1, .slice A2 n2 c2, .slice A3 n3 c3, .slice A4 n4 c4, .slice A5 k c5] 27) = X0 := ⟨_, rfl⟩
        rw [hX0] at hba HSx HFx HSQ
        have hzX : X0.heap.size = wl.heap.size + 1 := by rw [← hX0]; simp
        have hqw : w1.heap.size < wl.heap.size := by obtain ⟨_, _, _, hx, _⟩ := HS.out.set; exact hx.lt
        have hsw : w.heap.size < w1.heap.size := hq1
        have HDlt : Hid (∀ D ∈ Ds, D < X0.heap.size) := Lib.hid fun D hD => by have := (Array.getElem?_eq_some_iff.1 (HO.out.1 D hD)).1; omega
        have HO0 := Lib.hid (show OpenD Ds X0 from HO.out.1.keep fun D hD => hba.block D (Array.getElem?_eq_some_iff.1 (HO.out.1 D hD)).1)
        have HX0 := Lib.hid hX0
        have HSX := Lib.hid HSx
        have HFX := Lib.hid HFx
        have HZX := Lib.hid hzX
        clear hX0 HSx HFx hzX
        gi_wp2_with fail
        refine ⟨trivial, (callsIn_wide.2 HIX.out).mono ?_⟩
        rintro e w' ⟨rfl, rfl⟩
        rw [HX0.out]
        gi_wp2
        refine rangeClos (F := Fence.wide) (n := 8) rfl (by omega) (gf := 43) (lb := #[.pointer (some ⟨wl.heap.size, 0, none⟩)]) rfl trivial enters99 HSQ.out (fun h k x => k (h x)) (keepP_b (by have := HZX.out; omega)) (Below.refl _ _) (fun _ => rfl)
          (fun pre W => RS w w.heap.size w1.heap.size ⟨A1, n1, c1, A2, n2, c2, A3, n3, c3, A4, n4, c4, A5, k, c5⟩ (passS S pre) W ∧ FixP w wl.heap.size ⟨A1, n1, c1, A2, n2, c2, A3, n3, c3, A4, n4, c4, A5, k, c5⟩ W ∧ OpenD Ds W)
          (fun _ _ _ => False) ?hI (fun _ _ _ _ _ hs _ _ => hs) ⟨HSX.out, HFX.out, HO0.out⟩
          (fun X x => { tmps := #[.agg #[.slice A1 n1 c1, .slice A2 n2 c2, .slice A3 n3 c3, .slice A4 n4 c4, .slice A5 k c5], .pointer (some ⟨w.heap.size, 0, none⟩), .slice none 0 0, .int .i64 0, .int .i64 0, .int .i64 y0, .int .i64 z0, .pointer (some ⟨w1.heap.size, 0, none⟩), undef, u9, .int .i64 (n : Int), .pointer (some ⟨X.heap.size, 0, none⟩), .pointer (some ⟨X.heap.size + 1, 0, none⟩), .tuple #[.int .i64 0, .int .i64 y0, .int .i64 z0], .agg #[.slice A1 n1 c1, .slice A2 n2 c2, .slice A3 n3 c3, .slice A4 n4 c4, .slice A5 k c5], .tuple #[.int .i64 0, .int .i64 y0, .int .i64 z0], .int .i64 0, .int .i64 y0, .int .i64 z0, .int .i64 0, .bool false, undef, .pointer (some ⟨w.heap.size, 4, none⟩), .slice A5 k c5, .int .i64 (k : Int), .int .i64 (k : Int), .bool false, u27, u28, u29, u30, u31, u32, u33, .int .i64 bf, .slice A n c, .int .i64 (n : Int), .bool true, .slice A n c, .int .i64 (n : Int), .agg #[.slice A1 n1 c1, .slice A2 n2 c2, .slice A3 n3 c3, .slice A4 n4 c4, .slice A5 k c5], .func (.func 43) #[] #[.pointer (some ⟨wl.heap.size, 0, none⟩)], .agg #[.int .i64 (x.1 : Int), .int .i64 (x.2.1 : Int)], .agg #[.int .i64 x.2.2.op, .int .i64 x.2.2.a, .int .i64 x.2.2.b, .int .i64 x.2.2.c, .int .i64 x.2.2.obj, .int .i64 x.2.2.n, .int .i64 x.2.2.fn, .int .i64 x.2.2.ord], u 44, u 45, u 46, u 47, u 48, u 49, u 50, u 51, u 52, u 53, u 54, u 55, u 56, undef], defers := [] })
          twoB (fun x W => by have h := twoBel x W; exact ⟨h.os, h.tape, h.output, h.size, fun k hk _ => h.block k hk⟩) (fun x W h => h.below (twoBel x W)) ?assign ?body ?done (fun _ _ _ _ _ h _ => h.elim)
        case hI =>
          exact OwnFrom.and (RS.own (by have := HZX.out; omega)) (OwnFrom.and (fixOwn (by have := HZX.out; omega)) (fun _ X Y row hs hg hr => hs.keep fun D hD => hg.block D (Array.getElem?_eq_some_iff.1 (hs D hD)).1 fun e => by have := (hr D e.symm).1; have := HDlt.out D hD; omega))
        case assign =>
          rintro lr ⟨f, k2, ⟨op, ra, rb, rc, obj, nn, fn, ord⟩⟩ X K hK
          simp only [encI, I8.val]
          gi_wp2
          exact hK
        case body =>
          rintro lr pre ⟨f, k2, ⟨op, ra, rb, rc, obj, nn, fn, ord⟩⟩ post X U hL ⟨g1, g2, g3⟩ hl1 hl2 ⟨rr, hU⟩
          have hpl : Blk U X.heap.size 73 #[.int .i64 (f : Int), .int .i64 (k2 : Int)] := by
            rw [hU]
            exact (World.putObj_heap_other (show X.heap.size ≠ lr by omega)).trans ((Blk.new X _ _).alloc _)
          have hin : Blk U (X.heap.size + 1) 40 #[.int .i64 op, .int .i64 ra, .int .i64 rb, .int .i64 rc, .int .i64 obj, .int .i64 nn, .int .i64 fn, .int .i64 ord] := by
            rw [hU]
            exact (World.putObj_heap_other (show X.heap.size + 1 ≠ lr by omega)).trans (Blk.new1 X _ _ _)
          have p0 := hpl.cell 0
          have p1 := hpl.cell 1
          obtain ⟨i0, i1, i2, i3, i4, i5, i6, i7⟩ := boxFactsW hin
          simp only [List.getElem?_toArray, List.getElem?_cons_zero, List.getElem?_cons_succ] at p0 p1
          obtain ⟨B, m, d, hx, hr, hn⟩ := g1.set
          have hlen := (passLen HC0.out HG.out.srt HG.out.rch (t := pre) (fun x hx => by rw [hL]; simp [hx])).1
          rw [hn] at hlen
          have kq := hx.cell
          have hpass := passOne S pre (f, k2, I8.mk8 op ra rb rc obj nn fn ord)
          simp only at hpass
          have HGS := Lib.hid (And.intro g1 (And.intro g2 g3))
          have HR := Lib.hid hr
          have HNN := Lib.hid hn
          have HPL := Lib.hid (And.intro hpl hin)
          clear hU hpl hin hx hL g1 g2 g3 hr hn
          by_cases h21 : op = 21
          · subst h21
            have HH := Lib.hid (iHas (passS S pre) (f : Int) _ rfl B d U HR.out)
            rw [HNN.out] at HH
            cases hm : memB (passS S pre) (f : Int)
            · have HE : Hid (passS S (pre ++ [(f, k2, I8.mk8 21 ra rb rc obj nn fn ord)]) = passS S pre) := Lib.hid (by rw [hpass, hm]; simp)
              rw [hm] at HH
              clear hm hpass
              gi_wp2_with fail
              refine ⟨trivial, (CallsIn.inRound lr (callsIn_wide.2 HH.out)).mono ?_⟩
              rintro e w' ⟨rfl, rfl⟩
              gi_wp2
              exact ⟨(KeepsOthers.refl _).from _, fun h => h, by rw [HE.out]; exact HGS.out.1, HGS.out.2.1, HGS.out.2.2⟩
            · have HE : Hid (passS S (pre ++ [(f, k2, I8.mk8 21 ra rb rc obj nn fn ord)]) = uni (passS S pre) [obj]) := Lib.hid (by rw [hpass, hm]; simp)
              rw [hm] at HH
              have HAD := Lib.hid (iAdd (passS S pre) obj m HNN.out _ rfl (by omega) B d U HR.out)
              clear hm hpass
              gi_wp2_with fail
              refine ⟨trivial, (CallsIn.inRound lr (callsIn_wide.2 HH.out)).mono ?_⟩
              rintro e w' ⟨rfl, rfl⟩
              gi_wp2_with fail
              refine ⟨trivial, (CallsIn.inRound lr (callsIn_wide.2 HAD.out)).mono ?_⟩
              rintro e U3 ⟨A', c', rfl, hr3, b3⟩
              have HR3 := HGS.out.1.below b3
              obtain ⟨B3, m3, d3, hx3, _, _⟩ := HR3.set
              have k3 := hx3.cell
              have f3 := hx3.frozen
              have hb2 := HGS.out.2.1.below b3
              have HFN := Lib.hid (And.intro (HR3.put (A := A') (c := c') (by omega) (by omega) hr3 rfl) (And.intro (show FixP w wl.heap.size ⟨A1, n1, c1, A2, n2, c2, A3, n3, c3, A4, n4, c4, A5, k, c5⟩ (U3.setCell ⟨w1.heap.size, 0, none⟩ (.slice A' (uni (passS S pre) [obj]).length c')) from ⟨hb2.bel.setCell (by show w.heap.size ≤ w1.heap.size; omega) _, Blk.other hb2.box (by omega) 0 _⟩) (show OpenD Ds (U3.setCell ⟨w1.heap.size, 0, none⟩ (.slice A' (uni (passS S pre) [obj]).length c')) from HGS.out.2.2.keep fun D hD => (heap_setCell_other _ ⟨w1.heap.size, 0, none⟩ D _ (show D ≠ w1.heap.size from by have := HO.out.2.2 D hD; omega)).trans (b3.block D (Array.getElem?_eq_some_iff.1 (HGS.out.2.2 D hD)).1))))
              have HKF := Lib.hid (show KeepsFrom X0.heap.size U (U3.setCell ⟨w1.heap.size, 0, none⟩ (.slice A' (uni (passS S pre) [obj]).length c')) from (keepsBelow b3).trans ((KeepsOthers.setCell _ _ _).from _))
              clear HR3 hx3 hr3 hb2
              gi_wp2
              exact ⟨HKF.out, fun _ => HFN.out.2.1, by rw [HE.out]; exact HFN.out.1, HFN.out.2.1, HFN.out.2.2⟩
          · have HE : Hid (passS S (pre ++ [(f, k2, I8.mk8 op ra rb rc obj nn fn ord)]) = passS S pre) := Lib.hid (by rw [hpass]; simp [h21])
            have z21 : (op == 21) = false := by simpa using h21
            have y21 : decide (op = 21) = false := by simpa using h21
            clear hpass
            gi_wp2
            refine ⟨trivial, ?_⟩
            gi_wp2
            exact ⟨(KeepsOthers.refl _).from _, fun h => h, by rw [HE.out]; exact HGS.out.1, HGS.out.2.1, HGS.out.2.2⟩
        case done =>
          rintro D X hD ⟨g1, g2, g3⟩ hK
          obtain ⟨A', n', c', hx', hr', hn'⟩ := g1.set
          have hp8 := (passLen HC0.out HG.out.srt HG.out.rch (t := flF p.funcs 0) (fun x hx => hx)).1
          have hge := nodupLeP (srtNodup HG.out.srt) (m := passS S (flF p.funcs 0)) fun y hy => passSub _ _ _ hy
          rw [hn'] at hp8 hge
          rw [HN.out] at hge
          have HLB := Lib.hid (lenAtIs hx')
          have HG' := HG.out.next HC0.out
          rw [HN.out] at HG'
          have HGN := Lib.hid HG'
          have HGS := Lib.hid g1
          have HOD : Hid (OpenD (D :: Ds) X ∧ (D :: Ds).Nodup ∧ ∀ D' ∈ D :: Ds, w1.heap.size < D') := Lib.hid (by
            have hz := HZX.out
            refine ⟨fun D' h => ?_, List.nodup_cons.2 ⟨fun h => ?_, HO.out.2.1⟩, fun D' h => ?_⟩
            · rcases List.mem_cons.1 h with rfl | h
              · exact hK
              · exact g3 D' h
            · have := HDlt.out D h; omega
            · rcases List.mem_cons.1 h with rfl | h
              · omega
              · exact HO.out.2.2 D' h)
          clear hx' hr' hn' HG' g1 g3
          gi_wp2
          refine ⟨?_, ?_⟩
          · rw [HINV.out]
            exact ⟨fun i => (#[.agg #[.slice A1 n1 c1, .slice A2 n2 c2, .slice A3 n3 c3, .slice A4 n4 c4, .slice A5 k c5], .pointer (some ⟨w.heap.size, 0, none⟩), .slice none 0 0, .int .i64 0, .int .i64 0, .int .i64 y0, .int .i64 z0, .pointer (some ⟨w1.heap.size, 0, none⟩), undef, u9, .int .i64 (n : Int), u 11, u 12, .tuple #[.int .i64 0, .int .i64 y0, .int .i64 z0], .agg #[.slice A1 n1 c1, .slice A2 n2 c2, .slice A3 n3 c3, .slice A4 n4 c4, .slice A5 k c5], .tuple #[.int .i64 0, .int .i64 y0, .int .i64 z0], .int .i64 0, .int .i64 y0, .int .i64 z0, .int .i64 0, .bool false, undef, .pointer (some ⟨w.heap.size, 4, none⟩), .slice A5 k c5, .int .i64 (k : Int), .int .i64 (k : Int), .bool false, u27, u28, u29, u30, u31, u32, u33, .int .i64 bf, .slice A n c, .int .i64 (n : Int), .bool true, .slice A n c, .int .i64 (n : Int), .agg #[.slice A1 n1 c1, .slice A2 n2 c2, .slice A3 n3 c3, .slice A4 n4 c4, .slice A5 k c5], .func (.func 43) #[] #[.pointer (some ⟨wl.heap.size, 0, none⟩)], u 42, u 43, u 44, u 45, u 46, u 47, u 48, u 49, u 50, u 51, u 52, u 53, u 54, u 55, u 56, undef] : Array Value).getD i undef, D :: Ds, _, (n : Int), rfl, HGS, HGN, HOD⟩
          rw [HMU.out]
          show 2 * (9 - lenAt w1.heap.size X) + (if (n : Int) < (lenAt w1.heap.size X : Int) then 1 else 0) < 2 * (9 - lenAt w1.heap.size wl) + (if bf < (lenAt w1.heap.size wl : Int) then 1 else 0)
          rw [HLB.out, HLA.out, if_pos hlt]
          split <;> omega
      · have HD := Lib.hid (HG.out.done (by rw [HN.out]; omega))
        gi_wp2
        refine leaveMarks (B := w1.heap.size) (K := fun X => Below w.heap.size w X ∧ Rd X A c S) (fun X D hD hd hK => ⟨belowDrop hK.1 (by omega), rdDrop hK.2 hd⟩) (fun X hK => ?_) Ds wl HO.out.2.1 (fun D hD => by have := HO.out.2.2 D hD; omega) HO.out.1 ⟨HS.out.bel, HRD.out⟩
        exact ⟨_, results_tmp2 rfl _ _ _, A, n, c, S, rfl, hK.2, HN.out, HD.out, hK.1⟩
end Go.Proofs.YtdmajlgdjhmpdaaDoor
