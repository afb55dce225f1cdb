/-
  The contracts of inst.Uses and inst.Defines: the registers that an instruction reads and writes.
-/
import Derived.Test.YtpkagpobobmnfaaGreatDoorPInT
import Derived.Test.YtpkagpobobmnfaaGreatDoorPMk
import Derived.Test.YtpkagpobobmnfaaGreatDoorPPure
import Derived.ProofKit
import Derived.OpenShut
import Derived.ChangeMaps5
import Derived.Deep.SlicePairs
import Derived.Lib.SmallJoins
namespace Go.Proofs.YtpkagpobobmnfaaGreatDoor
open Go Go.RowKit Go.Sort

theorem iCheckA (op a b c obj n fn ord r : Int) (hr : (I8.mk8 op a b c obj n fn ord).chk = r) (hi : (I8.mk8 op a b c obj n fn ord).Wf) (w : World) (hT : InsT w) (hN : Nm w) :
    Calls Tryz.prog 59 #[.agg #[.int .i64 op, .int .i64 a, .int .i64 b, .int .i64 c, .int .i64 obj, .int .i64 n, .int .i64 fn, .int .i64 ord]] w fun e w' => e = .returned (.int .i64 r) ∧ Below w.heap.size w w' := iCheck _ r hr hi w hT hN
theorem InsT.below {W X : World} {B : Nat} (h : InsT W) (hb : Below B W X) (hB : W.heap.size ≤ B := by exact Nat.le_refl _) : InsT X :=
  ⟨fun k hk => (hb.cell (Nat.lt_of_lt_of_le (World.block_lt_of_cell? _ _ (h.nm k hk)) hB)).trans (h.nm k hk), fun k f hk hf => (hb.cell (Nat.lt_of_lt_of_le (World.block_lt_of_cell? _ _ (h.us k f hk hf)) hB)).trans (h.us k f hk hf)⟩
/-- The call's own box of an instruction. -/
theorem boxNew (w : World) (k a b c obj n fn ord : Int) : ∃ W, w.alloc (.cells #[.int .i64 k, .int .i64 a, .int .i64 b, .int .i64 c, .int .i64 obj, .int .i64 n, .int .i64 fn, .int .i64 ord] 55) = W ∧ Below w.heap.size w W ∧ W.heap.size = w.heap.size + 1 ∧
    Blk W w.heap.size 55 #[.int .i64 k, .int .i64 a, .int .i64 b, .int .i64 c, .int .i64 obj, .int .i64 n, .int .i64 fn, .int .i64 ord] :=
  ⟨_, rfl, belowAlloc w _, by simp, Blk.new w _ _⟩
theorem boxFactsW {W : World} {n0 : Nat} {k a b c obj n fn ord : Int} (h : Blk W n0 55 #[.int .i64 k, .int .i64 a, .int .i64 b, .int .i64 c, .int .i64 obj, .int .i64 n, .int .i64 fn, .int .i64 ord]) :
    W.cell? ⟨n0, 0, none⟩ = some (.int .i64 k) ∧ W.cell? ⟨n0, 1, none⟩ = some (.int .i64 a) ∧ W.cell? ⟨n0, 2, none⟩ = some (.int .i64 b) ∧ W.cell? ⟨n0, 3, none⟩ = some (.int .i64 c) ∧ W.cell? ⟨n0, 4, none⟩ = some (.int .i64 obj) ∧ W.cell? ⟨n0, 5, none⟩ = some (.int .i64 n) ∧ W.cell? ⟨n0, 6, none⟩ = some (.int .i64 fn) ∧ W.cell? ⟨n0, 7, none⟩ = some (.int .i64 ord) :=
  ⟨h.cell 0, h.cell 1, h.cell 2, h.cell 3, h.cell 4, h.cell 5, h.cell 6, h.cell 7⟩
theorem belowAl3 {B : Nat} (w : World) (h : B ≤ w.heap.size) (o : Obj) : Below B w (w.alloc o) := (Below.refl _ w).alloc h o
theorem usesNo {i : I8} (h : i.chk ≠ 0) : i.uses = [] := by unfold I8.uses; rw [if_neg h]
theorem usesYes {i : I8} (h : i.chk = 0) {q1 q2 : Bool} (h1 : i.u 1 = q1) (h2 : i.u 2 = q2) : i.uses = mk ((if q1 then [i.b] else []) ++ (if q2 then [i.c] else [])) := by unfold I8.uses I8.rdL; rw [if_pos h, h1, h2]

theorem iUsesNo (op a b c obj n fn ord e : Int) (he : (I8.mk8 op a b c obj n fn ord).chk = e) (hne : e ≠ 0) (hi : (I8.mk8 op a b c obj n fn ord).Wf) (w : World) (hT : InsT w) (hN : Nm w) :
    Calls Tryz.prog 92 #[.agg #[.int .i64 op, .int .i64 a, .int .i64 b, .int .i64 c, .int .i64 obj, .int .i64 n, .int .i64 fn, .int .i64 ord]] w (GivesL [] w) := by
  obtain ⟨W, hW, hbW, -, hbox⟩ := boxNew w op a b c obj n fn ord
  obtain ⟨c0, c1, c2, c3, c4, c5, c6, c7⟩ := boxFactsW hbox
  have hCK := Lib.hid (iCheckA op a b c obj n fn ord e he hi W (hT.below hbW) (hN.below hbW))
  have hx : (e != 0) = true := by simpa using hne
  clear he hne hi hT hN hbox
  go_enter Tryz.func92, Tryz.ntmps92
  go_wp2_with fail
  refine hCK.out.mono ?_
  rintro e' w2 ⟨rfl, b2⟩
  have hb2 := hbW.trans (b2.mono hbW.size)
  go_wp2
  go_ret
  exact ⟨none, 0, rfl, Rd.nil, hb2⟩

set_option maxHeartbeats 1000000 in
theorem iUsesYes (k : Nat) (h1 : 1 ≤ k) (h2 : k ≤ 22) (a b c obj n fn ord : Int) (he : (I8.mk8 k a b c obj n fn ord).chk = 0) (r : List Int) (hr : (I8.mk8 k a b c obj n fn ord).uses = r) (hi : (I8.mk8 k a b c obj n fn ord).Wf) (w : World) (hT : InsT w) (hN : Nm w) :
    Calls Tryz.prog 92 #[.agg #[.int .i64 k, .int .i64 a, .int .i64 b, .int .i64 c, .int .i64 obj, .int .i64 n, .int .i64 fn, .int .i64 ord]] w (GivesL r w) := by
  obtain ⟨W, hW, hbW, hzW, hbox⟩ := boxNew w k a b c obj n fn ord
  obtain ⟨c0, c1, c2, c3, c4, c5, c6, c7⟩ := boxFactsW hbox
  have hCK := Lib.hid (iCheckA k a b c obj n fn ord 0 he hi W (hT.below hbW) (hN.below hbW))
  have HM := Lib.hid hbox
  have HT := Lib.hid (hT.below hbW)
  have hk0 : (0 : Int) ≤ k := by omega
  have hk23 : (k : Int) < 23 := by omega
  have hkn : (k : Int).toNat = k := by omega
  obtain ⟨q1, hq1⟩ : ∃ q, us k 1 = q := ⟨_, rfl⟩
  obtain ⟨q2, hq2⟩ : ∃ q, us k 2 = q := ⟨_, rfl⟩
  have HR := Lib.hid ((usesYes he (q1 := q1) (q2 := q2) (by simpa [I8.u] using hq1) (by simpa [I8.u] using hq2)).symm.trans hr)
  have HQ1 := Lib.hid hq1
  have HQ2 := Lib.hid hq2
  clear he hi hT hN hbox hq1 hq2 hr
  go_enter Tryz.func92, Tryz.ntmps92
  go_wp2_with fail
  refine hCK.out.mono ?_
  rintro e' w2 ⟨rfl, b2⟩
  have hb2 := hbW.trans (b2.mono hbW.size)
  have HM := Lib.hid (HM.out.below' b2)
  have HT := Lib.hid (HT.out.below b2)
  obtain ⟨c0, c1, c2, c3, c4, c5, c6, c7⟩ := boxFactsW HM.out
  have hz2 := b2.size
  obtain ⟨p0, hp0⟩ : ∃ u, us k 0 = u := ⟨_, rfl⟩
  obtain ⟨p3, hp3⟩ : ∃ u, us k 3 = u := ⟨_, rfl⟩
  obtain ⟨p4, hp4⟩ : ∃ u, us k 4 = u := ⟨_, rfl⟩
  obtain ⟨p5, hp5⟩ : ∃ u, us k 5 = u := ⟨_, rfl⟩
  obtain ⟨p6, hp6⟩ : ∃ u, us k 6 = u := ⟨_, rfl⟩
  have d0 := HT.out.us k 0 (by omega) (by omega)
  have d1 := HT.out.us k 1 (by omega) (by omega)
  have d2 := HT.out.us k 2 (by omega) (by omega)
  have d3 := HT.out.us k 3 (by omega) (by omega)
  have d4 := HT.out.us k 4 (by omega) (by omega)
  have d5 := HT.out.us k 5 (by omega) (by omega)
  have d6 := HT.out.us k 6 (by omega) (by omega)
  rw [hp0, Nat.add_zero] at d0
  rw [HQ1.out] at d1
  rw [HQ2.out] at d2
  rw [hp3] at d3
  rw [hp4] at d4
  rw [hp5] at d5
  rw [hp6] at d6
  clear hp0 hp3 hp4 hp5 hp6
  obtain ⟨V, hV⟩ : ∃ V, w2.alloc (.cells #[.bool p0, .bool q1, .bool q2, .bool p3, .bool p4, .bool p5, .bool p6] 138) = V := ⟨_, rfl⟩
  have hbV : Below w2.heap.size w2 V := by rw [← hV]; exact belowAlloc w2 _
  have hu : Blk V w2.heap.size 138 #[.bool p0, .bool q1, .bool q2, .bool p3, .bool p4, .bool p5, .bool p6] := by rw [← hV]; exact Blk.new w2 _ _
  have HMV := Lib.hid (HM.out.below' hbV)
  have HbV := Lib.hid (hb2.trans (hbV.mono hb2.size))
  have u1 := hu.cell 1
  have u2 := hu.cell 2
  simp only [List.getElem?_toArray, List.getElem?_cons_zero, List.getElem?_cons_succ] at u1 u2
  obtain ⟨g0, g1, g2, g3, g4, g5, g6, g7⟩ := boxFactsW HMV.out
  have HUV := Lib.hid hu
  cases q1 <;> cases q2
  · go_wp2_with fail
    refine (Tryz.slices_Sort_int_none none 0 _).mono ?_
    rintro e5 w5 ⟨rfl, rfl⟩
    go_wp2_with fail
    refine (Tryz.slices_Compact_int_empty none 0 _).mono ?_
    rintro e6 w6 ⟨rfl, rfl⟩
    have hrr : mk [] = r := HR.out
    go_wp2
    go_ret
    rw [← hrr]
    exact ⟨none, 0, rfl, Rd.nil, HbV.out⟩
  · go_wp2_with (first | (at_builtin; refine appI _ rfl (.tmp 22) (.tmp 25) rfl V.heap.size _ [] rfl (OwnI.nil _ _) (some ⟨V.heap.size, 0, none⟩) 1 1 [c] rfl rfl (Rd.lit V [c] 3 (by simp)) (by simp) (by simp) ?_; intro v2 w4 o2 _ b4; have B4 := (belowAlloc V (.cells #[.int .i64 c] 3)).trans b4; rw [List.nil_append] at o2) | fail)
    obtain ⟨g, c1', rfl, hg, hlt, hcp, hmx, hH⟩ := o2.holds (by simp)
    have HH := Lib.hid hH; clear hH
    go_wp2_with fail
    refine (sortCompact [c] (by simp) (by simp) w4 V.heap.size g c1' hg hlt hcp hmx HH.out).mono ?_
    rintro e5 w5 ⟨rfl, b5, hcon⟩
    have HC := Lib.hid hcon; clear hcon
    go_wp2_with fail
    refine HC.out.mono ?_
    rintro e6 w6 ⟨rfl, b6, r6⟩
    have hrr : mk [c] = r := HR.out
    rw [hrr] at r6 ⊢
    have hVB : w.heap.size ≤ V.heap.size := HbV.out.size
    go_wp2
    go_ret
    exact ⟨_, c1', rfl, r6, HbV.out.trans ((B4.trans (b5.trans b6)).mono hVB)⟩
  · go_wp2_with (first | (at_builtin; refine appI _ rfl (.tmp 15) (.tmp 18) rfl V.heap.size _ [] rfl (OwnI.nil _ _) (some ⟨V.heap.size, 0, none⟩) 1 1 [b] rfl rfl (Rd.lit V [b] 3 (by simp)) (by simp) (by simp) ?_; intro v1 w3 o1 _ b3; have B3 := (belowAlloc V (.cells #[.int .i64 b] 3)).trans b3; have HM3 := HMV.out.below' B3; obtain ⟨g0, g1, g2, g3, g4, g5, g6, g7⟩ := boxFactsW HM3; have u2 := (HUV.out.below' B3).cell 2; simp only [List.getElem?_toArray, List.getElem?_cons_zero, List.getElem?_cons_succ] at u2; rw [List.nil_append] at o1) | fail)
    obtain ⟨g, c1', rfl, hg, hlt, hcp, hmx, hH⟩ := o1.holds (by simp)
    have HH := Lib.hid hH; clear hH
    go_wp2_with fail
    refine (sortCompact [b] (by simp) (by simp) w3 V.heap.size g c1' hg hlt hcp hmx HH.out).mono ?_
    rintro e5 w5 ⟨rfl, b5, hcon⟩
    have HC := Lib.hid hcon; clear hcon
    go_wp2_with fail
    refine HC.out.mono ?_
    rintro e6 w6 ⟨rfl, b6, r6⟩
    have hrr : mk [b] = r := HR.out
    rw [hrr] at r6 ⊢
    have hVB : w.heap.size ≤ V.heap.size := HbV.out.size
    go_wp2
    go_ret
    exact ⟨_, c1', rfl, r6, HbV.out.trans ((B3.trans (b5.trans b6)).mono hVB)⟩
  · go_wp2_with (first | (at_builtin; refine appI _ rfl (.tmp 15) (.tmp 18) rfl V.heap.size _ [] rfl (OwnI.nil _ _) (some ⟨V.heap.size, 0, none⟩) 1 1 [b] rfl rfl (Rd.lit V [b] 3 (by simp)) (by simp) (by simp) ?_; intro v1 w3 o1 _ b3; have B3 := (belowAlloc V (.cells #[.int .i64 b] 3)).trans b3; have HM3 := HMV.out.below' B3; obtain ⟨g0, g1, g2, g3, g4, g5, g6, g7⟩ := boxFactsW HM3; have u2 := (HUV.out.below' B3).cell 2; simp only [List.getElem?_toArray, List.getElem?_cons_zero, List.getElem?_cons_succ] at u2; rw [List.nil_append] at o1) | (at_builtin; refine appI _ rfl (.tmp 22) (.tmp 25) rfl V.heap.size _ _ rfl (o1.alloc _) (some ⟨w3.heap.size, 0, none⟩) 1 1 [c] rfl rfl (Rd.lit w3 [c] 3 (by simp)) (by simp) (by have := B3.size; simp; omega) ?_; intro v2 w4 o2 _ b4; have B4 := B3.trans ((belowAl3 w3 B3.size (.cells #[.int .i64 c] 3)).trans b4); rw [List.singleton_append] at o2) | fail)
    obtain ⟨g, c1', rfl, hg, hlt, hcp, hmx, hH⟩ := o2.holds (by simp)
    have HH := Lib.hid hH; clear hH
    go_wp2_with fail
    refine (sortCompact [b, c] (by simp) (by simp) w4 V.heap.size g c1' hg hlt hcp hmx HH.out).mono ?_
    rintro e5 w5 ⟨rfl, b5, hcon⟩
    have HC := Lib.hid hcon; clear hcon
    go_wp2_with fail
    refine HC.out.mono ?_
    rintro e6 w6 ⟨rfl, b6, r6⟩
    have hrr : mk [b, c] = r := HR.out
    rw [hrr] at r6 ⊢
    have hVB : w.heap.size ≤ V.heap.size := HbV.out.size
    go_wp2
    go_ret
    exact ⟨_, c1', rfl, r6, HbV.out.trans ((B4.trans (b5.trans b6)).mono hVB)⟩

theorem iUses (i : I8) (r : List Int) (hr : i.uses = r) (hi : i.Wf) (w : World) (hT : InsT w) (hN : Nm w) :
    Calls Tryz.prog 92 #[i.val] w (GivesL r w) := by
  obtain ⟨op, a, b, c, obj, n, fn, ord⟩ := i
  by_cases h : (I8.mk8 op a b c obj n fn ord).chk = 0
  · have hg := (I8.good h).op
    obtain ⟨k, rfl⟩ : ∃ k : Nat, op = k := ⟨op.toNat, by have := hg.1; simp only at this; omega⟩
    simp only at hg
    exact iUsesYes k (by omega) (by omega) a b c obj n fn ord h r hr hi w hT hN
  · rw [usesNo h] at hr
    subst hr
    exact iUsesNo op a b c obj n fn ord _ rfl h hi w hT hN
end Go.Proofs.YtpkagpobobmnfaaGreatDoor

namespace Go.Proofs.YtpkagpobobmnfaaGreatDoor
open Go Go.RowKit

/-- In w the slice with address A, capacity c and as many elements as l, each of k cells, reads as l; E says how an element lies at a place. -/
structure RdE {α : Type} (k : Nat) (E : World → Nat → Nat → α → Prop) (w : World) (A : Option Addr) (c : Nat) (l : List α) : Prop where
  le : l.length ≤ c
  max : c ≤ maxLen
  at_ : 0 < l.length → ∃ b off, A = some ⟨b, off, none⟩ ∧ b < w.heap.size ∧ ∀ j (h : j < l.length), E w b (off + j * k) l[j]
/-- What lies at a place stays there as long as what is old is unchanged. -/
def StabE {α : Type} (E : World → Nat → Nat → α → Prop) : Prop := ∀ (w w' : World) (b o : Nat) (x : α), b < w.heap.size → Below w.heap.size w w' → E w b o x → E w' b o x
section
variable {α : Type} {k : Nat} {E : World → Nat → Nat → α → Prop} {w w' : World} {A : Option Addr} {c : Nat} {l : List α}
theorem RdE.nil : RdE k E w none 0 ([] : List α) := ⟨Nat.zero_le _, Nat.zero_le _, fun h => absurd h (by simp)⟩
theorem RdE.one (h : RdE k E w A c l) {j : Nat} (hj : j < l.length) : ∃ b off, A = some ⟨b, off, none⟩ ∧ b < w.heap.size ∧ E w b (off + j * k) l[j] := by
  obtain ⟨b, off, e, hb, hc⟩ := h.at_ (by omega)
  exact ⟨b, off, e, hb, hc j hj⟩
theorem RdE.below (h : RdE k E w A c l) (hE : StabE E) (hb : Below w.heap.size w w') : RdE k E w' A c l :=
  ⟨h.le, h.max, fun hn => by
    obtain ⟨b, off, e, hl, hc⟩ := h.at_ hn
    exact ⟨b, off, e, Nat.lt_of_lt_of_le hl hb.size, fun j hj => hE _ _ _ _ _ hl hb (hc j hj)⟩⟩
end
def ES (w : World) (b o : Nat) (s : ByteArray) : Prop := w.cell? ⟨b, o, none⟩ = some (.string s)
def EV (w : World) (b o : Nat) (v : ByteArray × Int) : Prop := w.cell? ⟨b, o, none⟩ = some (.string v.1) ∧ w.cell? ⟨b, o + 1, none⟩ = some (.int .i64 v.2)
def ET (w : World) (b o : Nat) (t : Int × Int) : Prop := w.cell? ⟨b, o, none⟩ = some (.int .i64 t.1) ∧ w.cell? ⟨b, o + 1, none⟩ = some (.int .i64 t.2)
/-- The eight cells of an instruction. -/
structure EI (w : World) (b o : Nat) (i : I8) : Prop where
  c0 : w.cell? ⟨b, o, none⟩ = some (.int .i64 i.op)
  c1 : w.cell? ⟨b, o + 1, none⟩ = some (.int .i64 i.a)
  c2 : w.cell? ⟨b, o + 2, none⟩ = some (.int .i64 i.b)
  c3 : w.cell? ⟨b, o + 3, none⟩ = some (.int .i64 i.c)
  c4 : w.cell? ⟨b, o + 4, none⟩ = some (.int .i64 i.obj)
  c5 : w.cell? ⟨b, o + 5, none⟩ = some (.int .i64 i.n)
  c6 : w.cell? ⟨b, o + 6, none⟩ = some (.int .i64 i.fn)
  c7 : w.cell? ⟨b, o + 7, none⟩ = some (.int .i64 i.ord)
theorem stabS : StabE ES := fun _ _ _ _ _ hl hb h => (hb.cell hl).trans h
theorem stabV : StabE EV := fun _ _ _ _ _ hl hb h => ⟨(hb.cell hl).trans h.1, (hb.cell hl).trans h.2⟩
theorem stabT : StabE ET := fun _ _ _ _ _ hl hb h => ⟨(hb.cell hl).trans h.1, (hb.cell hl).trans h.2⟩
theorem stabI : StabE EI := fun _ _ _ _ _ hl hb h => ⟨(hb.cell hl).trans h.c0, (hb.cell hl).trans h.c1, (hb.cell hl).trans h.c2, (hb.cell hl).trans h.c3, (hb.cell hl).trans h.c4, (hb.cell hl).trans h.c5, (hb.cell hl).trans h.c6, (hb.cell hl).trans h.c7⟩
/-- Where a function's code lies. -/
def EC (w : World) (v : Value) (l : List I8) : Prop := ∃ A n c, v = .slice A n c ∧ l.length = n ∧ RdE 8 EI w A c l
def EF (w : World) (b o : Nat) (f : ByteArray × List I8) : Prop := w.cell? ⟨b, o, none⟩ = some (.string f.1) ∧ ∃ v, w.cell? ⟨b, o + 1, none⟩ = some v ∧ EC w v f.2
theorem EC.below {w w' : World} {v : Value} {l : List I8} (h : EC w v l) (hb : Below w.heap.size w w') : EC w' v l := by
  obtain ⟨A, n, c, e, hn, hr⟩ := h
  exact ⟨A, n, c, e, hn, hr.below stabI hb⟩
theorem stabF : StabE EF := fun _ _ _ _ _ hl hb h => by
  obtain ⟨h1, v, h2, h3⟩ := h
  exact ⟨(hb.cell hl).trans h1, v, (hb.cell hl).trans h2, h3.below hb⟩

/-- A program by value: the five slices. -/
structure PgA where
  A1 : Option Addr
  n1 : Nat
  c1 : Nat
  A2 : Option Addr
  n2 : Nat
  c2 : Nat
  A3 : Option Addr
  n3 : Nat
  c3 : Nat
  A4 : Option Addr
  n4 : Nat
  c4 : Nat
  A5 : Option Addr
  n5 : Nat
  c5 : Nat
def PgA.fs (a : PgA) : Array Value := #[.slice a.A1 a.n1 a.c1, .slice a.A2 a.n2 a.c2, .slice a.A3 a.n3 a.c3, .slice a.A4 a.n4 a.c4, .slice a.A5 a.n5 a.c5]
def PgA.val (a : PgA) : Value := .agg a.fs
/-- In w the program by value reads as p. -/
structure PgW (w : World) (a : PgA) (p : Prg) : Prop where
  l1 : p.vars.length = a.n1
  l2 : p.muts.length = a.n2
  l3 : p.conds.length = a.n3
  l4 : p.funcs.length = a.n4
  l5 : p.thr.length = a.n5
  vars : RdE 2 EV w a.A1 a.c1 p.vars
  muts : RdE 1 ES w a.A2 a.c2 p.muts
  conds : RdE 1 ES w a.A3 a.c3 p.conds
  funcs : RdE 2 EF w a.A4 a.c4 p.funcs
  thr : RdE 2 ET w a.A5 a.c5 p.thr
theorem PgW.below {w w' : World} {a : PgA} {p : Prg} (h : PgW w a p) (hb : Below w.heap.size w w') : PgW w' a p :=
  ⟨h.l1, h.l2, h.l3, h.l4, h.l5, h.vars.below stabV hb, h.muts.below stabS hb, h.conds.below stabS hb, h.funcs.below stabF hb, h.thr.below stabT hb⟩
/-- Every instruction of the program has fields in their ranges, and no name is longer than memory allows. -/
structure Prg.Wf (p : Prg) : Prop where
  ins : ∀ f ∈ p.funcs, ∀ i ∈ f.2, i.Wf
  vn : ∀ v ∈ p.vars, v.1.size ≤ maxLen
  mn : ∀ s ∈ p.muts, s.size ≤ maxLen
  cn : ∀ s ∈ p.conds, s.size ≤ maxLen
  fn : ∀ f ∈ p.funcs, f.1.size ≤ maxLen
/-- Block b holds the program by value. -/
def PBox (w : World) (b : Nat) (a : PgA) : Prop := Blk w b 43 a.fs
theorem PBox.facts {w : World} {b : Nat} {a : PgA} (h : PBox w b a) : w.cell? ⟨b, 0, none⟩ = some (.slice a.A1 a.n1 a.c1) ∧ w.cell? ⟨b, 1, none⟩ = some (.slice a.A2 a.n2 a.c2) ∧ w.cell? ⟨b, 2, none⟩ = some (.slice a.A3 a.n3 a.c3) ∧ w.cell? ⟨b, 3, none⟩ = some (.slice a.A4 a.n4 a.c4) ∧ w.cell? ⟨b, 4, none⟩ = some (.slice a.A5 a.n5 a.c5) :=
  ⟨Blk.cell h 0, Blk.cell h 1, Blk.cell h 2, Blk.cell h 3, Blk.cell h 4⟩
theorem PBox.below {w w' : World} {b : Nat} {a : PgA} (h : PBox w b a) (hb : Below w.heap.size w w') : PBox w' b a := Blk.below' h hb
theorem PBox.lt {w : World} {b : Nat} {a : PgA} (h : PBox w b a) : b < w.heap.size := Blk.lt h
/-- What a function that gives an error with two numbers returns. -/
def err3 (r : Int × Int × Int) : Ending := .returned (.tuple #[.int .i64 r.1, .int .i64 r.2.1, .int .i64 r.2.2])
end Go.Proofs.YtpkagpobobmnfaaGreatDoor

namespace Go.Proofs.YtpkagpobobmnfaaGreatDoor
open Go Go.RowKit

theorem retBl {a b : Bool} (h : a = b) : Ending.returned (.bool a) = .returned (.bool b) := by rw [h]
theorem iLetter (c : UInt8) (w : World) : Calls Tryz.prog 170 #[.int .u8 (c.toNat : Int)] w fun e w' => e = .returned (.bool (letB c)) ∧ w = w' := by
  have hc := c.toNat_lt
  obtain ⟨n, hn⟩ : ∃ n : Nat, c.toNat = n := ⟨_, rfl⟩
  have HL : Hid (letB c = ((decide (97 ≤ n) && decide (n ≤ 122)) || (decide (65 ≤ n) && decide (n ≤ 90)))) := by rw [← hn]; exact Lib.hid rfl
  rw [hn] at hc ⊢
  clear hn
  go_enter Tryz.func170, Tryz.ntmps170
  go_wp2
  all_goals go_ret
  all_goals exact ⟨retBl (by rw [HL.out, Bool.eq_iff_iff]; (try simp); omega), rfl⟩
theorem iDigit (c : UInt8) (w : World) : Calls Tryz.prog 171 #[.int .u8 (c.toNat : Int)] w fun e w' => e = .returned (.bool (digB c)) ∧ w = w' := by
  have hc := c.toNat_lt
  obtain ⟨n, hn⟩ : ∃ n : Nat, c.toNat = n := ⟨_, rfl⟩
  have HL : Hid (digB c = (decide (48 ≤ n) && decide (n ≤ 57))) := by rw [← hn]; exact Lib.hid rfl
  rw [hn] at hc ⊢
  clear hn
  go_enter Tryz.func171, Tryz.ntmps171
  go_wp2
  all_goals go_ret
  all_goals exact ⟨retBl (by rw [HL.out, Bool.eq_iff_iff]; (try simp); omega), rfl⟩
theorem iIsVal (n : Int) (w : World) : Calls Tryz.prog 128 #[.int .i64 n] w fun e w' => e = .returned (.bool (isVal n)) ∧ w = w' := by
  have HL : Hid (isVal n = (decide (-2147483648 ≤ n) && decide (n ≤ 2147483647))) := Lib.hid rfl
  go_enter Tryz.func128, Tryz.ntmps128
  go_wp2
  all_goals go_ret
  all_goals exact ⟨retBl (by rw [HL.out, Bool.eq_iff_iff]; (try simp); omega), rfl⟩
theorem iBelow (n : Int) (c : Nat) (w : World) : Calls Tryz.prog 133 #[.int .i64 n, .int .i64 (c : Int)] w fun e w' => e = .returned (.bool (belB n c)) ∧ w = w' := by
  have HL : Hid (belB n c = (decide (0 ≤ n) && decide (n < (c : Int)))) := Lib.hid rfl
  go_enter Tryz.func133, Tryz.ntmps133
  go_wp2
  all_goals go_ret
  all_goals exact ⟨retBl (by rw [HL.out, Bool.eq_iff_iff]; (try simp); omega), rfl⟩
end Go.Proofs.YtpkagpobobmnfaaGreatDoor

namespace Go.Proofs.YtpkagpobobmnfaaGreatDoor
open Go Go.ChangeShapes Go.WideShapes Go.ChangeAt Go.RowKit Go.Deep Go.Joins

theorem listOf {α : Type} {R : Nat → α → Prop} : ∀ (n : Nat), (∀ i, i < n → ∃ x, R i x) → ∃ l : List α, l.length = n ∧ ∀ i (hi : i < l.length), R i l[i]
  | 0, _ => ⟨[], rfl, fun i hi => absurd hi (by simp)⟩
  | n + 1, h => by
    obtain ⟨l, hl, hR⟩ := listOf n fun i hi => h i (by omega)
    obtain ⟨x, hx⟩ := h n (by omega)
    refine ⟨l ++ [x], by simp [hl], fun i hi => ?_⟩
    rw [List.length_append, List.length_singleton] at hi
    by_cases e : i < l.length
    · rw [List.getElem_append_left e]
      exact hR i e
    · have e2 : i = l.length := by omega
      subst e2
      rw [List.getElem_append_right (Nat.le_refl _)]
      simpa [hl] using hx
section
variable {H : Type} {enc : TypeId × Value → H} {W : World} {b0 : Nat}
/-- A slice as an argument, whatever its elements. -/
theorem openE {α : Type} {t e : TypeId} {k fuel : Nat} {v : Value} {y : DataW H × List MemPlace} (E : World → Nat → Nat → α → Prop) (Q : α → Prop) (ht : Tryz.prog.underlying t = some (.slice e)) (hk : Tryz.prog.cellsOf e = k) (hk0 : 0 < k)
    (hel : ∀ (b o : Nat) (cs : List Value) (n : Nat) (x : DataW H × List MemPlace), cs.length = k → (∀ j (h : j < cs.length), W.cell? ⟨b, o + j, none⟩ = some cs[j]) → DataW.trod enc Tryz.prog W b0 (fun _ => true) true n e cs = some x → ∃ z, E W b o z ∧ Q z)
    (h : DataW.trod enc Tryz.prog W b0 (fun _ => true) true fuel t [v] = some y) : ∃ (A : Option Addr) (n c : Nat) (l : List α), v = .slice A n c ∧ l.length = n ∧ RdE k E W A c l ∧ ∀ x ∈ l, Q x := by
  rcases open_slice ht h with ⟨hcs, hx⟩ | ⟨a, len, cap, m, n, D, Pl, hcs, hb, hl, hmx, hmm, hx, hcell⟩
  · injection hcs with hcs
    exact ⟨none, 0, 0, [], hcs, rfl, RdE.nil, fun _ h => by cases h⟩
  · injection hcs with hcs
    simp only [if_true] at hmm
    subst hmm
    rcases Nat.eq_zero_or_pos len with h0 | h0
    · subst h0
      exact ⟨some a, 0, m, [], hcs, rfl, ⟨by simp, hmx, fun h => absurd h (by simp)⟩, fun _ h => by cases h⟩
    obtain ⟨cs0, h1, _⟩ := hcell 0 (by omega)
    rw [hk] at h1
    obtain ⟨_, hlen0, hc0⟩ := World.cells?_some h1
    have e0 := (hc0 0 (by omega)).trans (List.getElem?_eq_getElem (by omega))
    obtain ⟨b, off, spot⟩ := a
    have hspot : spot = none := by simpa [Addr.add] using World.cell?_spot e0
    subst hspot
    have hbl : b < W.heap.size := by
      have := World.block_lt_of_cell? W _ e0
      simpa [Addr.add] using this
    obtain ⟨l, hll, hR⟩ := listOf (R := fun i z => E W b (off + i * k) z ∧ Q z) len fun i hi => by
      obtain ⟨cs', h1, h2⟩ := hcell i (by omega)
      rw [hk] at h1
      obtain ⟨_, hlen, hc⟩ := World.cells?_some h1
      refine hel b (off + i * k) cs' _ _ hlen (fun j hj => ?_) h2
      have := hc j (by omega)
      rw [Addr.add_lit, Addr.add_lit] at this
      exact this.trans (List.getElem?_eq_getElem hj)
    refine ⟨_, len, m, l, hcs, hll, ⟨by omega, hmx, fun _ => ⟨b, off, rfl, hbl, fun j hj => (hR j hj).1⟩⟩, fun x hx => ?_⟩
    obtain ⟨i, hi, rfl⟩ := List.getElem_of_mem hx
    exact (hR i hi).2
/-- The i-th field's part of a struct's cells. -/
theorem fieldAt {fs : Array Field} {cs : List Value} {xs : List (DataW H × List MemPlace)} {n : Nat} (h1 : oneCellFields Tryz.prog fs = true) (hl : cs.length = fs.size) (hxl : xs.length = fs.size)
    (hx : ∀ (i : Nat) (f : Field), fs[i]? = some f → DataW.trod enc Tryz.prog W b0 (fun _ => true) true n f.type ((cs.drop f.offset).take (Tryz.prog.cellsOf f.type)) = xs[i]?) (i : Nat) (hi : i < fs.size) :
    ∃ y, DataW.trod enc Tryz.prog W b0 (fun _ => true) true n fs[i].type [cs[i]] = some y := by
  have hf : fs[i]? = some fs[i] := Array.getElem?_eq_getElem hi
  obtain ⟨o, ce⟩ := hone_of h1 i fs[i] hf
  have h := hx i fs[i] hf
  rw [o, ce, List.getElem?_eq_getElem (by omega)] at h
  have e : List.take 1 (List.drop i cs) = [cs[i]'(by omega)] := by
    rw [List.drop_eq_getElem_cons (by omega)]
    rfl
  rw [e] at h
  exact ⟨_, h⟩
theorem elS {b o n : Nat} {cs : List Value} {x : DataW H × List MemPlace} (hl : cs.length = 1) (hc : ∀ j (h : j < cs.length), W.cell? ⟨b, o + j, none⟩ = some cs[j]) (h : DataW.trod enc Tryz.prog W b0 (fun _ => true) true n 9 cs = some x) : ∃ z, ES W b o z ∧ z.size ≤ maxLen := by
  obtain ⟨s, e, _, hs⟩ := DataW.trod_string Tryz.underlying9 h
  subst e
  exact ⟨s, hc 0 (by simp), hs⟩
theorem varFs : ∃ fs, Tryz.prog.underlying 82 = some (.struct fs) ∧ oneCellFields Tryz.prog fs = true ∧ fs.map (·.type) = #[9, 3] ∧ Tryz.prog.cellsOf 82 = 2 := ⟨_, Tryz.underlying82, by kernel_rfl, by kernel_rfl, by kernel_rfl⟩
theorem startFs : ∃ fs, Tryz.prog.underlying 84 = some (.struct fs) ∧ oneCellFields Tryz.prog fs = true ∧ fs.map (·.type) = #[3, 3] ∧ Tryz.prog.cellsOf 84 = 2 := ⟨_, Tryz.underlying84, by kernel_rfl, by kernel_rfl, by kernel_rfl⟩
theorem funcFs : ∃ fs, Tryz.prog.underlying 24 = some (.struct fs) ∧ oneCellFields Tryz.prog fs = true ∧ fs.map (·.type) = #[9, 22] ∧ Tryz.prog.cellsOf 24 = 2 := ⟨_, Tryz.underlying24, by kernel_rfl, by kernel_rfl, by kernel_rfl⟩
theorem instFs2 : ∃ fs, Tryz.prog.underlying 55 = some (.struct fs) ∧ oneCellFields Tryz.prog fs = true ∧ fs.map (·.type) = #[51, 3, 3, 3, 3, 3, 52, 53] ∧ Tryz.prog.cellsOf 55 = 8 := ⟨_, Tryz.underlying55, by kernel_rfl, by kernel_rfl, by kernel_rfl⟩
theorem progFs : ∃ fs, Tryz.prog.underlying 43 = some (.struct fs) ∧ oneCellFields Tryz.prog fs = true ∧ fs.map (·.type) = #[38, 39, 39, 40, 41] ∧ Tryz.prog.cellsOf 43 = 5 := ⟨_, Tryz.underlying43, by kernel_rfl, by kernel_rfl, by kernel_rfl⟩
theorem typeAt {fs : Array Field} {ts : Array TypeId} (h : fs.map (·.type) = ts) (i : Nat) (hi : i < fs.size) {t : TypeId} (ht : ts[i]? = some t) : fs[i].type = t := by
  rw [← h, Array.getElem?_map, Array.getElem?_eq_getElem hi] at ht
  exact Option.some.inj ht
/-- A struct's cells, field by field. -/
theorem fieldsOf {t : TypeId} {fs : Array Field} {ts : Array TypeId} {k n : Nat} {cs : List Value} {x : DataW H × List MemPlace} (hu : Tryz.prog.underlying t = some (.struct fs)) (h1 : oneCellFields Tryz.prog fs = true) (h2 : fs.map (·.type) = ts) (hk : ts.size = k) (hl : cs.length = k)
    (h : DataW.trod enc Tryz.prog W b0 (fun _ => true) true n t cs = some x) : ∃ m, ∀ (i : Nat) (hi : i < cs.length) (u : TypeId), ts[i]? = some u → ∃ y, DataW.trod enc Tryz.prog W b0 (fun _ => true) true m u [cs[i]] = some y := by
  obtain ⟨xs, m, _, _, _, hxl, hx⟩ := DataW.trod_struct hu h
  have hsz : fs.size = k := by rw [← hk, ← h2, Array.size_map]
  refine ⟨m, fun i hi u hu' => ?_⟩
  have := fieldAt h1 (by omega) hxl hx i (by omega)
  rwa [typeAt h2 i (by omega) hu'] at this
theorem elV {b o n : Nat} {cs : List Value} {x : DataW H × List MemPlace} (hl : cs.length = 2) (hc : ∀ j (h : j < cs.length), W.cell? ⟨b, o + j, none⟩ = some cs[j]) (h : DataW.trod enc Tryz.prog W b0 (fun _ => true) true n 82 cs = some x) : ∃ z, EV W b o z ∧ z.1.size ≤ maxLen := by
  obtain ⟨fs, g1, g2, g3, g4⟩ := varFs
  obtain ⟨m, hf⟩ := fieldsOf g1 g2 g3 rfl hl h
  obtain ⟨_, f0⟩ := hf 0 (by omega) _ rfl
  obtain ⟨_, f1⟩ := hf 1 (by omega) _ rfl
  obtain ⟨s, e0, _, hs⟩ := DataW.trod_string Tryz.underlying9 f0
  obtain ⟨z, e1, _⟩ := DataW.trod_int Tryz.underlying3 f1
  injection e0 with e0
  injection e1 with e1
  exact ⟨(s, z), ⟨(hc 0 (by omega)).trans (by rw [e0]), (hc 1 (by omega)).trans (by rw [e1])⟩, hs⟩
theorem elT {b o n : Nat} {cs : List Value} {x : DataW H × List MemPlace} (hl : cs.length = 2) (hc : ∀ j (h : j < cs.length), W.cell? ⟨b, o + j, none⟩ = some cs[j]) (h : DataW.trod enc Tryz.prog W b0 (fun _ => true) true n 84 cs = some x) : ∃ z, ET W b o z ∧ True := by
  obtain ⟨fs, g1, g2, g3, g4⟩ := startFs
  obtain ⟨m, hf⟩ := fieldsOf g1 g2 g3 rfl hl h
  obtain ⟨_, f0⟩ := hf 0 (by omega) _ rfl
  obtain ⟨_, f1⟩ := hf 1 (by omega) _ rfl
  obtain ⟨s, e0, _⟩ := DataW.trod_int Tryz.underlying3 f0
  obtain ⟨z, e1, _⟩ := DataW.trod_int Tryz.underlying3 f1
  injection e0 with e0
  injection e1 with e1
  exact ⟨(s, z), ⟨(hc 0 (by omega)).trans (by rw [e0]), (hc 1 (by omega)).trans (by rw [e1])⟩, trivial⟩
theorem elI {b o n : Nat} {cs : List Value} {x : DataW H × List MemPlace} (hl : cs.length = 8) (hc : ∀ j (h : j < cs.length), W.cell? ⟨b, o + j, none⟩ = some cs[j]) (h : DataW.trod enc Tryz.prog W b0 (fun _ => true) true n 55 cs = some x) : ∃ z, EI W b o z ∧ z.Wf := by
  obtain ⟨fs, g1, g2, g3, g4⟩ := instFs2
  obtain ⟨m, hf⟩ := fieldsOf g1 g2 g3 rfl hl h
  have key : ∀ (i : Nat) (hi : i < cs.length) (u : TypeId), Tryz.prog.underlying u = some (.int .i64) → (#[51, 3, 3, 3, 3, 3, 52, 53] : Array TypeId)[i]? = some u → ∃ z, W.cell? ⟨b, o + i, none⟩ = some (.int .i64 z) ∧ In64 z := fun i hi u hu ht => by
    obtain ⟨_, f0⟩ := hf i hi u ht
    obtain ⟨z, e, hz⟩ := intOfTrod hu f0
    exact ⟨z, (hc i hi).trans (by rw [e]), hz⟩
  obtain ⟨z0, k0, w0⟩ := key 0 (by omega) _ Tryz.underlying51 rfl
  obtain ⟨z1, k1, w1⟩ := key 1 (by omega) _ Tryz.underlying3 rfl
  obtain ⟨z2, k2, w2⟩ := key 2 (by omega) _ Tryz.underlying3 rfl
  obtain ⟨z3, k3, w3⟩ := key 3 (by omega) _ Tryz.underlying3 rfl
  obtain ⟨z4, k4, w4⟩ := key 4 (by omega) _ Tryz.underlying3 rfl
  obtain ⟨z5, k5, w5⟩ := key 5 (by omega) _ Tryz.underlying3 rfl
  obtain ⟨z6, k6, w6⟩ := key 6 (by omega) _ Tryz.underlying52 rfl
  obtain ⟨z7, k7, w7⟩ := key 7 (by omega) _ Tryz.underlying53 rfl
  exact ⟨⟨z0, z1, z2, z3, z4, z5, z6, z7⟩, ⟨k0, k1, k2, k3, k4, k5, k6, k7⟩, ⟨w0, w1, w2, w3, w4, w5, w6, w7⟩⟩
theorem elF {b o n : Nat} {cs : List Value} {x : DataW H × List MemPlace} (hl : cs.length = 2) (hc : ∀ j (h : j < cs.length), W.cell? ⟨b, o + j, none⟩ = some cs[j]) (h : DataW.trod enc Tryz.prog W b0 (fun _ => true) true n 24 cs = some x) : ∃ z, EF W b o z ∧ (z.1.size ≤ maxLen ∧ ∀ i ∈ z.2, i.Wf) := by
  obtain ⟨fs, g1, g2, g3, g4⟩ := funcFs
  obtain ⟨m, hf⟩ := fieldsOf g1 g2 g3 rfl hl h
  obtain ⟨_, f0⟩ := hf 0 (by omega) _ rfl
  obtain ⟨_, f1⟩ := hf 1 (by omega) _ rfl
  obtain ⟨s, e0, _, hs⟩ := DataW.trod_string Tryz.underlying9 f0
  injection e0 with e0
  obtain ⟨A, q, c, l, e1, hq, hr, hw⟩ := openE EI I8.Wf Tryz.underlying22 (k := 8) (by kernel_rfl) (by decide) (fun b o cs n x h1 h2 h3 => elI h1 h2 h3) f1
  exact ⟨(s, l), ⟨(hc 0 (by omega)).trans (by rw [e0]), _, hc 1 (by omega), A, q, c, e1, hq, hr⟩, hs, hw⟩
set_option maxRecDepth 100000 in
/-- A program as an argument. -/
theorem openPg {base : Nat} {v : Value} {d : DataW H} {p : List MemPlace} (hv : Value.okWide Tryz.prog W .any base 43 v) (h : DataW.Trod enc Tryz.prog W b0 (fun _ => true) true 43 v d p) :
    ∃ (a : PgA) (g : Prg), v = a.val ∧ PgW W a g ∧ g.Wf := by
  obtain ⟨fs, g1, g2, g3, g4⟩ := progFs
  obtain ⟨cs, rfl, hsz⟩ := okWide_struct g1 hv
  rw [g4] at hsz
  obtain ⟨fuel, hf⟩ := h
  have hf' : DataW.trod enc Tryz.prog W b0 (fun _ => true) true fuel 43 cs.toList = some (d, p) := hf
  have hl : cs.toList.length = 5 := by simpa using hsz
  obtain ⟨m, hx⟩ := fieldsOf g1 g2 g3 rfl hl hf'
  obtain ⟨l⟩ := cs
  match l, hl with
  | [v1, v2, v3, v4, v5], _ =>
    obtain ⟨_, f1⟩ := hx 0 (by simp) _ rfl
    obtain ⟨_, f2⟩ := hx 1 (by simp) _ rfl
    obtain ⟨_, f3⟩ := hx 2 (by simp) _ rfl
    obtain ⟨_, f4⟩ := hx 3 (by simp) _ rfl
    obtain ⟨_, f5⟩ := hx 4 (by simp) _ rfl
    obtain ⟨A1, n1, c1, l1, e1, q1, r1, w1⟩ := openE EV (fun z => z.1.size ≤ maxLen) Tryz.underlying38 (k := 2) (by kernel_rfl) (by decide) (fun b o cs n x h1 h2 h3 => elV h1 h2 h3) f1
    obtain ⟨A2, n2, c2, l2, e2, q2, r2, w2⟩ := openE ES (fun z => z.size ≤ maxLen) Tryz.underlying39 (k := 1) (by kernel_rfl) (by decide) (fun b o cs n x h1 h2 h3 => elS h1 h2 h3) f2
    obtain ⟨A3, n3, c3, l3, e3, q3, r3, w3⟩ := openE ES (fun z => z.size ≤ maxLen) Tryz.underlying39 (k := 1) (by kernel_rfl) (by decide) (fun b o cs n x h1 h2 h3 => elS h1 h2 h3) f3
    obtain ⟨A4, n4, c4, l4, e4, q4, r4, w4⟩ := openE EF (fun z => z.1.size ≤ maxLen ∧ ∀ i ∈ z.2, i.Wf) Tryz.underlying40 (k := 2) (by kernel_rfl) (by decide) (fun b o cs n x h1 h2 h3 => elF h1 h2 h3) f4
    obtain ⟨A5, n5, c5, l5, e5, q5, r5, w5⟩ := openE ET (fun _ => True) Tryz.underlying41 (k := 2) (by kernel_rfl) (by decide) (fun b o cs n x h1 h2 h3 => elT h1 h2 h3) f5
    have e1 : v1 = _ := e1
    have e2 : v2 = _ := e2
    have e3 : v3 = _ := e3
    have e4 : v4 = _ := e4
    have e5 : v5 = _ := e5
    subst e1 e2 e3 e4 e5
    exact ⟨⟨A1, n1, c1, A2, n2, c2, A3, n3, c3, A4, n4, c4, A5, n5, c5⟩, ⟨l1, l2, l3, l4, l5⟩, rfl, ⟨q1, q2, q3, q4, q5, r1, r2, r3, r4, r5⟩, ⟨fun f hf => (w4 f hf).2, w1, w2, w3, fun f hf => (w4 f hf).1⟩⟩
end
end Go.Proofs.YtpkagpobobmnfaaGreatDoor
