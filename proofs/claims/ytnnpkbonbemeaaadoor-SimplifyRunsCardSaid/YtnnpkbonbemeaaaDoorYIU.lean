/-
  The contracts of inst.Uses and inst.Defines: the registers that an instruction reads and writes.
-/
import Derived.Test.YtnnpkbonbemeaaaDoorYInsC
import Derived.Test.YtnnpkbonbemeaaaDoorYMk
import Derived.Test.YtnnpkbonbemeaaaDoorYPure
namespace Go.Proofs.YtnnpkbonbemeaaaDoor
open Go Go.RowKit Go.Sort

theorem iCheckA (op a b c obj n fn ord r : Int) (hr : (I8.mk8 op a b c obj n fn ord).chk = r) (hi : (I8.mk8 op a b c obj n fn ord).Wf) (w : World) (hT : InsT w) (hN : Nm w) :
    Calls Tryd.prog 105 #[.agg #[.int .i64 op, .int .i64 a, .int .i64 b, .int .i64 c, .int .i64 obj, .int .i64 n, .int .i64 fn, .int .i64 ord]] w fun e w' => e = .returned (.int .i64 r) ∧ Below w.heap.size w w' := iCheck _ r hr hi w hT hN
theorem InsT.below {W X : World} {B : Nat} (h : InsT W) (hb : Below B W X) (hB : W.heap.size ≤ B := by exact Nat.le_refl _) : InsT X :=
  ⟨fun k hk => (hb.cell (Nat.lt_of_lt_of_le (World.block_lt_of_cell? _ _ (h.nm k hk)) hB)).trans (h.nm k hk), fun k f hk hf => (hb.cell (Nat.lt_of_lt_of_le (World.block_lt_of_cell? _ _ (h.us k f hk hf)) hB)).trans (h.us k f hk hf)⟩
/-- The call's own box of an instruction. -/
theorem boxNew (w : World) (k a b c obj n fn ord : Int) : ∃ W, w.alloc (.cells #[.int .i64 k, .int .i64 a, .int .i64 b, .int .i64 c, .int .i64 obj, .int .i64 n, .int .i64 fn, .int .i64 ord] 47) = W ∧ Below w.heap.size w W ∧ W.heap.size = w.heap.size + 1 ∧
    Blk W w.heap.size 47 #[.int .i64 k, .int .i64 a, .int .i64 b, .int .i64 c, .int .i64 obj, .int .i64 n, .int .i64 fn, .int .i64 ord] :=
  ⟨_, rfl, belowAlloc w _, by simp, Blk.new w _ _⟩
theorem boxFactsW {W : World} {n0 : Nat} {k a b c obj n fn ord : Int} (h : Blk W n0 47 #[.int .i64 k, .int .i64 a, .int .i64 b, .int .i64 c, .int .i64 obj, .int .i64 n, .int .i64 fn, .int .i64 ord]) :
    W.cell? ⟨n0, 0, none⟩ = some (.int .i64 k) ∧ W.cell? ⟨n0, 1, none⟩ = some (.int .i64 a) ∧ W.cell? ⟨n0, 2, none⟩ = some (.int .i64 b) ∧ W.cell? ⟨n0, 3, none⟩ = some (.int .i64 c) ∧ W.cell? ⟨n0, 4, none⟩ = some (.int .i64 obj) ∧ W.cell? ⟨n0, 5, none⟩ = some (.int .i64 n) ∧ W.cell? ⟨n0, 6, none⟩ = some (.int .i64 fn) ∧ W.cell? ⟨n0, 7, none⟩ = some (.int .i64 ord) :=
  ⟨h.cell 0, h.cell 1, h.cell 2, h.cell 3, h.cell 4, h.cell 5, h.cell 6, h.cell 7⟩
theorem belowAl3 {B : Nat} (w : World) (h : B ≤ w.heap.size) (o : Obj) : Below B w (w.alloc o) := (Below.refl _ w).alloc h o
theorem usesNo {i : I8} (h : i.chk ≠ 0) : i.uses = [] := by unfold I8.uses; rw [if_neg h]
theorem usesYes {i : I8} (h : i.chk = 0) {q1 q2 : Bool} (h1 : i.u 1 = q1) (h2 : i.u 2 = q2) : i.uses = mk ((if q1 then [i.b] else []) ++ (if q2 then [i.c] else [])) := by unfold I8.uses I8.rdL; rw [if_pos h, h1, h2]

theorem iUsesNo (op a b c obj n fn ord e : Int) (he : (I8.mk8 op a b c obj n fn ord).chk = e) (hne : e ≠ 0) (hi : (I8.mk8 op a b c obj n fn ord).Wf) (w : World) (hT : InsT w) (hN : Nm w) :
    Calls Tryd.prog 71 #[.agg #[.int .i64 op, .int .i64 a, .int .i64 b, .int .i64 c, .int .i64 obj, .int .i64 n, .int .i64 fn, .int .i64 ord]] w (GivesL [] w) := by
  obtain ⟨W, hW, hbW, -, hbox⟩ := boxNew w op a b c obj n fn ord
  obtain ⟨c0, c1, c2, c3, c4, c5, c6, c7⟩ := boxFactsW hbox
  have hCK := Lib.hid (iCheckA op a b c obj n fn ord e he hi W (hT.below hbW) (hN.below hbW))
  have hx : (e != 0) = true := by simpa using hne
  clear he hne hi hT hN hbox
  go_enter Tryd.func71, Tryd.ntmps71
  go_wp2_with fail
  refine hCK.out.mono ?_
  rintro e' w2 ⟨rfl, b2⟩
  have hb2 := hbW.trans (b2.mono hbW.size)
  go_wp2
  go_ret
  exact ⟨none, 0, rfl, Rd.nil, hb2⟩

set_option maxHeartbeats 1000000 in
theorem iUsesYes (k : Nat) (h1 : 1 ≤ k) (h2 : k ≤ 22) (a b c obj n fn ord : Int) (he : (I8.mk8 k a b c obj n fn ord).chk = 0) (r : List Int) (hr : (I8.mk8 k a b c obj n fn ord).uses = r) (hi : (I8.mk8 k a b c obj n fn ord).Wf) (w : World) (hT : InsT w) (hN : Nm w) :
    Calls Tryd.prog 71 #[.agg #[.int .i64 k, .int .i64 a, .int .i64 b, .int .i64 c, .int .i64 obj, .int .i64 n, .int .i64 fn, .int .i64 ord]] w (GivesL r w) := by
  obtain ⟨W, hW, hbW, hzW, hbox⟩ := boxNew w k a b c obj n fn ord
  obtain ⟨c0, c1, c2, c3, c4, c5, c6, c7⟩ := boxFactsW hbox
  have hCK := Lib.hid (iCheckA k a b c obj n fn ord 0 he hi W (hT.below hbW) (hN.below hbW))
  have HM := Lib.hid hbox
  have HT := Lib.hid (hT.below hbW)
  have hk0 : (0 : Int) ≤ k := by omega
  have hk23 : (k : Int) < 23 := by omega
  have hkn : (k : Int).toNat = k := by omega
  obtain ⟨q1, hq1⟩ : ∃ q, us k 1 = q := ⟨_, rfl⟩
  obtain ⟨q2, hq2⟩ : ∃ q, us k 2 = q := ⟨_, rfl⟩
  have HR := Lib.hid ((usesYes he (q1 := q1) (q2 := q2) (by simpa [I8.u] using hq1) (by simpa [I8.u] using hq2)).symm.trans hr)
  have HQ1 := Lib.hid hq1
  have HQ2 := Lib.hid hq2
  clear he hi hT hN hbox hq1 hq2 hr
  go_enter Tryd.func71, Tryd.ntmps71
  go_wp2_with fail
  refine hCK.out.mono ?_
  rintro e' w2 ⟨rfl, b2⟩
  have hb2 := hbW.trans (b2.mono hbW.size)
  have HM := Lib.hid (HM.out.below' b2)
  have HT := Lib.hid (HT.out.below b2)
  obtain ⟨c0, c1, c2, c3, c4, c5, c6, c7⟩ := boxFactsW HM.out
  have hz2 := b2.size
  obtain ⟨p0, hp0⟩ : ∃ u, us k 0 = u := ⟨_, rfl⟩
  obtain ⟨p3, hp3⟩ : ∃ u, us k 3 = u := ⟨_, rfl⟩
  obtain ⟨p4, hp4⟩ : ∃ u, us k 4 = u := ⟨_, rfl⟩
  obtain ⟨p5, hp5⟩ : ∃ u, us k 5 = u := ⟨_, rfl⟩
  obtain ⟨p6, hp6⟩ : ∃ u, us k 6 = u := ⟨_, rfl⟩
  have d0 := HT.out.us k 0 (by omega) (by omega)
  have d1 := HT.out.us k 1 (by omega) (by omega)
  have d2 := HT.out.us k 2 (by omega) (by omega)
  have d3 := HT.out.us k 3 (by omega) (by omega)
  have d4 := HT.out.us k 4 (by omega) (by omega)
  have d5 := HT.out.us k 5 (by omega) (by omega)
  have d6 := HT.out.us k 6 (by omega) (by omega)
  rw [hp0, Nat.add_zero] at d0
  rw [HQ1.out] at d1
  rw [HQ2.out] at d2
  rw [hp3] at d3
  rw [hp4] at d4
  rw [hp5] at d5
  rw [hp6] at d6
  clear hp0 hp3 hp4 hp5 hp6
  obtain ⟨V, hV⟩ : ∃ V, w2.alloc (.cells #[.bool p0, .bool q1, .bool q2, .bool p3, .bool p4, .bool p5, .bool p6] 148) = V := ⟨_, rfl⟩
  have hbV : Below w2.heap.size w2 V := by rw [← hV]; exact belowAlloc w2 _
  have hu : Blk V w2.heap.size 148 #[.bool p0, .bool q1, .bool q2, .bool p3, .bool p4, .bool p5, .bool p6] := by rw [← hV]; exact Blk.new w2 _ _
  have HMV := Lib.hid (HM.out.below' hbV)
  have HbV := Lib.hid (hb2.trans (hbV.mono hb2.size))
  have u1 := hu.cell 1
  have u2 := hu.cell 2
  simp only [List.getElem?_toArray, List.getElem?_cons_zero, List.getElem?_cons_succ] at u1 u2
  obtain ⟨g0, g1, g2, g3, g4, g5, g6, g7⟩ := boxFactsW HMV.out
  have HUV := Lib.hid hu
  cases q1 <;> cases q2
  · go_wp2_with fail
    refine (Tryd.slices_Sort_int_none none 0 _).mono ?_
    rintro e5 w5 ⟨rfl, rfl⟩
    go_wp2_with fail
    refine (Tryd.slices_Compact_int_empty none 0 _).mono ?_
    rintro e6 w6 ⟨rfl, rfl⟩
    have hrr : mk [] = r := HR.out
    go_wp2
    go_ret
    rw [← hrr]
    exact ⟨none, 0, rfl, Rd.nil, HbV.out⟩
  · go_wp2_with (first | (at_builtin; refine appI _ rfl (.tmp 22) (.tmp 25) rfl V.heap.size _ [] rfl (OwnI.nil _ _) (some ⟨V.heap.size, 0, none⟩) 1 1 [c] rfl rfl (Rd.lit V [c] 3 (by simp)) (by simp) (by simp) ?_; intro v2 w4 o2 _ b4; have B4 := (belowAlloc V (.cells #[.int .i64 c] 3)).trans b4; rw [List.nil_append] at o2) | fail)
    obtain ⟨g, c1', rfl, hg, hlt, hcp, hmx, hH⟩ := o2.holds (by simp)
    have HH := Lib.hid hH; clear hH
    go_wp2_with fail
    refine (sortCompact [c] (by simp) (by simp) w4 V.heap.size g c1' hg hlt hcp hmx HH.out).mono ?_
    rintro e5 w5 ⟨rfl, b5, hcon⟩
    have HC := Lib.hid hcon; clear hcon
    go_wp2_with fail
    refine HC.out.mono ?_
    rintro e6 w6 ⟨rfl, b6, r6⟩
    have hrr : mk [c] = r := HR.out
    rw [hrr] at r6 ⊢
    have hVB : w.heap.size ≤ V.heap.size := HbV.out.size
    go_wp2
    go_ret
    exact ⟨_, c1', rfl, r6, HbV.out.trans ((B4.trans (b5.trans b6)).mono hVB)⟩
  · go_wp2_with (first | (at_builtin; refine appI _ rfl (.tmp 15) (.tmp 18) rfl V.heap.size _ [] rfl (OwnI.nil _ _) (some ⟨V.heap.size, 0, none⟩) 1 1 [b] rfl rfl (Rd.lit V [b] 3 (by simp)) (by simp) (by simp) ?_; intro v1 w3 o1 _ b3; have B3 := (belowAlloc V (.cells #[.int .i64 b] 3)).trans b3; have HM3 := HMV.out.below' B3; obtain ⟨g0, g1, g2, g3, g4, g5, g6, g7⟩ := boxFactsW HM3; have u2 := (HUV.out.below' B3).cell 2; simp only [List.getElem?_toArray, List.getElem?_cons_zero, List.getElem?_cons_succ] at u2; rw [List.nil_append] at o1) | fail)
    obtain ⟨g, c1', rfl, hg, hlt, hcp, hmx, hH⟩ := o1.holds (by simp)
    have HH := Lib.hid hH; clear hH
    go_wp2_with fail
    refine (sortCompact [b] (by simp) (by simp) w3 V.heap.size g c1' hg hlt hcp hmx HH.out).mono ?_
    rintro e5 w5 ⟨rfl, b5, hcon⟩
    have HC := Lib.hid hcon; clear hcon
    go_wp2_with fail
    refine HC.out.mono ?_
    rintro e6 w6 ⟨rfl, b6, r6⟩
    have hrr : mk [b] = r := HR.out
    rw [hrr] at r6 ⊢
    have hVB : w.heap.size ≤ V.heap.size := HbV.out.size
    go_wp2
    go_ret
    exact ⟨_, c1', rfl, r6, HbV.out.trans ((B3.trans (b5.trans b6)).mono hVB)⟩
  · go_wp2_with (first | (at_builtin; refine appI _ rfl (.tmp 15) (.tmp 18) rfl V.heap.size _ [] rfl (OwnI.nil _ _) (some ⟨V.heap.size, 0, none⟩) 1 1 [b] rfl rfl (Rd.lit V [b] 3 (by simp)) (by simp) (by simp) ?_; intro v1 w3 o1 _ b3; have B3 := (belowAlloc V (.cells #[.int .i64 b] 3)).trans b3; have HM3 := HMV.out.below' B3; obtain ⟨g0, g1, g2, g3, g4, g5, g6, g7⟩ := boxFactsW HM3; have u2 := (HUV.out.below' B3).cell 2; simp only [List.getElem?_toArray, List.getElem?_cons_zero, List.getElem?_cons_succ] at u2; rw [List.nil_append] at o1) | (at_builtin; refine appI _ rfl (.tmp 22) (.tmp 25) rfl V.heap.size _ _ rfl (o1.alloc _) (some ⟨w3.heap.size, 0, none⟩) 1 1 [c] rfl rfl (Rd.lit w3 [c] 3 (by simp)) (by simp) (by have := B3.size; simp; omega) ?_; intro v2 w4 o2 _ b4; have B4 := B3.trans ((belowAl3 w3 B3.size (.cells #[.int .i64 c] 3)).trans b4); rw [List.singleton_append] at o2) | fail)
    obtain ⟨g, c1', rfl, hg, hlt, hcp, hmx, hH⟩ := o2.holds (by simp)
    have HH := Lib.hid hH; clear hH
    go_wp2_with fail
    refine (sortCompact [b, c] (by simp) (by simp) w4 V.heap.size g c1' hg hlt hcp hmx HH.out).mono ?_
    rintro e5 w5 ⟨rfl, b5, hcon⟩
    have HC := Lib.hid hcon; clear hcon
    go_wp2_with fail
    refine HC.out.mono ?_
    rintro e6 w6 ⟨rfl, b6, r6⟩
    have hrr : mk [b, c] = r := HR.out
    rw [hrr] at r6 ⊢
    have hVB : w.heap.size ≤ V.heap.size := HbV.out.size
    go_wp2
    go_ret
    exact ⟨_, c1', rfl, r6, HbV.out.trans ((B4.trans (b5.trans b6)).mono hVB)⟩

theorem iUses (i : I8) (r : List Int) (hr : i.uses = r) (hi : i.Wf) (w : World) (hT : InsT w) (hN : Nm w) :
    Calls Tryd.prog 71 #[i.val] w (GivesL r w) := by
  obtain ⟨op, a, b, c, obj, n, fn, ord⟩ := i
  by_cases h : (I8.mk8 op a b c obj n fn ord).chk = 0
  · have hg := (I8.good h).op
    obtain ⟨k, rfl⟩ : ∃ k : Nat, op = k := ⟨op.toNat, by have := hg.1; simp only at this; omega⟩
    simp only at hg
    exact iUsesYes k (by omega) (by omega) a b c obj n fn ord h r hr hi w hT hN
  · rw [usesNo h] at hr
    subst hr
    exact iUsesNo op a b c obj n fn ord _ rfl h hi w hT hN
end Go.Proofs.YtnnpkbonbemeaaaDoor

namespace Go.Proofs.YtnnpkbonbemeaaaDoor
open Go Go.RowKit

/-- In w the slice with address A, capacity c and as many elements as l, each of k cells, reads as l; E says how an element lies at a place. -/
structure RdE {α : Type} (k : Nat) (E : World → Nat → Nat → α → Prop) (w : World) (A : Option Addr) (c : Nat) (l : List α) : Prop where
  le : l.length ≤ c
  max : c ≤ maxLen
  at_ : 0 < l.length → ∃ b off, A = some ⟨b, off, none⟩ ∧ b < w.heap.size ∧ ∀ j (h : j < l.length), E w b (off + j * k) l[j]
/-- What lies at a place stays there as long as what is old is unchanged. -/
def StabE {α : Type} (E : World → Nat → Nat → α → Prop) : Prop := ∀ (w w' : World) (b o : Nat) (x : α), b < w.heap.size → Below w.heap.size w w' → E w b o x → E w' b o x
section
variable {α : Type} {k : Nat} {E : World → Nat → Nat → α → Prop} {w w' : World} {A : Option Addr} {c : Nat} {l : List α}
theorem RdE.nil : RdE k E w none 0 ([] : List α) := ⟨Nat.zero_le _, Nat.zero_le _, fun h => absurd h (by simp)⟩
theorem RdE.one (h : RdE k E w A c l) {j : Nat} (hj : j < l.length) : ∃ b off, A = some ⟨b, off, none⟩ ∧ b < w.heap.size ∧ E w b (off + j * k) l[j] := by
  obtain ⟨b, off, e, hb, hc⟩ := h.at_ (by omega)
  exact ⟨b, off, e, hb, hc j hj⟩
theorem RdE.below (h : RdE k E w A c l) (hE : StabE E) (hb : Below w.heap.size w w') : RdE k E w' A c l :=
  ⟨h.le, h.max, fun hn => by
    obtain ⟨b, off, e, hl, hc⟩ := h.at_ hn
    exact ⟨b, off, e, Nat.lt_of_lt_of_le hl hb.size, fun j hj => hE _ _ _ _ _ hl hb (hc j hj)⟩⟩
end
/-- The eight cells of an instruction. -/
structure EI (w : World) (b o : Nat) (i : I8) : Prop where
  c0 : w.cell? ⟨b, o, none⟩ = some (.int .i64 i.op)
  c1 : w.cell? ⟨b, o + 1, none⟩ = some (.int .i64 i.a)
  c2 : w.cell? ⟨b, o + 2, none⟩ = some (.int .i64 i.b)
  c3 : w.cell? ⟨b, o + 3, none⟩ = some (.int .i64 i.c)
  c4 : w.cell? ⟨b, o + 4, none⟩ = some (.int .i64 i.obj)
  c5 : w.cell? ⟨b, o + 5, none⟩ = some (.int .i64 i.n)
  c6 : w.cell? ⟨b, o + 6, none⟩ = some (.int .i64 i.fn)
  c7 : w.cell? ⟨b, o + 7, none⟩ = some (.int .i64 i.ord)
theorem stabI : StabE EI := fun _ _ _ _ _ hl hb h => ⟨(hb.cell hl).trans h.c0, (hb.cell hl).trans h.c1, (hb.cell hl).trans h.c2, (hb.cell hl).trans h.c3, (hb.cell hl).trans h.c4, (hb.cell hl).trans h.c5, (hb.cell hl).trans h.c6, (hb.cell hl).trans h.c7⟩
end Go.Proofs.YtnnpkbonbemeaaaDoor
