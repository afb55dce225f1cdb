/-
  The check of the code, its contract.
-/
import Derived.Test.YtebpnnakcodjdaaDoorZPgV
namespace Go.Proofs.YtebpnnakcodjdaaDoor
open Go Go.RowKit Go.Shelf
attribute [local go_sem] Oper.semAt_some

theorem flImem {f : Nat} : ∀ {c : List I8} {k : Nat} {x : Nat × Nat × I8}, x ∈ flI f c k → x.1 = f ∧ k ≤ x.2.1 ∧ c[x.2.1 - k]? = some x.2.2
  | [], _, _, h => by cases h
  | i :: c, k, x, h => by
    rw [flI, List.mem_cons] at h
    rcases h with rfl | h
    · exact ⟨rfl, Nat.le_refl _, by simp⟩
    · obtain ⟨h1, h2, h3⟩ := flImem h
      refine ⟨h1, by omega, ?_⟩
      rw [show x.2.1 - k = (x.2.1 - (k + 1)) + 1 by omega, List.getElem?_cons_succ]
      exact h3
theorem flFmem : ∀ {g : List (ByteArray × List I8)} {f : Nat} {x : Nat × Nat × I8}, x ∈ flF g f → f ≤ x.1 ∧ ∃ h, g[x.1 - f]? = some h ∧ h.2[x.2.1]? = some x.2.2
  | [], _, _, h => by cases h
  | h0 :: g, f, x, h => by
    rw [flF, List.mem_append] at h
    rcases h with h | h
    · obtain ⟨h1, _, h3⟩ := flImem h
      exact ⟨by omega, h0, by rw [h1, Nat.sub_self]; rfl, h3⟩
    · obtain ⟨h1, y, h2, h3⟩ := flFmem h
      refine ⟨by omega, y, ?_, h3⟩
      rw [show x.1 - f = (x.1 - (f + 1)) + 1 by omega, List.getElem?_cons_succ]
      exact h2
theorem flAll {g : List (ByteArray × List I8)} {x : Nat × Nat × I8} (h : x ∈ flF g 0) : ∃ (hf : x.1 < g.length) (hk : x.2.1 < (g[x.1]).2.length), (g[x.1]).2[x.2.1] = x.2.2 := by
  obtain ⟨_, y, h2, h3⟩ := flFmem h
  rw [Nat.sub_zero] at h2
  obtain ⟨hf, e⟩ := List.getElem?_eq_some_iff.1 h2
  subst e
  obtain ⟨hk, e⟩ := List.getElem?_eq_some_iff.1 h3
  exact ⟨hf, hk, e⟩
theorem flIhas {f : Nat} : ∀ {c : List I8} {k j : Nat} (h : j < c.length), (f, k + j, c[j]) ∈ flI f c k
  | i :: c, k, 0, _ => by rw [flI]; simp
  | i :: c, k, j + 1, h => by
    rw [flI]
    have := flIhas (f := f) (c := c) (k := k + 1) (j := j) (by simpa using h)
    rw [show k + 1 + j = k + (j + 1) by omega] at this
    exact List.mem_cons_of_mem _ (by simpa using this)
theorem flFhas : ∀ {g : List (ByteArray × List I8)} {f e j : Nat} (h : e < g.length) (hj : j < (g[e]).2.length), (f + e, j, (g[e]).2[j]) ∈ flF g f
  | h0 :: g, f, 0, j, _, hj => by
    rw [flF, List.mem_append]
    have hj' : j < h0.2.length := by simpa using hj
    have := flIhas (f := f) (k := 0) hj'
    rw [Nat.zero_add] at this
    exact .inl (by simpa using this)
  | h0 :: g, f, e + 1, j, h, hj => by
    rw [flF, List.mem_append]
    have := flFhas (g := g) (f := f + 1) (e := e) (j := j) (by simpa using h) (by simpa using hj)
    rw [show f + 1 + e = f + (e + 1) by omega] at this
    exact .inr (by simpa using this)
/-- Which instruction comes ahead of which. -/
def ltX (x y : Nat × Nat × I8) : Prop := x.1 < y.1 ∨ x.1 = y.1 ∧ x.2.1 < y.2.1
theorem flIord {f : Nat} : ∀ {c : List I8} {k : Nat}, (flI f c k).Pairwise ltX
  | [], _ => List.Pairwise.nil
  | i :: c, k => by
    rw [flI, List.pairwise_cons]
    refine ⟨fun y hy => ?_, flIord⟩
    obtain ⟨h1, h2, _⟩ := flImem hy
    exact .inr ⟨h1.symm, h2⟩
theorem flFord : ∀ {g : List (ByteArray × List I8)} {f : Nat}, (flF g f).Pairwise ltX
  | [], _ => List.Pairwise.nil
  | h0 :: g, f => by
    rw [flF, List.pairwise_append]
    refine ⟨flIord, flFord, fun x hx y hy => ?_⟩
    have h1 := (flImem hx).1
    have h2 := (flFmem hy).1
    exact .inl (by omega)
/-- The first instruction of a function has come ahead of its others. -/
theorem flFirst {g : List (ByteArray × List I8)} {pre post : List (Nat × Nat × I8)} {f k : Nat} {i : I8} (hL : flF g 0 = pre ++ (f, k, i) :: post) (hf : f < g.length) (hk : k < (g[f]).2.length) (h0 : k ≠ 0) : ∃ c0, (f, 0, c0) ∈ pre := by
  have hm := flFhas (f := 0) hf (show 0 < (g[f]).2.length by omega)
  rw [Nat.zero_add, hL, List.mem_append, List.mem_cons] at hm
  have ho := flFord (g := g) (f := 0)
  rw [hL, List.pairwise_append, List.pairwise_cons] at ho
  rcases hm with hm | hm | hm
  · exact ⟨_, hm⟩
  · injection hm with _ hm
    injection hm with hm _
    omega
  · rcases ho.2.1.1 _ hm with h | ⟨_, h⟩
    · simp at h
    · simp at h
theorem keepsBelow {B : Nat} {W W' : World} (h : Below W.heap.size W W') : KeepsFrom B W W' := ⟨h.size, fun k _ _ hk _ => (h.block k (Array.getElem?_eq_some_iff.1 hk).1).trans hk⟩
theorem fixOwn {β : Type} {B : Nat} {w0 : World} {b : Nat} {a : PgA} (hB : w0.heap.size ≤ B) : OwnFrom B (fun (_ : β) W => FixP w0 b a W) := fun _ X Y row hs hg hr => by
  refine ⟨⟨hg.os.trans hs.bel.os, hg.tape.trans hs.bel.tape, hg.output.trans hs.bel.output, Nat.le_trans hs.bel.size hg.size, fun k hk => (hg.block k (Nat.lt_of_lt_of_le hk hs.bel.size) fun e => ?_).trans (hs.bel.block k hk)⟩, (hg.block b hs.box.lt fun e => ?_).trans hs.box⟩
  · have := (hr k e.symm).1
    omega
  · obtain ⟨_, _, ho, hc⟩ := hr b e.symm
    have h2 : X.heap[b]? = _ := hs.box
    rw [ho] at h2
    injection h2 with h2
    subst h2
    cases hc
theorem cdLgo {p : Prg} {f k : Nat} {i : I8} {t : List (Nat × Nat × I8)} (h1 : ¬ (k = 0 ∧ 64 < p.lenF f)) (h2 : p.insE (p.lenF f) i = 0) : p.cdL ((f, k, i) :: t) = p.cdL t := by
  rw [Prg.cdL, if_neg h1, if_neg (by simpa using h2)]
theorem cdLlong {p : Prg} {f k : Nat} {i : I8} {t : List (Nat × Nat × I8)} (h1 : k = 0 ∧ 64 < p.lenF f) : p.cdL ((f, k, i) :: t) = (4, (f : Int), -1) := by
  rw [Prg.cdL, if_pos h1]
theorem cdLbad {p : Prg} {f k : Nat} {i : I8} {t : List (Nat × Nat × I8)} (h1 : ¬ (k = 0 ∧ 64 < p.lenF f)) (h2 : p.insE (p.lenF f) i ≠ 0) : p.cdL ((f, k, i) :: t) = (p.insE (p.lenF f) i, (f : Int), (k : Int)) := by
  rw [Prg.cdL, if_neg h1, if_pos h2]
/-- The two boxes that a round lays. -/
def twoB (x : Nat × Nat × I8) (W : World) : World := (W.alloc (.cells #[.int .i64 (x.1 : Int), .int .i64 (x.2.1 : Int)] 98)).alloc (.cells #[.int .i64 x.2.2.op, .int .i64 x.2.2.a, .int .i64 x.2.2.b, .int .i64 x.2.2.c, .int .i64 x.2.2.obj, .int .i64 x.2.2.n, .int .i64 x.2.2.fn, .int .i64 x.2.2.ord] 47)
theorem twoBel (x : Nat × Nat × I8) (W : World) : Below W.heap.size W (twoB x W) := (belowAlloc W _).alloc (by simp) _
/-- What the three stores of the results leave. -/
theorem fin3 {w U : World} {B b2 : Nat} {a : PgA} {x y z : Int} (h : Res3 w.heap.size x y z U) (hF : FixP w b2 a U) (x' y' z' : Int) :
    KeepsFrom B U (((U.setCell ⟨w.heap.size, 0, none⟩ (.int .i64 x')).setCell ⟨w.heap.size + 1, 0, none⟩ (.int .i64 y')).setCell ⟨w.heap.size + 1 + 1, 0, none⟩ (.int .i64 z')).drew ∧
    Res3 w.heap.size x' y' z' (((U.setCell ⟨w.heap.size, 0, none⟩ (.int .i64 x')).setCell ⟨w.heap.size + 1, 0, none⟩ (.int .i64 y')).setCell ⟨w.heap.size + 1 + 1, 0, none⟩ (.int .i64 z')).drew ∧
    Below w.heap.size w (((U.setCell ⟨w.heap.size, 0, none⟩ (.int .i64 x')).setCell ⟨w.heap.size + 1, 0, none⟩ (.int .i64 y')).setCell ⟨w.heap.size + 1 + 1, 0, none⟩ (.int .i64 z')).drew := by
  refine ⟨((((KeepsOthers.setCell U _ _).trans (KeepsOthers.setCell _ _ _)).trans (KeepsOthers.setCell _ _ _)).trans (KeepsOthers.drew _)).from _, ?_, ?_⟩
  · have := h.set x' y' z'
    exact ⟨this.r1, this.r2, this.r3⟩
  · exact (((hF.bel.setCell (by show w.heap.size ≤ w.heap.size; omega) _).setCell (by show w.heap.size ≤ w.heap.size + 1; omega) _).setCell (by show w.heap.size ≤ w.heap.size + 1 + 1; omega) _).drew
theorem fin5 {w W : World} {D : Nat} {x y z : Int} (h : Res3 w.heap.size x y z W) (hb : Below w.heap.size w W) (hD : w.heap.size + 1 + 1 < D) : Res3 w.heap.size x y z (W.putObj D (.deferred none)) ∧ Below w.heap.size w (W.putObj D (.deferred none)) :=
  ⟨⟨(World.putObj_heap_other (by omega)).trans h.r1, (World.putObj_heap_other (by omega)).trans h.r2, (World.putObj_heap_other (by omega)).trans h.r3⟩, ⟨hb.os, hb.tape, hb.output, by simpa using hb.size, fun k hk => (World.putObj_heap_other (by omega)).trans (hb.block k hk)⟩⟩
theorem fin4 {w W : World} {D : Nat} {x y z : Int} (h : Res3 w.heap.size x y z W) (hb : Below w.heap.size w W) (x' y' z' : Int) (hD : w.heap.size + 1 + 1 < D) (hK : W.heap[D]? = some (.deferred (some []))) :
    (((W.setCell ⟨w.heap.size, 0, none⟩ (.int .i64 x')).setCell ⟨w.heap.size + 1, 0, none⟩ (.int .i64 y')).setCell ⟨w.heap.size + 1 + 1, 0, none⟩ (.int .i64 z')).heap[D]? = some (.deferred (some [])) ∧
    Res3 w.heap.size x' y' z' ((((W.setCell ⟨w.heap.size, 0, none⟩ (.int .i64 x')).setCell ⟨w.heap.size + 1, 0, none⟩ (.int .i64 y')).setCell ⟨w.heap.size + 1 + 1, 0, none⟩ (.int .i64 z')).putObj D (.deferred none)) ∧
    Below w.heap.size w ((((W.setCell ⟨w.heap.size, 0, none⟩ (.int .i64 x')).setCell ⟨w.heap.size + 1, 0, none⟩ (.int .i64 y')).setCell ⟨w.heap.size + 1 + 1, 0, none⟩ (.int .i64 z')).putObj D (.deferred none)) := by
  have h1 := h.set x' y' z'
  have h2 : Below w.heap.size w (((W.setCell ⟨w.heap.size, 0, none⟩ (.int .i64 x')).setCell ⟨w.heap.size + 1, 0, none⟩ (.int .i64 y')).setCell ⟨w.heap.size + 1 + 1, 0, none⟩ (.int .i64 z')) := (((hb.setCell (by show w.heap.size ≤ w.heap.size; omega) _).setCell (by show w.heap.size ≤ w.heap.size + 1; omega) _).setCell (by show w.heap.size ≤ w.heap.size + 1 + 1; omega) _)
  refine ⟨?_, fin5 h1 h2 hD⟩
  exact (heap_setCell_other _ ⟨w.heap.size + 1 + 1, 0, none⟩ D _ (show D ≠ w.heap.size + 1 + 1 by omega)).trans ((heap_setCell_other _ ⟨w.heap.size + 1, 0, none⟩ D _ (show D ≠ w.heap.size + 1 by omega)).trans ((heap_setCell_other _ ⟨w.heap.size, 0, none⟩ D _ (show D ≠ w.heap.size by omega)).trans hK))
set_option maxRecDepth 100000 in
set_option maxHeartbeats 16000000 in
theorem iCodeChk {b : Nat} {a : PgA} {p : Prg} (w : World) (hP : PgW w a p) (hB : PBox w b a) (hW : p.Wf) (hT : InsT w) (hN : Nm w) : Calls Tryd.prog 51 #[.pointer (some ⟨b, 0, none⟩)] w fun e w' => e = err3 (p.fnF p.funcs 0) ∧ Below w.heap.size w w' := by
  rw [← cdLall]
  obtain ⟨R, hR⟩ : ∃ R, p.cdL (flF p.funcs 0) = R := ⟨_, rfl⟩
  rw [hR]
  have HR := Lib.hid hR
  have HIT := Lib.hid (fun X => iInsts a X)
  have HSEQ := Lib.hid (fun b2 X hF => instC 7 (by omega) a p w b2 hP X hF)
  have HIN := Lib.hid (fun i len hlen X hX hi => iInstr a p i len hlen X (hP.below hX) hi (hT.below hX) (hN.below hX))
  have HFU := Lib.hid (fun X (hX : Below w.heap.size w X) f (hf : f < p.funcs.length) => (hP.below hX).funcs.one hf)
  have HBX := Lib.hid (fun X (hX : Below w.heap.size w X) => (hB.below hX).facts)
  have HL4 := Lib.hid hP.l4
  have hle4 := hP.funcs.le
  have hm4 := hP.funcs.max
  rw [hP.l4] at hle4
  have HWf := Lib.hid hW
  have hlb := hB.lt
  obtain ⟨A1, n1, c1, A2, n2, c2, A3, n3, c3, A4, n4, c4, A5, n5, c5⟩ := a
  obtain ⟨V, hV⟩ : ∃ V, ((w.alloc (.cells #[.int .i64 0] 33)).alloc (.cells #[.int .i64 0] 3)).alloc (.cells #[.int .i64 0] 3) = V := ⟨_, rfl⟩
  have hbV : Below w.heap.size w V := by rw [← hV]; exact (((belowAlloc w _).alloc (by simp) _).alloc (by simp; omega) _)
  have hzV : V.heap.size = w.heap.size + 1 + 1 + 1 := by rw [← hV]; simp
  have hres : Res3 w.heap.size 0 0 0 V := by
    rw [← hV]
    refine ⟨((Boxed.new w _ _).alloc _).alloc _, ?_, ?_⟩
    · have h := (Boxed.new (w.alloc (.cells #[.int .i64 0] 33)) 3 (.int .i64 0)).alloc (.cells #[.int .i64 0] 3)
      rw [World.size_alloc] at h
      exact h
    · have h := Boxed.new ((w.alloc (.cells #[.int .i64 0] 33)).alloc (.cells #[.int .i64 0] 3)) 3 (.int .i64 0)
      rw [World.size_alloc, World.size_alloc] at h
      exact h
  have HIT := Lib.hid (HIT.out V)
  obtain ⟨V2, hV2⟩ : ∃ X, V.alloc (.cells #[.slice A1 n1 c1, .slice A2 n2 c2, .slice A3 n3 c3, .slice A4 n4 c4, .slice A5 n5 c5] 27) = X := ⟨_, rfl⟩
  have hbV2 : Below V.heap.size V V2 := by rw [← hV2]; exact belowAlloc V _
  have hzV2 : V2.heap.size = V.heap.size + 1 := by rw [← hV2]; simp
  have hfix : FixP w (w.heap.size + 1 + 1 + 1) ⟨A1, n1, c1, A2, n2, c2, A3, n3, c3, A4, n4, c4, A5, n5, c5⟩ V2 := ⟨belowThen hbV hbV2, by rw [← hV2, ← hzV]; exact Blk.new V _ _⟩
  have hres2 : Res3 w.heap.size 0 0 0 V2 := hres.below hbV2
  obtain ⟨kp0, kp1, kp2, kp3, kp4⟩ := HBX.out V hbV
  rw [← hV] at kp0 kp1 kp2 kp3 kp4
  have HV := Lib.hid hV
  have HV2 := Lib.hid hV2
  simp only [PgA.val, PgA.fs] at *
  have HSQ := Lib.hid (HSEQ.out _ V2 hfix)
  clear hV hV2 hP hB hW hT hN hR hres HSEQ
  refine (callsIn_wide (n := 8)).1 ?_
  refine callsIn_of_wp_marks Tryd.func51 rfl trivial ?_ rfl
  simp only [Tryd.ntmps51, List.size_toArray, List.length_cons, List.length_nil, Nat.reduceAdd, Nat.reduceSub, Array.replicate_succ, Array.replicate_zero, List.push_toArray, List.append_toArray, List.nil_append, List.cons_append]
  gi_wp2_with fail
  rw [HV.out]
  gi_wp2_with fail
  refine ⟨trivial, (callsIn_wide.2 HIT.out).mono ?_⟩
  rintro e w' ⟨rfl, rfl⟩
  rw [HV2.out]
  gi_wp2
  refine rangeClos (F := Fence.wide) (n := 8) rfl (by omega) (gf := 66) (lb := #[.pointer (some ⟨w.heap.size + 1 + 1 + 1, 0, none⟩)]) rfl trivial enters99 HSQ.out (fun h k x => k (h x)) (keepP_b (by omega)) (Below.refl _ _) (fun _ => rfl)
    (fun pre W => ((∀ post, flF p.funcs 0 = pre ++ post → R = p.cdL post) ∧ ∀ y ∈ pre, y.2.1 = 0 → p.lenF y.1 ≤ 64) ∧ Res3 w.heap.size 0 0 0 W ∧ FixP w (w.heap.size + 1 + 1 + 1) ⟨A1, n1, c1, A2, n2, c2, A3, n3, c3, A4, n4, c4, A5, n5, c5⟩ W)
    (fun cd pre W => cd = .ret ∧ Res3 w.heap.size R.1 R.2.1 R.2.2 W ∧ Below w.heap.size w W) ?hI ?hIx ⟨⟨fun post h => by rw [← HR.out, h]; rfl, fun _ h => by cases h⟩, hres2, hfix⟩
    (fun W x => { tmps := #[.pointer (some ⟨b, 0, none⟩), .pointer (some ⟨w.heap.size, 0, none⟩), .pointer (some ⟨w.heap.size + 1, 0, none⟩), .pointer (some ⟨w.heap.size + 1 + 1, 0, none⟩), .pointer (some ⟨W.heap.size, 0, none⟩), .pointer (some ⟨W.heap.size + 1, 0, none⟩), undef, undef, .agg #[.slice A1 n1 c1, .slice A2 n2 c2, .slice A3 n3 c3, .slice A4 n4 c4, .slice A5 n5 c5], .func (.func 66) #[] #[.pointer (some ⟨w.heap.size + 1 + 1 + 1, 0, none⟩)], .agg #[.int .i64 (x.1 : Int), .int .i64 (x.2.1 : Int)], .agg #[.int .i64 x.2.2.op, .int .i64 x.2.2.a, .int .i64 x.2.2.b, .int .i64 x.2.2.c, .int .i64 x.2.2.obj, .int .i64 x.2.2.n, .int .i64 x.2.2.fn, .int .i64 x.2.2.ord], undef, undef, undef, undef, undef, undef, undef, undef, undef, undef, undef, undef, undef, undef, undef, undef, undef, undef, undef, undef, undef, undef, undef, undef, undef, undef, undef, undef], defers := [] })
    twoB (fun x W => by have h := twoBel x W; exact ⟨h.os, h.tape, h.output, h.size, fun k hk _ => h.block k hk⟩) (fun x W h => h.below (twoBel x W)) ?assign ?body ?done ?stop
  case hI =>
    exact OwnFrom.and (ownFrom_pure _ _) (OwnFrom.and ((Res3.own _ _ _ _).from _) (fixOwn (by omega)))
  case hIx =>
    intro cd
    exact OwnFrom.and (ownFrom_pure _ (fun _ => cd = .ret)) (OwnFrom.and ((Res3.own _ _ _ _).from _) (ownFrom_below (Nat.le_refl _) (by omega)))
  case assign =>
    rintro lr ⟨f, k, ⟨op, ra, rb, rc, obj, nn, fn, ord⟩⟩ W K hK
    simp only [encI, I8.val]
    gi_wp2
    exact hK
  case body =>
    rintro lr pre ⟨f, k, ⟨op, ra, rb, rc, obj, nn, fn, ord⟩⟩ post W U hL ⟨⟨h1, h1'⟩, h2, h3⟩ hl1 hl2 ⟨rr, hU⟩
    have hmem : (f, k, I8.mk8 op ra rb rc obj nn fn ord) ∈ flF p.funcs 0 := by rw [hL]; simp
    obtain ⟨hf, hk, hik⟩ := flAll hmem
    have hlen := lenFat hf
    have hi := HWf.out.ins _ (List.getElem_mem hf) _ (List.getElem_mem hk)
    rw [hik] at hi
    obtain ⟨q, off, hA, _, e1, v, e2, Ac, nc, cc, rfl, hnc, hrc⟩ := HFU.out U h3.bel f hf
    simp only at hA hf hlen e1 e2 hnc
    subst hA
    obtain ⟨g0, g1, g2, g3, g4⟩ := HBX.out U h3.bel
    have hpl : Blk U W.heap.size 98 #[.int .i64 (f : Int), .int .i64 (k : Int)] := by
      rw [hU]
      exact (World.putObj_heap_other (show W.heap.size ≠ lr by omega)).trans ((Blk.new W _ _).alloc _)
    have hin : Blk U (W.heap.size + 1) 47 #[.int .i64 op, .int .i64 ra, .int .i64 rb, .int .i64 rc, .int .i64 obj, .int .i64 nn, .int .i64 fn, .int .i64 ord] := by
      rw [hU]
      exact (World.putObj_heap_other (show W.heap.size + 1 ≠ lr by omega)).trans (Blk.new1 W _ _ _)
    have p0 := hpl.cell 0
    have p1 := hpl.cell 1
    obtain ⟨i0, i1, i2, i3, i4, i5, i6, i7⟩ := boxFactsW hin
    simp only [List.getElem?_toArray, List.getElem?_cons_zero, List.getElem?_cons_succ] at p0 p1
    have hkn : k < nc := by rw [← hnc]; exact hk
    have hfn : f < n4 := by have := HL4.out; omega
    have hf0 : (0 : Int) ≤ f := by omega
    have hf1 : (f : Int) < n4 := by omega
    have hcl := hrc.le
    have hcm := hrc.max
    rw [hnc] at hcl hlen
    unfold maxLen at hcm hm4
    obtain ⟨s1, hs1⟩ : ∃ c, (p.funcs[f]).1 = c := ⟨_, rfl⟩
    have e1 := hs1 ▸ e1
    have H1 := Lib.hid h1
    have H2 := Lib.hid h2
    have H3 := Lib.hid h3
    have HLE := Lib.hid hlen
    have HLL := Lib.hid hL
    have r1 := h2.r1.cell
    have r2 := h2.r2.cell
    have r3 := h2.r3.cell
    have f1 := h2.r1.frozen
    have f2 := h2.r2.frozen
    have f3 := h2.r3.frozen
    have h64k : k ≠ 0 → nc ≤ 64 := fun h0 => by
      obtain ⟨c0, hc0⟩ := flFirst hL hf (by omega) h0
      have := h1' _ hc0 rfl
      simp only at this
      omega
    obtain ⟨x, hx⟩ : ∃ x, p.insE nc ⟨op, ra, rb, rc, obj, nn, fn, ord⟩ = x := ⟨_, rfl⟩
    have HC := Lib.hid (fun (h : nc ≤ 64) => HIN.out ⟨op, ra, rb, rc, obj, nn, fn, ord⟩ nc (by unfold maxLen; omega) U h3.bel hi)
    have HK := Lib.hid h64k
    have H1' := Lib.hid h1'
    simp only [I8.val] at HC
    rw [hx] at HC
    have HX := Lib.hid hx
    clear h1 h1' h2 h3 hL hlen hmem hik hi hU hs1 hrc hnc hpl hin hx hlb h64k
    by_cases h64 : k = 0 ∧ 64 < nc
    · obtain ⟨rfl, h64⟩ := h64
      have HRR : Hid (R = (4, (f : Int), -1)) := Lib.hid ((H1.out _ HLL.out).trans (cdLlong ⟨rfl, by rw [HLE.out]; exact h64⟩))
      have HFIN := Lib.hid (fin3 (B := V2.heap.size) H2.out H3.out 4 f (-1))
      gi_wp2
      gi_region
      all_goals gi_wp2
      all_goals exact ⟨HFIN.out.1, rfl, by rw [HRR.out]; exact HFIN.out.2.1, HFIN.out.2.2⟩
    · have hn64 : nc ≤ 64 := by
        by_cases h0 : k = 0
        · omega
        · exact HK.out h0
      have HL0 : Hid (¬ (k = 0 ∧ 64 < p.lenF f)) := Lib.hid (by rw [HLE.out]; exact h64)
      have HC := Lib.hid (HC.out hn64)
      clear h64
      by_cases hx0 : x = 0
      · have HGO := Lib.hid (cdLgo (t := post) HL0.out (by rw [HLE.out, HX.out]; exact hx0))
        subst hx0
        have HNX : Hid ((∀ post', flF p.funcs 0 = (pre ++ [(f, k, I8.mk8 op ra rb rc obj nn fn ord)]) ++ post' → R = p.cdL post') ∧ ∀ y ∈ pre ++ [(f, k, I8.mk8 op ra rb rc obj nn fn ord)], y.2.1 = 0 → p.lenF y.1 ≤ 64) := Lib.hid ⟨fun post' h => by
            have h9 : post' = post := by
              rw [HLL.out, List.append_assoc] at h
              have := List.append_cancel_left h
              simp at this
              exact this.symm
            subst h9
            rw [H1.out _ HLL.out, HGO.out], fun y hy h0 => by
            rcases List.mem_append.1 hy with hy | hy
            · exact H1'.out y hy h0
            · rw [List.mem_singleton] at hy
              subst hy
              simp only
              rw [HLE.out]
              exact hn64⟩
        by_cases hk0 : k = 0
        · subst hk0
          gi_wp2_with fail
          refine ⟨trivial, (CallsIn.inRound lr (callsIn_wide.2 HC.out)).mono ?_⟩
          rintro e U1 ⟨rfl, b1⟩
          gi_wp2
          exact ⟨keepsBelow b1, fun hF => hF.below b1, HNX.out, H2.out.below b1, H3.out.below b1⟩
        · have hkz : ((k : Int) == 0) = false := by simpa using hk0
          clear hk0
          gi_wp2_with fail
          refine ⟨trivial, (CallsIn.inRound lr (callsIn_wide.2 HC.out)).mono ?_⟩
          rintro e U1 ⟨rfl, b1⟩
          gi_wp2
          exact ⟨keepsBelow b1, fun hF => hF.below b1, HNX.out, H2.out.below b1, H3.out.below b1⟩
      · have HRR : Hid (R = (x, (f : Int), (k : Int))) := Lib.hid ((H1.out _ HLL.out).trans ((cdLbad HL0.out (by rw [HLE.out, HX.out]; exact hx0)).trans (by rw [HLE.out, HX.out])))
        have hxt : (x != 0) = true := by simpa using hx0
        clear hx0
        by_cases hk0 : k = 0
        · subst hk0
          have HPL := Lib.hid (And.intro p0 p1)
          gi_wp2_with fail
          refine ⟨trivial, (CallsIn.inRound lr (callsIn_wide.2 HC.out)).mono ?_⟩
          rintro e U1 ⟨rfl, b1⟩
          have HFIN := Lib.hid (fin3 (B := V2.heap.size) (H2.out.below b1) (H3.out.below b1) x f 0)
          have HRS := Lib.hid (H2.out.below b1)
          clear r1 r2 r3 f1 f2 f3 p0 p1
          have r1 := HRS.out.r1.cell
          have r2 := HRS.out.r2.cell
          have r3 := HRS.out.r3.cell
          have f1 := HRS.out.r1.frozen
          have f2 := HRS.out.r2.frozen
          have f3 := HRS.out.r3.frozen
          have p0 := (b1.cell (World.block_lt_of_cell? _ _ HPL.out.1)).trans HPL.out.1
          have p1 := (b1.cell (World.block_lt_of_cell? _ _ HPL.out.2)).trans HPL.out.2
          gi_wp2
          gi_region
          all_goals gi_wp2
          all_goals exact ⟨(keepsBelow b1).trans HFIN.out.1, rfl, by rw [HRR.out]; exact HFIN.out.2.1, HFIN.out.2.2⟩
        · have hkz : ((k : Int) == 0) = false := by simpa using hk0
          have HPL := Lib.hid (And.intro p0 p1)
          clear hk0
          gi_wp2_with fail
          refine ⟨trivial, (CallsIn.inRound lr (callsIn_wide.2 HC.out)).mono ?_⟩
          rintro e U1 ⟨rfl, b1⟩
          have HFIN := Lib.hid (fin3 (B := V2.heap.size) (H2.out.below b1) (H3.out.below b1) x f k)
          have HRS := Lib.hid (H2.out.below b1)
          clear r1 r2 r3 f1 f2 f3 p0 p1
          have r1 := HRS.out.r1.cell
          have r2 := HRS.out.r2.cell
          have r3 := HRS.out.r3.cell
          have f1 := HRS.out.r1.frozen
          have f2 := HRS.out.r2.frozen
          have f3 := HRS.out.r3.frozen
          have p0 := (b1.cell (World.block_lt_of_cell? _ _ HPL.out.1)).trans HPL.out.1
          have p1 := (b1.cell (World.block_lt_of_cell? _ _ HPL.out.2)).trans HPL.out.2
          gi_wp2
          gi_region
          all_goals gi_wp2
          all_goals exact ⟨(keepsBelow b1).trans HFIN.out.1, rfl, by rw [HRR.out]; exact HFIN.out.2.1, HFIN.out.2.2⟩
  case done =>
    rintro D W hD ⟨⟨h1, _⟩, h2, h3⟩ hK
    have HRR := Lib.hid (show R = (0, -1, -1) from h1 [] (by simp))
    have r1 := h2.r1.cell
    have r2 := h2.r2.cell
    have r3 := h2.r3.cell
    have f1 := h2.r1.frozen
    have f2 := h2.r2.frozen
    have f3 := h2.r3.frozen
    have HFIN := Lib.hid (fin4 h2 h3.bel 0 (-1) (-1) (D := D) (by omega) hK)
    clear h1 h2 h3
    gi_wp2
    refine ⟨by simp, .inl ⟨_, _, rfl, run_takeDeferred HFIN.out.1, ?_⟩⟩
    exact ⟨_, resErr3 rfl rfl rfl HFIN.out.2.1.r1 HFIN.out.2.1.r2 HFIN.out.2.1.r3, by rw [HRR.out]; rfl, HFIN.out.2.2⟩
  case stop =>
    rintro D c pre W hD ⟨rfl, h2, h3⟩ hK
    have HFIN := Lib.hid (fin5 h2 h3 (D := D) (by omega))
    gi_wp2
    refine ⟨by simp, .inl ⟨_, _, rfl, run_takeDeferred hK, ?_⟩⟩
    exact ⟨_, resErr3 rfl rfl rfl HFIN.out.1.r1 HFIN.out.1.r2 HFIN.out.1.r3, rfl, HFIN.out.2⟩
end Go.Proofs.YtebpnnakcodjdaaDoor
