/-
  One instruction of a program that lies in new memory is written.
-/
import Derived.Test.YtebpnnakcodjdaaDoorZAwF
import Derived.Test.YtebpnnakcodjdaaDoorZAwM
namespace Go.Proofs.YtebpnnakcodjdaaDoor
open Go Go.RowKit

/-- Eight cells of block g from o on. -/
abbrev put8 (Y : World) (g o : Nat) (i : I8) : World :=
  (((((((Y.setCell ⟨g, o, none⟩ (.int .i64 i.op)).setCell ⟨g, o + 1, none⟩ (.int .i64 i.a)).setCell ⟨g, o + 2, none⟩ (.int .i64 i.b)).setCell ⟨g, o + 3, none⟩ (.int .i64 i.c)).setCell ⟨g, o + 4, none⟩ (.int .i64 i.obj)).setCell ⟨g, o + 5, none⟩ (.int .i64 i.n)).setCell ⟨g, o + 6, none⟩ (.int .i64 i.fn)).setCell ⟨g, o + 7, none⟩ (.int .i64 i.ord)
theorem butPut8 (Y : World) (g o : Nat) (i : I8) : But g Y (put8 Y g o i) :=
  (((((((but1 Y g o (.int .i64 i.op)).trans (but1 _ g (o + 1) (.int .i64 i.a)) fun _ _ h => h).trans (but1 _ g (o + 2) (.int .i64 i.b)) fun _ _ h => h).trans (but1 _ g (o + 3) (.int .i64 i.c)) fun _ _ h => h).trans (but1 _ g (o + 4) (.int .i64 i.obj)) fun _ _ h => h).trans (but1 _ g (o + 5) (.int .i64 i.n)) fun _ _ h => h).trans (but1 _ g (o + 6) (.int .i64 i.fn)) fun _ _ h => h).trans (but1 _ g (o + 7) (.int .i64 i.ord)) fun _ _ h => h
theorem belPut8 {B : Nat} {w Y : World} (h : Below B w Y) {g : Nat} (hg : B ≤ g) (o : Nat) (i : I8) : Below B w (put8 Y g o i) :=
  (((((((h.setCell (p := ⟨g, o, none⟩) hg _).setCell (p := ⟨g, o + 1, none⟩) hg _).setCell (p := ⟨g, o + 2, none⟩) hg _).setCell (p := ⟨g, o + 3, none⟩) hg _).setCell (p := ⟨g, o + 4, none⟩) hg _).setCell (p := ⟨g, o + 5, none⟩) hg _).setCell (p := ⟨g, o + 6, none⟩) hg _).setCell (p := ⟨g, o + 7, none⟩) hg _
/-- The block when it has been written. -/
def cur8 (cur : Array Value) (o : Nat) (i : I8) : Array Value :=
  (((((((cur.setIfInBounds o (.int .i64 i.op)).setIfInBounds (o + 1) (.int .i64 i.a)).setIfInBounds (o + 2) (.int .i64 i.b)).setIfInBounds (o + 3) (.int .i64 i.c)).setIfInBounds (o + 4) (.int .i64 i.obj)).setIfInBounds (o + 5) (.int .i64 i.n)).setIfInBounds (o + 6) (.int .i64 i.fn)).setIfInBounds (o + 7) (.int .i64 i.ord)
theorem cur8Size (cur : Array Value) (o : Nat) (i : I8) : (cur8 cur o i).size = cur.size := by simp [cur8]
theorem blkPut8 {Y : World} {g : Nat} {e : TypeId} {cur : Array Value} (h : Blk Y g e cur) (o : Nat) (i : I8) : Blk (put8 Y g o i) g e (cur8 cur o i) := (((((((h.set o _).set (o + 1) _).set (o + 2) _).set (o + 3) _).set (o + 4) _).set (o + 5) _).set (o + 6) _).set (o + 7) _
theorem cur8Out (cur : Array Value) (o : Nat) (i : I8) (k : Nat) (h : k < o ∨ o + 8 ≤ k) : (cur8 cur o i)[k]? = cur[k]? := by
  unfold cur8
  rw [Array.getElem?_setIfInBounds_ne (by omega), Array.getElem?_setIfInBounds_ne (by omega), Array.getElem?_setIfInBounds_ne (by omega), Array.getElem?_setIfInBounds_ne (by omega), Array.getElem?_setIfInBounds_ne (by omega), Array.getElem?_setIfInBounds_ne (by omega), Array.getElem?_setIfInBounds_ne (by omega), Array.getElem?_setIfInBounds_ne (by omega)]
theorem cur8In (cur : Array Value) (o : Nat) (i : I8) (h : o + 8 ≤ cur.size) :
    (cur8 cur o i)[o]? = some (.int .i64 i.op) ∧ (cur8 cur o i)[o + 1]? = some (.int .i64 i.a) ∧ (cur8 cur o i)[o + 2]? = some (.int .i64 i.b) ∧ (cur8 cur o i)[o + 3]? = some (.int .i64 i.c) ∧ (cur8 cur o i)[o + 4]? = some (.int .i64 i.obj) ∧ (cur8 cur o i)[o + 5]? = some (.int .i64 i.n) ∧ (cur8 cur o i)[o + 6]? = some (.int .i64 i.fn) ∧ (cur8 cur o i)[o + 7]? = some (.int .i64 i.ord) := by
  unfold cur8
  refine ⟨?_, ?_, ?_, ?_, ?_, ?_, ?_, ?_⟩ <;> (simp only [Array.getElem?_setIfInBounds, Array.size_setIfInBounds]; simp; omega)
theorem rdPut8 {Y : World} {g : Nat} {cur : Array Value} {d : Nat} {l : List I8} (h : RdE 8 EI Y (some ⟨g, 0, none⟩) d l) (hB : Blk Y g 47 cur) (hc : l.length * 8 ≤ cur.size) {n : Nat} (hn : n < l.length) (i : I8) : RdE 8 EI (put8 Y g (n * 8) i) (some ⟨g, 0, none⟩) d (l.set n i) := by
  have hB2 := blkPut8 hB (n * 8) i
  refine ⟨by rw [List.length_set]; exact h.le, h.max, fun _ => ⟨g, 0, rfl, hB2.lt, fun j hj => ?_⟩⟩
  have hj' : j < l.length := by rwa [List.length_set] at hj
  by_cases e : n = j
  · subst e
    rw [List.getElem_set_self]
    obtain ⟨q0, q1, q2, q3, q4, q5, q6, q7⟩ := cur8In cur (n * 8) i (by omega)
    rw [Nat.zero_add]
    exact ⟨(hB2.cell _).trans q0, (hB2.cell _).trans q1, (hB2.cell _).trans q2, (hB2.cell _).trans q3, (hB2.cell _).trans q4, (hB2.cell _).trans q5, (hB2.cell _).trans q6, (hB2.cell _).trans q7⟩
  · rw [List.getElem_set_ne e]
    obtain ⟨b, off, e1, _, hx⟩ := h.at_ (by omega)
    cases e1
    have := hx j hj'
    have hs : ∀ k, k < 8 → (put8 Y g (n * 8) i).cell? ⟨g, 0 + j * 8 + k, none⟩ = Y.cell? ⟨g, 0 + j * 8 + k, none⟩ := fun k hk => by rw [hB2.cell, hB.cell, cur8Out _ _ _ _ (by omega)]
    exact ⟨(hs 0 (by omega)).trans this.c0, (hs 1 (by omega)).trans this.c1, (hs 2 (by omega)).trans this.c2, (hs 3 (by omega)).trans this.c3, (hs 4 (by omega)).trans this.c4, (hs 5 (by omega)).trans this.c5, (hs 6 (by omega)).trans this.c6, (hs 7 (by omega)).trans this.c7⟩
/-- The program with one instruction replaced. -/
def Prg.put (q : Prg) (f n : Nat) (i : I8) : Prg := { q with funcs := q.funcs.set f ((q.funcs.getD f (⟨#[]⟩, [])).1, ((q.funcs.getD f (⟨#[]⟩, [])).2.set n i)) }
theorem Prg.putAt {q : Prg} {f n : Nat} {i : I8} {j : Nat} (hj : j < (q.put f n i).funcs.length) : (q.put f n i).funcs[j] = if f = j then ((q.funcs[j]'(by simpa [Prg.put] using hj)).1, (q.funcs[j]'(by simpa [Prg.put] using hj)).2.set n i) else q.funcs[j]'(by simpa [Prg.put] using hj) := by
  have hj' : j < q.funcs.length := by simpa [Prg.put] using hj
  refine (List.getElem_set (l := q.funcs) (i := f) (by simpa [Prg.put] using hj)).trans ?_
  by_cases e : f = j
  · subst e
    rw [if_pos rfl, if_pos rfl]
    exact congrArg (fun x : ByteArray × List I8 => (x.1, x.2.set n i)) (getFn hj')
  · rw [if_neg e, if_neg e]
/-- What is known of code f of a program that lies in new memory. -/
theorem Cl8.code {base : Nat} {Y : World} {q : Prg} {a : PgA} (h : Cl8 base Y q a) {f : Nat} (hf : f < q.funcs.length) (hn : 0 < q.funcs[f].2.length) : ∃ b off g d cur, a.A4 = some ⟨b, off, none⟩ ∧ base ≤ b ∧ b < Y.heap.size ∧ Y.cell? ⟨b, off + f * 2 + 1, none⟩ = some (.slice (some ⟨g, 0, none⟩) q.funcs[f].2.length d) ∧ base ≤ g ∧ Blk Y g 47 cur ∧ q.funcs[f].2.length * 8 ≤ cur.size ∧ RdE 8 EI Y (some ⟨g, 0, none⟩) d q.funcs[f].2 := by
  have h4 := h.pg.l4
  obtain ⟨b, off, hr⟩ := h.fn (by omega)
  obtain ⟨q1, B, m, d, q2, q3, q4, q5, _⟩ := hr.at_ f hf
  subst q3
  obtain ⟨g, cur, e1, e2, e3, e4⟩ := q5 (by omega) (by omega)
  subst e1
  obtain ⟨c2, hc2⟩ := hr.blk
  exact ⟨b, off, g, d, cur, hr.adr, hr.lo, (Array.getElem?_eq_some_iff.1 hc2).1, q2, e2, e3, e4, q4⟩
theorem Cl8.put {base : Nat} {Y : World} {q : Prg} {a : PgA} (h : Cl8 base Y q a) {f n : Nat} (hf : f < q.funcs.length) (hn : n < q.funcs[f].2.length) (i : I8) {b off g d : Nat} (hA : a.A4 = some ⟨b, off, none⟩) (hg : Y.cell? ⟨b, off + f * 2 + 1, none⟩ = some (.slice (some ⟨g, 0, none⟩) q.funcs[f].2.length d)) :
    Cl8 base (put8 Y g (n * 8) i) (q.put f n i) a := by
  have h4 := h.pg.l4
  obtain ⟨b', off', hr⟩ := h.fn (by omega)
  have e := hr.adr
  rw [hA] at e
  cases e
  obtain ⟨q1, B, m, d', q2, q3, q4, q5, _⟩ := hr.at_ f hf
  rw [hg] at q2
  cases q2
  obtain ⟨g', cur, e1, e2, e3, e4⟩ := q5 (by omega) (by omega)
  cases e1
  have hB : Blk Y g 47 cur := e3
  have hB2 := blkPut8 hB (n * 8) i
  have hbut := butPut8 Y g (n * 8) i
  have K : ∀ e, 47 ≠ e → Keep base e Y (put8 Y g (n * 8) i) := fun e he => Keep.ofBut hbut (blkOther hB he)
  obtain ⟨c2, hc2⟩ := hr.blk
  have hbg : b ≠ g := fun e => by
    subst e
    rw [hc2] at e3
    injection e3 with e3
    injection e3 with _ ht
    exact absurd ht (by decide)
  have hblt := (Array.getElem?_eq_some_iff.1 hc2).1
  have hcell : ∀ k, (put8 Y g (n * 8) i).cell? ⟨b, k, none⟩ = Y.cell? ⟨b, k, none⟩ := fun k => World.cell?_of_block (hbut.block b hblt hbg)
  have hl : (q.put f n i).funcs.length = q.funcs.length := by simp [Prg.put]
  have hfn : FnRow base (put8 Y g (n * 8) i) a (q.put f n i) a.n4 b off := by
    refine ⟨hA, hr.lo, ⟨c2, (hbut.block b hblt hbg).trans hc2⟩, fun j hj => ?_, hr.dis.congr fun j _ => hcell _⟩
    have hj' : j < q.funcs.length := by rwa [hl] at hj
    obtain ⟨p1, B, m, d', p2, p3, p4, p5, p6⟩ := hr.at_ j hj'
    rw [Prg.putAt hj]
    by_cases e : f = j
    · subst e
      rw [if_pos rfl]
      rw [hg] at p2
      cases p2
      refine ⟨(hcell _).trans p1, _, _, _, (hcell _).trans hg, by rw [List.length_set], rdPut8 p4 hB e4 hn i, fun _ _ => ⟨g, _, rfl, e2, hB2, by rw [cur8Size]; exact e4⟩, fun hk => absurd (by omega) hk⟩
    · rw [if_neg e]
      have hjn : j < a.n4 := by omega
      refine ⟨(hcell _).trans p1, B, m, d', (hcell _).trans p2, p3, p4.butOld locI hbut fun h0 ad had => ?_, fun hk hm => ?_, fun hk => absurd hjn hk⟩
      · rcases (by omega : f < j ∨ j < f) with g1 | g1
        · exact fun hh => hr.dis f j g1 hjn _ _ _ _ _ _ hg p2 (by omega) (by omega) _ _ rfl had hh.symm
        · exact hr.dis j f g1 (by omega) _ _ _ _ _ _ p2 hg (by omega) (by omega) _ _ had rfl
      · obtain ⟨g3, cur3, f1, f2, f3, f4⟩ := p5 hk hm
        refine ⟨g3, cur3, f1, f2, (hbut.block g3 (Array.getElem?_eq_some_iff.1 f3).1 fun hh => ?_).trans f3, f4⟩
        rcases (by omega : f < j ∨ j < f) with g1 | g1
        · exact hr.dis f j g1 hjn _ _ _ _ _ _ hg p2 (by omega) (by omega) _ _ rfl f1 hh.symm
        · exact hr.dis j f g1 (by omega) _ _ _ _ _ _ p2 hg (by omega) (by omega) _ _ f1 rfl hh
  refine ⟨⟨h.pg.l1, h.pg.l2, h.pg.l3, hl.trans h4, h.pg.l5, h.pg.vars.keep locV h.pg.l1 h.f1 (by decide) (K _ (by decide)), h.pg.muts.keep locS h.pg.l2 h.f2 (by decide) (K _ (by decide)), h.pg.conds.keep locS h.pg.l3 h.f3 (by decide) (K _ (by decide)), ?_, h.pg.thr.keep locT h.pg.l5 h.f5 (by decide) (K _ (by decide))⟩, h.f1.keep (K _ (by decide)), h.f2.keep (K _ (by decide)), h.f3.keep (K _ (by decide)), h.f4.keep (K _ (by decide)), h.f5.keep (K _ (by decide)), fun _ => ⟨b, off, hfn⟩⟩
  have hle := h.pg.funcs.le
  exact hfn.rd (hl.trans h4) (by omega) h.pg.funcs.max
end Go.Proofs.YtebpnnakcodjdaaDoor

namespace Go.Proofs.YtebpnnakcodjdaaDoor

def LexLt (a b : Nat × Nat) : Prop := a.1 < b.1 ∨ a.1 = b.1 ∧ a.2 < b.2
theorem spLPw (C : List I8) (k : Nat) : (spL C k).Pairwise (· < ·) := List.Pairwise.filter _ List.pairwise_lt_range
theorem spFPw {F : List (ByteArray × List I8)} : ∀ {k : Nat}, k ≤ F.length → (spF F k).Pairwise LexLt
  | 0, _ => List.Pairwise.nil
  | k + 1, hk => by
    rw [spF, List.pairwise_append]
    refine ⟨spFPw (by omega), ?_, ?_⟩
    · rw [List.pairwise_map]
      exact (spLPw _ _).imp fun h => .inr ⟨rfl, h⟩
    · intro a ha b hb
      obtain ⟨a1, a2⟩ := a
      have h1 := (spFMem (F := F) (k := k) (by omega)).1 ha
      obtain ⟨n, _, rfl⟩ := List.mem_map.1 hb
      exact .inl h1.1
theorem spNotIn {S : List (Nat × Nat)} (h : S.Pairwise LexLt) {k : Nat} (hk : k < S.length) : S[k] ∉ S.take k := fun hm => by
  obtain ⟨j, hj, e⟩ := List.getElem_of_mem hm
  rw [List.length_take] at hj
  rw [List.getElem_take] at e
  have := List.pairwise_iff_getElem.1 h j k (by omega) hk (by omega)
  rw [e] at this
  rcases this with g | g
  · omega
  · omega
/-- What is known of spin loop k of a program. -/
structure SpK (p : Prg) (k f n : Nat) (l c : I8) : Prop where
  hf : f < p.funcs.length
  hn : n + 2 < p.funcs[f].2.length
  hl : p.funcs[f].2[n] = l
  hc : p.funcs[f].2[n + 1] = c
  aw : awAt p.funcs[f].2 n = awOf l c
  f2 : f < (rwP p (p.spins.take k)).funcs.length
  n2 : n + 1 < (rwP p (p.spins.take k)).funcs[f].2.length
  l2 : (rwP p (p.spins.take k)).funcs[f].2[n] = l
  c2 : (rwP p (p.spins.take k)).funcs[f].2[n + 1] = c
  put : (rwP p (p.spins.take k)).put f n (awOf l c) = rwP p (p.spins.take (k + 1))
theorem rwPutEq {F : List (ByteArray × List I8)} {T : List (Nat × Nat)} {f n : Nat} (j : Nat) (hj : j < F.length) :
    (rwS F (T ++ [(f, n)]))[j]'(by rw [rwSLen]; exact hj) = if f = j then (((rwS F T)[j]'(by rw [rwSLen]; exact hj)).1, ((rwS F T)[j]'(by rw [rwSLen]; exact hj)).2.set n (awAt F[j].2 n)) else (rwS F T)[j]'(by rw [rwSLen]; exact hj) := by
  rw [rwSAt hj, rwSAt hj]
  by_cases e : f = j
  · subst e
    rw [if_pos rfl]
    refine Prod.ext rfl (List.ext_getElem (by simp) fun i h1 h2 => ?_)
    simp only [List.getElem_map, List.getElem_range, List.getElem_set, List.mem_append, List.mem_singleton, Prod.mk.injEq]
    by_cases g : n = i
    · subst g
      rw [if_pos (by simp), if_pos rfl]
    · rw [if_neg g]
      by_cases g2 : (f, i) ∈ T
      · rw [if_pos (.inl g2), if_pos g2]
      · rw [if_neg (fun h => h.elim g2 fun h => g h.2.symm), if_neg g2]
  · rw [if_neg e]
    refine Prod.ext rfl (List.ext_getElem (by simp) fun i h1 h2 => ?_)
    simp only [List.getElem_map, List.getElem_range, List.mem_append, List.mem_singleton, Prod.mk.injEq]
    by_cases g2 : (j, i) ∈ T
    · rw [if_pos (.inl g2), if_pos g2]
    · rw [if_neg (fun h => h.elim g2 fun h => e h.1.symm), if_neg g2]
theorem spKOf {p : Prg} {k : Nat} (hk : k < p.spins.length) : ∃ f n l c, p.spins[k] = (f, n) ∧ SpK p k f n l c := by
  obtain ⟨⟨f, n⟩, hs⟩ : ∃ s, p.spins[k] = s := ⟨_, rfl⟩
  have hm : (f, n) ∈ spF p.funcs p.funcs.length := by rw [← hs]; exact List.getElem_mem hk
  obtain ⟨hf, _, hsp⟩ := (spFMem (Nat.le_refl _)).1 hm
  obtain ⟨l, c, b, h⟩ := spOf hsp
  have hno : (f, n) ∉ p.spins.take k := fun hm2 => spNotIn (S := p.spins) (spFPw (Nat.le_refl _)) hk (by rw [hs]; exact hm2)
  have hno1 : (f, n + 1) ∉ p.spins.take k := fun hm1 => by
    obtain ⟨_, _, hs1⟩ := (spFMem (F := p.funcs) (Nat.le_refl _)).1 (List.mem_of_mem_take hm1)
    obtain ⟨l1, c1, b1, h1⟩ := spOf hs1
    have e1 := h1.hl
    rw [h.hc] at e1
    have e2 := h.oc
    have e3 := h1.ol
    rw [e1] at e2
    omega
  have f2 : f < (rwP p (p.spins.take k)).funcs.length := by show f < (rwS p.funcs _).length; rw [rwSLen]; exact hf
  have e2 : (rwP p (p.spins.take k)).funcs[f].2 = (List.range p.funcs[f].2.length).map fun i => if (f, i) ∈ p.spins.take k then awAt p.funcs[f].2 i else p.funcs[f].2.getD i I8.zero := congrArg Prod.snd (rwSAt hf)
  have hlen := h.h
  have n2 : n + 1 < (rwP p (p.spins.take k)).funcs[f].2.length := by rw [e2]; simp; omega
  refine ⟨f, n, l, c, hs, ⟨hf, h.h, h.hl, h.hc, awAtSp h, f2, n2, ?_, ?_, ?_⟩⟩
  · have : (rwP p (p.spins.take k)).funcs[f].2[n]? = some l := by
      rw [e2, List.getElem?_map, List.getElem?_range (by omega)]
      simp only [Option.map_some, if_neg hno]
      rw [← h.hl]
      simp [List.getD, show n < p.funcs[f].2.length by omega]
    exact (List.getElem?_eq_some_iff.1 this).2
  · have : (rwP p (p.spins.take k)).funcs[f].2[n + 1]? = some c := by
      rw [e2, List.getElem?_map, List.getElem?_range (by omega)]
      simp only [Option.map_some, if_neg hno1]
      rw [← h.hc]
      simp [List.getD, show n + 1 < p.funcs[f].2.length by omega]
    exact (List.getElem?_eq_some_iff.1 this).2
  · have ht : p.spins.take (k + 1) = p.spins.take k ++ [(f, n)] := by rw [List.take_succ_eq_append_getElem hk, hs]
    rw [ht, ← awAtSp h]
    unfold rwP
    have : (rwS p.funcs (p.spins.take k ++ [(f, n)])) = (rwS p.funcs (p.spins.take k)).set f (((rwS p.funcs (p.spins.take k)).getD f (⟨#[]⟩, [])).1, ((rwS p.funcs (p.spins.take k)).getD f (⟨#[]⟩, [])).2.set n (awAt p.funcs[f].2 n)) := by
      refine List.ext_getElem (by rw [List.length_set, rwSLen, rwSLen]) fun j h1 h2 => ?_
      have hj : j < p.funcs.length := by rwa [rwSLen] at h1
      rw [rwPutEq j hj, List.getElem_set]
      by_cases e : f = j
      · subst e
        rw [if_pos rfl, if_pos rfl, getFn (by rw [rwSLen]; exact hj)]
      · rw [if_neg e, if_neg e]
    rw [this]
    rfl
end Go.Proofs.YtebpnnakcodjdaaDoor

namespace Go.Proofs.YtebpnnakcodjdaaDoor
open Go.RowKit

theorem rwFn {p : Prg} {i : Nat} (h : i < p.funcs.length) : (rwP p p.spins).funcs[i]'(by rw [rwPLen]; exact h) = (p.funcs[i].1, rwA p.funcs[i].2) := by
  have : (rwP p p.spins).funcs[i]? = some (p.funcs[i].1, rwA p.funcs[i].2) := by rw [rwPAll]; simp [h]
  exact (List.getElem?_eq_some_iff.1 this).2
end Go.Proofs.YtebpnnakcodjdaaDoor
