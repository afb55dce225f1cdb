/-
  Arguments opened: a program by value, a configuration, a string.
-/
import Derived.Test.YtebpnnakcodjdaaDoorZIU
import Derived.ProofKit
import Derived.OpenShut
import Derived.ChangeMaps5
import Derived.Deep.SlicePairs
import Derived.Lib.SmallJoins
namespace Go.Proofs.YtebpnnakcodjdaaDoor
open Go Go.ChangeShapes Go.WideShapes Go.ChangeAt Go.RowKit Go.Deep Go.Joins

theorem listOf {α : Type} {R : Nat → α → Prop} : ∀ (n : Nat), (∀ i, i < n → ∃ x, R i x) → ∃ l : List α, l.length = n ∧ ∀ i (hi : i < l.length), R i l[i]
  | 0, _ => ⟨[], rfl, fun i hi => absurd hi (by simp)⟩
  | n + 1, h => by
    obtain ⟨l, hl, hR⟩ := listOf n fun i hi => h i (by omega)
    obtain ⟨x, hx⟩ := h n (by omega)
    refine ⟨l ++ [x], by simp [hl], fun i hi => ?_⟩
    rw [List.length_append, List.length_singleton] at hi
    by_cases e : i < l.length
    · rw [List.getElem_append_left e]
      exact hR i e
    · have e2 : i = l.length := by omega
      subst e2
      rw [List.getElem_append_right (Nat.le_refl _)]
      simpa [hl] using hx
section
variable {H : Type} {enc : TypeId × Value → H} {W : World} {b0 : Nat}
/-- A slice as an argument, whatever its elements. -/
theorem openE {α : Type} {t e : TypeId} {k fuel : Nat} {v : Value} {y : DataW H × List MemPlace} (E : World → Nat → Nat → α → Prop) (Q : α → Prop) (ht : Tryd.prog.underlying t = some (.slice e)) (hk : Tryd.prog.cellsOf e = k) (hk0 : 0 < k)
    (hel : ∀ (b o : Nat) (cs : List Value) (n : Nat) (x : DataW H × List MemPlace), cs.length = k → (∀ j (h : j < cs.length), W.cell? ⟨b, o + j, none⟩ = some cs[j]) → DataW.trod enc Tryd.prog W b0 (fun _ => true) true n e cs = some x → ∃ z, E W b o z ∧ Q z)
    (h : DataW.trod enc Tryd.prog W b0 (fun _ => true) true fuel t [v] = some y) : ∃ (A : Option Addr) (n c : Nat) (l : List α), v = .slice A n c ∧ l.length = n ∧ RdE k E W A c l ∧ ∀ x ∈ l, Q x := by
  rcases open_slice ht h with ⟨hcs, hx⟩ | ⟨a, len, cap, m, n, D, Pl, hcs, hb, hl, hmx, hmm, hx, hcell⟩
  · injection hcs with hcs
    exact ⟨none, 0, 0, [], hcs, rfl, RdE.nil, fun _ h => by cases h⟩
  · injection hcs with hcs
    simp only [if_true] at hmm
    subst hmm
    rcases Nat.eq_zero_or_pos len with h0 | h0
    · subst h0
      exact ⟨some a, 0, m, [], hcs, rfl, ⟨by simp, hmx, fun h => absurd h (by simp)⟩, fun _ h => by cases h⟩
    obtain ⟨cs0, h1, _⟩ := hcell 0 (by omega)
    rw [hk] at h1
    obtain ⟨_, hlen0, hc0⟩ := World.cells?_some h1
    have e0 := (hc0 0 (by omega)).trans (List.getElem?_eq_getElem (by omega))
    obtain ⟨b, off, spot⟩ := a
    have hspot : spot = none := by simpa [Addr.add] using World.cell?_spot e0
    subst hspot
    have hbl : b < W.heap.size := by
      have := World.block_lt_of_cell? W _ e0
      simpa [Addr.add] using this
    obtain ⟨l, hll, hR⟩ := listOf (R := fun i z => E W b (off + i * k) z ∧ Q z) len fun i hi => by
      obtain ⟨cs', h1, h2⟩ := hcell i (by omega)
      rw [hk] at h1
      obtain ⟨_, hlen, hc⟩ := World.cells?_some h1
      refine hel b (off + i * k) cs' _ _ hlen (fun j hj => ?_) h2
      have := hc j (by omega)
      rw [Addr.add_lit, Addr.add_lit] at this
      exact this.trans (List.getElem?_eq_getElem hj)
    refine ⟨_, len, m, l, hcs, hll, ⟨by omega, hmx, fun _ => ⟨b, off, rfl, hbl, fun j hj => (hR j hj).1⟩⟩, fun x hx => ?_⟩
    obtain ⟨i, hi, rfl⟩ := List.getElem_of_mem hx
    exact (hR i hi).2
/-- The i-th field's part of a struct's cells. -/
theorem fieldAt {fs : Array Field} {cs : List Value} {xs : List (DataW H × List MemPlace)} {n : Nat} (h1 : oneCellFields Tryd.prog fs = true) (hl : cs.length = fs.size) (hxl : xs.length = fs.size)
    (hx : ∀ (i : Nat) (f : Field), fs[i]? = some f → DataW.trod enc Tryd.prog W b0 (fun _ => true) true n f.type ((cs.drop f.offset).take (Tryd.prog.cellsOf f.type)) = xs[i]?) (i : Nat) (hi : i < fs.size) :
    ∃ y, DataW.trod enc Tryd.prog W b0 (fun _ => true) true n fs[i].type [cs[i]] = some y := by
  have hf : fs[i]? = some fs[i] := Array.getElem?_eq_getElem hi
  obtain ⟨o, ce⟩ := hone_of h1 i fs[i] hf
  have h := hx i fs[i] hf
  rw [o, ce, List.getElem?_eq_getElem (by omega)] at h
  have e : List.take 1 (List.drop i cs) = [cs[i]'(by omega)] := by
    rw [List.drop_eq_getElem_cons (by omega)]
    rfl
  rw [e] at h
  exact ⟨_, h⟩
theorem elS {b o n : Nat} {cs : List Value} {x : DataW H × List MemPlace} (hl : cs.length = 1) (hc : ∀ j (h : j < cs.length), W.cell? ⟨b, o + j, none⟩ = some cs[j]) (h : DataW.trod enc Tryd.prog W b0 (fun _ => true) true n 9 cs = some x) : ∃ z, ES W b o z ∧ z.size ≤ maxLen := by
  obtain ⟨s, e, _, hs⟩ := DataW.trod_string Tryd.underlying9 h
  subst e
  exact ⟨s, hc 0 (by simp), hs⟩
theorem varFs : ∃ fs, Tryd.prog.underlying 65 = some (.struct fs) ∧ oneCellFields Tryd.prog fs = true ∧ fs.map (·.type) = #[9, 3] ∧ Tryd.prog.cellsOf 65 = 2 := ⟨_, Tryd.underlying65, by kernel_rfl, by kernel_rfl, by kernel_rfl⟩
theorem startFs : ∃ fs, Tryd.prog.underlying 70 = some (.struct fs) ∧ oneCellFields Tryd.prog fs = true ∧ fs.map (·.type) = #[3, 3] ∧ Tryd.prog.cellsOf 70 = 2 := ⟨_, Tryd.underlying70, by kernel_rfl, by kernel_rfl, by kernel_rfl⟩
theorem funcFs : ∃ fs, Tryd.prog.underlying 42 = some (.struct fs) ∧ oneCellFields Tryd.prog fs = true ∧ fs.map (·.type) = #[9, 40] ∧ Tryd.prog.cellsOf 42 = 2 := ⟨_, Tryd.underlying42, by kernel_rfl, by kernel_rfl, by kernel_rfl⟩
theorem instFs2 : ∃ fs, Tryd.prog.underlying 47 = some (.struct fs) ∧ oneCellFields Tryd.prog fs = true ∧ fs.map (·.type) = #[43, 3, 3, 3, 3, 3, 44, 45] ∧ Tryd.prog.cellsOf 47 = 8 := ⟨_, Tryd.underlying47, by kernel_rfl, by kernel_rfl, by kernel_rfl⟩
theorem progFs : ∃ fs, Tryd.prog.underlying 27 = some (.struct fs) ∧ oneCellFields Tryd.prog fs = true ∧ fs.map (·.type) = #[22, 23, 23, 24, 25] ∧ Tryd.prog.cellsOf 27 = 5 := ⟨_, Tryd.underlying27, by kernel_rfl, by kernel_rfl, by kernel_rfl⟩
theorem typeAt {fs : Array Field} {ts : Array TypeId} (h : fs.map (·.type) = ts) (i : Nat) (hi : i < fs.size) {t : TypeId} (ht : ts[i]? = some t) : fs[i].type = t := by
  rw [← h, Array.getElem?_map, Array.getElem?_eq_getElem hi] at ht
  exact Option.some.inj ht
/-- A struct's cells, field by field. -/
theorem fieldsOf {t : TypeId} {fs : Array Field} {ts : Array TypeId} {k n : Nat} {cs : List Value} {x : DataW H × List MemPlace} (hu : Tryd.prog.underlying t = some (.struct fs)) (h1 : oneCellFields Tryd.prog fs = true) (h2 : fs.map (·.type) = ts) (hk : ts.size = k) (hl : cs.length = k)
    (h : DataW.trod enc Tryd.prog W b0 (fun _ => true) true n t cs = some x) : ∃ m, ∀ (i : Nat) (hi : i < cs.length) (u : TypeId), ts[i]? = some u → ∃ y, DataW.trod enc Tryd.prog W b0 (fun _ => true) true m u [cs[i]] = some y := by
  obtain ⟨xs, m, _, _, _, hxl, hx⟩ := DataW.trod_struct hu h
  have hsz : fs.size = k := by rw [← hk, ← h2, Array.size_map]
  refine ⟨m, fun i hi u hu' => ?_⟩
  have := fieldAt h1 (by omega) hxl hx i (by omega)
  rwa [typeAt h2 i (by omega) hu'] at this
theorem elV {b o n : Nat} {cs : List Value} {x : DataW H × List MemPlace} (hl : cs.length = 2) (hc : ∀ j (h : j < cs.length), W.cell? ⟨b, o + j, none⟩ = some cs[j]) (h : DataW.trod enc Tryd.prog W b0 (fun _ => true) true n 65 cs = some x) : ∃ z, EV W b o z ∧ z.1.size ≤ maxLen := by
  obtain ⟨fs, g1, g2, g3, g4⟩ := varFs
  obtain ⟨m, hf⟩ := fieldsOf g1 g2 g3 rfl hl h
  obtain ⟨_, f0⟩ := hf 0 (by omega) _ rfl
  obtain ⟨_, f1⟩ := hf 1 (by omega) _ rfl
  obtain ⟨s, e0, _, hs⟩ := DataW.trod_string Tryd.underlying9 f0
  obtain ⟨z, e1, _⟩ := DataW.trod_int Tryd.underlying3 f1
  injection e0 with e0
  injection e1 with e1
  exact ⟨(s, z), ⟨(hc 0 (by omega)).trans (by rw [e0]), (hc 1 (by omega)).trans (by rw [e1])⟩, hs⟩
theorem elT {b o n : Nat} {cs : List Value} {x : DataW H × List MemPlace} (hl : cs.length = 2) (hc : ∀ j (h : j < cs.length), W.cell? ⟨b, o + j, none⟩ = some cs[j]) (h : DataW.trod enc Tryd.prog W b0 (fun _ => true) true n 70 cs = some x) : ∃ z, ET W b o z ∧ True := by
  obtain ⟨fs, g1, g2, g3, g4⟩ := startFs
  obtain ⟨m, hf⟩ := fieldsOf g1 g2 g3 rfl hl h
  obtain ⟨_, f0⟩ := hf 0 (by omega) _ rfl
  obtain ⟨_, f1⟩ := hf 1 (by omega) _ rfl
  obtain ⟨s, e0, _⟩ := DataW.trod_int Tryd.underlying3 f0
  obtain ⟨z, e1, _⟩ := DataW.trod_int Tryd.underlying3 f1
  injection e0 with e0
  injection e1 with e1
  exact ⟨(s, z), ⟨(hc 0 (by omega)).trans (by rw [e0]), (hc 1 (by omega)).trans (by rw [e1])⟩, trivial⟩
theorem elI {b o n : Nat} {cs : List Value} {x : DataW H × List MemPlace} (hl : cs.length = 8) (hc : ∀ j (h : j < cs.length), W.cell? ⟨b, o + j, none⟩ = some cs[j]) (h : DataW.trod enc Tryd.prog W b0 (fun _ => true) true n 47 cs = some x) : ∃ z, EI W b o z ∧ z.Wf := by
  obtain ⟨fs, g1, g2, g3, g4⟩ := instFs2
  obtain ⟨m, hf⟩ := fieldsOf g1 g2 g3 rfl hl h
  have key : ∀ (i : Nat) (hi : i < cs.length) (u : TypeId), Tryd.prog.underlying u = some (.int .i64) → (#[43, 3, 3, 3, 3, 3, 44, 45] : Array TypeId)[i]? = some u → ∃ z, W.cell? ⟨b, o + i, none⟩ = some (.int .i64 z) ∧ In64 z := fun i hi u hu ht => by
    obtain ⟨_, f0⟩ := hf i hi u ht
    obtain ⟨z, e, hz⟩ := intOfTrod hu f0
    exact ⟨z, (hc i hi).trans (by rw [e]), hz⟩
  obtain ⟨z0, k0, w0⟩ := key 0 (by omega) _ Tryd.underlying43 rfl
  obtain ⟨z1, k1, w1⟩ := key 1 (by omega) _ Tryd.underlying3 rfl
  obtain ⟨z2, k2, w2⟩ := key 2 (by omega) _ Tryd.underlying3 rfl
  obtain ⟨z3, k3, w3⟩ := key 3 (by omega) _ Tryd.underlying3 rfl
  obtain ⟨z4, k4, w4⟩ := key 4 (by omega) _ Tryd.underlying3 rfl
  obtain ⟨z5, k5, w5⟩ := key 5 (by omega) _ Tryd.underlying3 rfl
  obtain ⟨z6, k6, w6⟩ := key 6 (by omega) _ Tryd.underlying44 rfl
  obtain ⟨z7, k7, w7⟩ := key 7 (by omega) _ Tryd.underlying45 rfl
  exact ⟨⟨z0, z1, z2, z3, z4, z5, z6, z7⟩, ⟨k0, k1, k2, k3, k4, k5, k6, k7⟩, ⟨w0, w1, w2, w3, w4, w5, w6, w7⟩⟩
theorem elF {b o n : Nat} {cs : List Value} {x : DataW H × List MemPlace} (hl : cs.length = 2) (hc : ∀ j (h : j < cs.length), W.cell? ⟨b, o + j, none⟩ = some cs[j]) (h : DataW.trod enc Tryd.prog W b0 (fun _ => true) true n 42 cs = some x) : ∃ z, EF W b o z ∧ (z.1.size ≤ maxLen ∧ ∀ i ∈ z.2, i.Wf) := by
  obtain ⟨fs, g1, g2, g3, g4⟩ := funcFs
  obtain ⟨m, hf⟩ := fieldsOf g1 g2 g3 rfl hl h
  obtain ⟨_, f0⟩ := hf 0 (by omega) _ rfl
  obtain ⟨_, f1⟩ := hf 1 (by omega) _ rfl
  obtain ⟨s, e0, _, hs⟩ := DataW.trod_string Tryd.underlying9 f0
  injection e0 with e0
  obtain ⟨A, q, c, l, e1, hq, hr, hw⟩ := openE EI I8.Wf Tryd.underlying40 (k := 8) (by kernel_rfl) (by decide) (fun b o cs n x h1 h2 h3 => elI h1 h2 h3) f1
  exact ⟨(s, l), ⟨(hc 0 (by omega)).trans (by rw [e0]), _, hc 1 (by omega), A, q, c, e1, hq, hr⟩, hs, hw⟩
set_option maxRecDepth 100000 in
/-- A program as an argument. -/
theorem openPg {base : Nat} {v : Value} {d : DataW H} {p : List MemPlace} (hv : Value.okWide Tryd.prog W .any base 27 v) (h : DataW.Trod enc Tryd.prog W b0 (fun _ => true) true 27 v d p) :
    ∃ (a : PgA) (g : Prg), v = a.val ∧ PgW W a g ∧ g.Wf := by
  obtain ⟨fs, g1, g2, g3, g4⟩ := progFs
  obtain ⟨cs, rfl, hsz⟩ := okWide_struct g1 hv
  rw [g4] at hsz
  obtain ⟨fuel, hf⟩ := h
  have hf' : DataW.trod enc Tryd.prog W b0 (fun _ => true) true fuel 27 cs.toList = some (d, p) := hf
  have hl : cs.toList.length = 5 := by simpa using hsz
  obtain ⟨m, hx⟩ := fieldsOf g1 g2 g3 rfl hl hf'
  obtain ⟨l⟩ := cs
  match l, hl with
  | [v1, v2, v3, v4, v5], _ =>
    obtain ⟨_, f1⟩ := hx 0 (by simp) _ rfl
    obtain ⟨_, f2⟩ := hx 1 (by simp) _ rfl
    obtain ⟨_, f3⟩ := hx 2 (by simp) _ rfl
    obtain ⟨_, f4⟩ := hx 3 (by simp) _ rfl
    obtain ⟨_, f5⟩ := hx 4 (by simp) _ rfl
    obtain ⟨A1, n1, c1, l1, e1, q1, r1, w1⟩ := openE EV (fun z => z.1.size ≤ maxLen) Tryd.underlying22 (k := 2) (by kernel_rfl) (by decide) (fun b o cs n x h1 h2 h3 => elV h1 h2 h3) f1
    obtain ⟨A2, n2, c2, l2, e2, q2, r2, w2⟩ := openE ES (fun z => z.size ≤ maxLen) Tryd.underlying23 (k := 1) (by kernel_rfl) (by decide) (fun b o cs n x h1 h2 h3 => elS h1 h2 h3) f2
    obtain ⟨A3, n3, c3, l3, e3, q3, r3, w3⟩ := openE ES (fun z => z.size ≤ maxLen) Tryd.underlying23 (k := 1) (by kernel_rfl) (by decide) (fun b o cs n x h1 h2 h3 => elS h1 h2 h3) f3
    obtain ⟨A4, n4, c4, l4, e4, q4, r4, w4⟩ := openE EF (fun z => z.1.size ≤ maxLen ∧ ∀ i ∈ z.2, i.Wf) Tryd.underlying24 (k := 2) (by kernel_rfl) (by decide) (fun b o cs n x h1 h2 h3 => elF h1 h2 h3) f4
    obtain ⟨A5, n5, c5, l5, e5, q5, r5, w5⟩ := openE ET (fun _ => True) Tryd.underlying25 (k := 2) (by kernel_rfl) (by decide) (fun b o cs n x h1 h2 h3 => elT h1 h2 h3) f5
    have e1 : v1 = _ := e1
    have e2 : v2 = _ := e2
    have e3 : v3 = _ := e3
    have e4 : v4 = _ := e4
    have e5 : v5 = _ := e5
    subst e1 e2 e3 e4 e5
    exact ⟨⟨A1, n1, c1, A2, n2, c2, A3, n3, c3, A4, n4, c4, A5, n5, c5⟩, ⟨l1, l2, l3, l4, l5⟩, rfl, ⟨q1, q2, q3, q4, q5, r1, r2, r3, r4, r5⟩, ⟨fun f hf => (w4 f hf).2, w1, w2, w3, fun f hf => (w4 f hf).1⟩⟩
end
end Go.Proofs.YtebpnnakcodjdaaDoor
