/-
  Arguments opened: a program by value, a configuration, a string.
-/
import Derived.Test.YtdmajlgdjhmpdaaDoorCPkA
import Derived.Test.YtdmajlgdjhmpdaaDoorCPgZ
import Derived.Test.YtdmajlgdjhmpdaaDoorCPkB
import Derived.Test.YtdmajlgdjhmpdaaDoorCPgP
import Derived.Test.YtdmajlgdjhmpdaaDoorCPhG
import Derived.Test.YtdmajlgdjhmpdaaDoorCPgW
import Derived.ProofKit
import Derived.OpenShut
import Derived.ChangeMaps5
import Derived.Deep.SlicePairs
import Derived.Lib.SmallJoins
namespace Go.Proofs.YtdmajlgdjhmpdaaDoor
open Go Go.RowKit

theorem fnHit {p : Prg} {l : List (ByteArray × List I8)} {k : Nat} (hk : k < l.length) (h : (p.cd1 l[k].2).1 ≠ 0) : p.fnF (l.drop k) k = ((p.cd1 l[k].2).1, (k : Int), (p.cd1 l[k].2).2) := by
  rw [List.drop_eq_getElem_cons hk, Prg.fnF, if_pos h]
theorem fnMiss {p : Prg} {l : List (ByteArray × List I8)} {k : Nat} (hk : k < l.length) (h : (p.cd1 l[k].2).1 = 0) : p.fnF (l.drop k) k = p.fnF (l.drop (k + 1)) (k + 1) := by
  rw [List.drop_eq_getElem_cons hk, Prg.fnF, if_neg (by rw [h]; simp)]
theorem fnEnd {p : Prg} {l : List (ByteArray × List I8)} {k : Nat} (hk : l.length ≤ k) : p.fnF (l.drop k) k = (0, -1, -1) := by
  rw [List.drop_eq_nil_of_le hk, Prg.fnF]
theorem rdsOf {w : World} {A : Option Addr} {c : Nat} {l : List ByteArray} (h : RdE 1 ES w A c l) : Rds w A c (sv l) := by
  refine ⟨by rw [svLen]; exact h.le, h.max, fun hn => ?_⟩
  rw [svLen] at hn
  obtain ⟨b, off, hA, hb, _⟩ := h.one hn
  refine ⟨_, hA, hb, fun j u hu => ?_⟩
  have hj : j < l.length := by
    have := (List.getElem?_eq_some_iff.1 hu).1
    rwa [svLen] at this
  obtain ⟨b', off', hA', _, hc⟩ := h.one hj
  rw [hA] at hA'
  injection hA' with hA'
  injection hA' with e1 e2
  subst e1 e2
  have hu2 : u = .string l[j] := by
    have : (sv l)[j]? = some (.string l[j]) := by simp [sv, hj]
    rw [this] at hu
    exact (Option.some.inj hu).symm
  rw [hu2, Addr.add_lit]
  have hc : w.cell? ⟨b, off + j * 1, none⟩ = some (.string l[j]) := hc
  rwa [Nat.mul_one] at hc
theorem ret3I {x y : Int × Int × Int} (h : x = y) : Ending.returned (.tuple #[.int .i64 x.1, .int .i64 x.2.1, .int .i64 x.2.2]) = err3 y := by rw [h]; rfl
theorem fewOf {p : Prg} (h : p.small = true) : p.vars.length ≤ 20 ∧ p.muts.length ≤ 20 ∧ p.conds.length ≤ 20 ∧ p.funcs.length ≤ 20 ∧ p.thr.length ≤ 20 := by
  unfold Prg.small Prg.few at h
  simp only [Bool.and_eq_true, decide_eq_true_eq] at h
  omega
end Go.Proofs.YtdmajlgdjhmpdaaDoor

namespace Go.Proofs.YtdmajlgdjhmpdaaDoor
open Go Go.RowKit

theorem spwHit {l : List I8} {g : Int} {k : Nat} (hk : k < l.length) (h1 : l[k].op = 21) (h2 : l[k].obj = g) : true = spw l g := by
  unfold spw
  refine (List.any_eq_true.2 ⟨l[k], List.getElem_mem hk, ?_⟩).symm
  simp [h1, h2]
theorem spwNo {l : List I8} {g : Int} (h : ∀ k (hk : k < l.length), ¬ (l[k].op = 21 ∧ l[k].obj = g)) : false = spw l g := by
  unfold spw
  refine (List.any_eq_false.2 fun x hx => ?_).symm
  obtain ⟨k, hk, rfl⟩ := List.getElem_of_mem hx
  have := h k hk
  simpa using this
theorem spwNext {l : List I8} {g : Int} {k : Nat} (HA : ∀ j (hj : j < l.length), j < k → ¬ (l[j].op = 21 ∧ l[j].obj = g)) (hk : k < l.length) (h : ¬ (l[k].op = 21 ∧ l[k].obj = g)) : ∀ j (hj : j < l.length), j < k + 1 → ¬ (l[j].op = 21 ∧ l[j].obj = g) := fun j hj hlt => by
  rcases Nat.lt_or_ge j k with h' | h'
  · exact HA j hj h'
  · have e : j = k := by omega
    subst e
    exact h
end Go.Proofs.YtdmajlgdjhmpdaaDoor

namespace Go.Proofs.YtdmajlgdjhmpdaaDoor
open Go Go.RowKit

end Go.Proofs.YtdmajlgdjhmpdaaDoor

namespace Go.Proofs.YtdmajlgdjhmpdaaDoor
open Go Go.RowKit

theorem u8Nat {n : Int} (h : (Lit.int IntKind.u8 n).wf = true) : ∃ m : Nat, n = m ∧ m < 256 := by
  have hw : (decide (IntKind.u8.min ≤ n) && decide (n ≤ IntKind.u8.max)) = true := h
  rw [Bool.and_eq_true, decide_eq_true_iff, decide_eq_true_iff] at hw
  have h1 : (0 : Int) ≤ n := hw.1
  have h2 : n ≤ 255 := hw.2
  exact ⟨n.toNat, by omega, by omega⟩
end Go.Proofs.YtdmajlgdjhmpdaaDoor

namespace Go.Proofs.YtdmajlgdjhmpdaaDoor
open Go Go.ChangeShapes Go.WideShapes Go.ChangeAt Go.RowKit Go.Deep Go.Joins

theorem listOf {α : Type} {R : Nat → α → Prop} : ∀ (n : Nat), (∀ i, i < n → ∃ x, R i x) → ∃ l : List α, l.length = n ∧ ∀ i (hi : i < l.length), R i l[i]
  | 0, _ => ⟨[], rfl, fun i hi => absurd hi (by simp)⟩
  | n + 1, h => by
    obtain ⟨l, hl, hR⟩ := listOf n fun i hi => h i (by omega)
    obtain ⟨x, hx⟩ := h n (by omega)
    refine ⟨l ++ [x], by simp [hl], fun i hi => ?_⟩
    rw [List.length_append, List.length_singleton] at hi
    by_cases e : i < l.length
    · rw [List.getElem_append_left e]
      exact hR i e
    · have e2 : i = l.length := by omega
      subst e2
      rw [List.getElem_append_right (Nat.le_refl _)]
      simpa [hl] using hx
section
variable {H : Type} {enc : TypeId × Value → H} {W : World} {b0 : Nat}
/-- A slice as an argument, whatever its elements. -/
theorem openE {α : Type} {t e : TypeId} {k fuel : Nat} {v : Value} {y : DataW H × List MemPlace} (E : World → Nat → Nat → α → Prop) (Q : α → Prop) (ht : Tryd.prog.underlying t = some (.slice e)) (hk : Tryd.prog.cellsOf e = k) (hk0 : 0 < k)
    (hel : ∀ (b o : Nat) (cs : List Value) (n : Nat) (x : DataW H × List MemPlace), cs.length = k → (∀ j (h : j < cs.length), W.cell? ⟨b, o + j, none⟩ = some cs[j]) → DataW.trod enc Tryd.prog W b0 (fun _ => true) true n e cs = some x → ∃ z, E W b o z ∧ Q z)
    (h : DataW.trod enc Tryd.prog W b0 (fun _ => true) true fuel t [v] = some y) : ∃ (A : Option Addr) (n c : Nat) (l : List α), v = .slice A n c ∧ l.length = n ∧ RdE k E W A c l ∧ ∀ x ∈ l, Q x := by
  rcases open_slice ht h with ⟨hcs, hx⟩ | ⟨a, len, cap, m, n, D, Pl, hcs, hb, hl, hmx, hmm, hx, hcell⟩
  · injection hcs with hcs
    exact ⟨none, 0, 0, [], hcs, rfl, RdE.nil, fun _ h => by cases h⟩
  · injection hcs with hcs
    simp only [if_true] at hmm
    subst hmm
    rcases Nat.eq_zero_or_pos len with h0 | h0
    · subst h0
      exact ⟨some a, 0, m, [], hcs, rfl, ⟨by simp, hmx, fun h => absurd h (by simp)⟩, fun _ h => by cases h⟩
    obtain ⟨cs0, h1, _⟩ := hcell 0 (by omega)
    rw [hk] at h1
    obtain ⟨_, hlen0, hc0⟩ := World.cells?_some h1
    have e0 := (hc0 0 (by omega)).trans (List.getElem?_eq_getElem (by omega))
    obtain ⟨b, off, spot⟩ := a
    have hspot : spot = none := by simpa [Addr.add] using World.cell?_spot e0
    subst hspot
    have hbl : b < W.heap.size := by
      have := World.block_lt_of_cell? W _ e0
      simpa [Addr.add] using this
    obtain ⟨l, hll, hR⟩ := listOf (R := fun i z => E W b (off + i * k) z ∧ Q z) len fun i hi => by
      obtain ⟨cs', h1, h2⟩ := hcell i (by omega)
      rw [hk] at h1
      obtain ⟨_, hlen, hc⟩ := World.cells?_some h1
      refine hel b (off + i * k) cs' _ _ hlen (fun j hj => ?_) h2
      have := hc j (by omega)
      rw [Addr.add_lit, Addr.add_lit] at this
      exact this.trans (List.getElem?_eq_getElem hj)
    refine ⟨_, len, m, l, hcs, hll, ⟨by omega, hmx, fun _ => ⟨b, off, rfl, hbl, fun j hj => (hR j hj).1⟩⟩, fun x hx => ?_⟩
    obtain ⟨i, hi, rfl⟩ := List.getElem_of_mem hx
    exact (hR i hi).2
/-- The i-th field's part of a struct's cells. -/
theorem fieldAt {fs : Array Field} {cs : List Value} {xs : List (DataW H × List MemPlace)} {n : Nat} (h1 : oneCellFields Tryd.prog fs = true) (hl : cs.length = fs.size) (hxl : xs.length = fs.size)
    (hx : ∀ (i : Nat) (f : Field), fs[i]? = some f → DataW.trod enc Tryd.prog W b0 (fun _ => true) true n f.type ((cs.drop f.offset).take (Tryd.prog.cellsOf f.type)) = xs[i]?) (i : Nat) (hi : i < fs.size) :
    ∃ y, DataW.trod enc Tryd.prog W b0 (fun _ => true) true n fs[i].type [cs[i]] = some y := by
  have hf : fs[i]? = some fs[i] := Array.getElem?_eq_getElem hi
  obtain ⟨o, ce⟩ := hone_of h1 i fs[i] hf
  have h := hx i fs[i] hf
  rw [o, ce, List.getElem?_eq_getElem (by omega)] at h
  have e : List.take 1 (List.drop i cs) = [cs[i]'(by omega)] := by
    rw [List.drop_eq_getElem_cons (by omega)]
    rfl
  rw [e] at h
  exact ⟨_, h⟩
theorem elS {b o n : Nat} {cs : List Value} {x : DataW H × List MemPlace} (hl : cs.length = 1) (hc : ∀ j (h : j < cs.length), W.cell? ⟨b, o + j, none⟩ = some cs[j]) (h : DataW.trod enc Tryd.prog W b0 (fun _ => true) true n 9 cs = some x) : ∃ z, ES W b o z ∧ z.size ≤ maxLen := by
  obtain ⟨s, e, _, hs⟩ := DataW.trod_string Tryd.underlying9 h
  subst e
  exact ⟨s, hc 0 (by simp), hs⟩
theorem varFs : ∃ fs, Tryd.prog.underlying 42 = some (.struct fs) ∧ oneCellFields Tryd.prog fs = true ∧ fs.map (·.type) = #[9, 3] ∧ Tryd.prog.cellsOf 42 = 2 := ⟨_, Tryd.underlying42, by kernel_rfl, by kernel_rfl, by kernel_rfl⟩
theorem startFs : ∃ fs, Tryd.prog.underlying 44 = some (.struct fs) ∧ oneCellFields Tryd.prog fs = true ∧ fs.map (·.type) = #[3, 3] ∧ Tryd.prog.cellsOf 44 = 2 := ⟨_, Tryd.underlying44, by kernel_rfl, by kernel_rfl, by kernel_rfl⟩
theorem funcFs : ∃ fs, Tryd.prog.underlying 35 = some (.struct fs) ∧ oneCellFields Tryd.prog fs = true ∧ fs.map (·.type) = #[9, 33] ∧ Tryd.prog.cellsOf 35 = 2 := ⟨_, Tryd.underlying35, by kernel_rfl, by kernel_rfl, by kernel_rfl⟩
theorem instFs2 : ∃ fs, Tryd.prog.underlying 40 = some (.struct fs) ∧ oneCellFields Tryd.prog fs = true ∧ fs.map (·.type) = #[36, 3, 3, 3, 3, 3, 37, 38] ∧ Tryd.prog.cellsOf 40 = 8 := ⟨_, Tryd.underlying40, by kernel_rfl, by kernel_rfl, by kernel_rfl⟩
theorem progFs : ∃ fs, Tryd.prog.underlying 27 = some (.struct fs) ∧ oneCellFields Tryd.prog fs = true ∧ fs.map (·.type) = #[22, 23, 23, 24, 25] ∧ Tryd.prog.cellsOf 27 = 5 := ⟨_, Tryd.underlying27, by kernel_rfl, by kernel_rfl, by kernel_rfl⟩
theorem typeAt {fs : Array Field} {ts : Array TypeId} (h : fs.map (·.type) = ts) (i : Nat) (hi : i < fs.size) {t : TypeId} (ht : ts[i]? = some t) : fs[i].type = t := by
  rw [← h, Array.getElem?_map, Array.getElem?_eq_getElem hi] at ht
  exact Option.some.inj ht
/-- A struct's cells, field by field. -/
theorem fieldsOf {t : TypeId} {fs : Array Field} {ts : Array TypeId} {k n : Nat} {cs : List Value} {x : DataW H × List MemPlace} (hu : Tryd.prog.underlying t = some (.struct fs)) (h1 : oneCellFields Tryd.prog fs = true) (h2 : fs.map (·.type) = ts) (hk : ts.size = k) (hl : cs.length = k)
    (h : DataW.trod enc Tryd.prog W b0 (fun _ => true) true n t cs = some x) : ∃ m, ∀ (i : Nat) (hi : i < cs.length) (u : TypeId), ts[i]? = some u → ∃ y, DataW.trod enc Tryd.prog W b0 (fun _ => true) true m u [cs[i]] = some y := by
  obtain ⟨xs, m, _, _, _, hxl, hx⟩ := DataW.trod_struct hu h
  have hsz : fs.size = k := by rw [← hk, ← h2, Array.size_map]
  refine ⟨m, fun i hi u hu' => ?_⟩
  have := fieldAt h1 (by omega) hxl hx i (by omega)
  rwa [typeAt h2 i (by omega) hu'] at this
theorem elV {b o n : Nat} {cs : List Value} {x : DataW H × List MemPlace} (hl : cs.length = 2) (hc : ∀ j (h : j < cs.length), W.cell? ⟨b, o + j, none⟩ = some cs[j]) (h : DataW.trod enc Tryd.prog W b0 (fun _ => true) true n 42 cs = some x) : ∃ z, EV W b o z ∧ z.1.size ≤ maxLen := by
  obtain ⟨fs, g1, g2, g3, g4⟩ := varFs
  obtain ⟨m, hf⟩ := fieldsOf g1 g2 g3 rfl hl h
  obtain ⟨_, f0⟩ := hf 0 (by omega) _ rfl
  obtain ⟨_, f1⟩ := hf 1 (by omega) _ rfl
  obtain ⟨s, e0, _, hs⟩ := DataW.trod_string Tryd.underlying9 f0
  obtain ⟨z, e1, _⟩ := DataW.trod_int Tryd.underlying3 f1
  injection e0 with e0
  injection e1 with e1
  exact ⟨(s, z), ⟨(hc 0 (by omega)).trans (by rw [e0]), (hc 1 (by omega)).trans (by rw [e1])⟩, hs⟩
theorem elT {b o n : Nat} {cs : List Value} {x : DataW H × List MemPlace} (hl : cs.length = 2) (hc : ∀ j (h : j < cs.length), W.cell? ⟨b, o + j, none⟩ = some cs[j]) (h : DataW.trod enc Tryd.prog W b0 (fun _ => true) true n 44 cs = some x) : ∃ z, ET W b o z ∧ True := by
  obtain ⟨fs, g1, g2, g3, g4⟩ := startFs
  obtain ⟨m, hf⟩ := fieldsOf g1 g2 g3 rfl hl h
  obtain ⟨_, f0⟩ := hf 0 (by omega) _ rfl
  obtain ⟨_, f1⟩ := hf 1 (by omega) _ rfl
  obtain ⟨s, e0, _⟩ := DataW.trod_int Tryd.underlying3 f0
  obtain ⟨z, e1, _⟩ := DataW.trod_int Tryd.underlying3 f1
  injection e0 with e0
  injection e1 with e1
  exact ⟨(s, z), ⟨(hc 0 (by omega)).trans (by rw [e0]), (hc 1 (by omega)).trans (by rw [e1])⟩, trivial⟩
theorem elI {b o n : Nat} {cs : List Value} {x : DataW H × List MemPlace} (hl : cs.length = 8) (hc : ∀ j (h : j < cs.length), W.cell? ⟨b, o + j, none⟩ = some cs[j]) (h : DataW.trod enc Tryd.prog W b0 (fun _ => true) true n 40 cs = some x) : ∃ z, EI W b o z ∧ z.Wf := by
  obtain ⟨fs, g1, g2, g3, g4⟩ := instFs2
  obtain ⟨m, hf⟩ := fieldsOf g1 g2 g3 rfl hl h
  have key : ∀ (i : Nat) (hi : i < cs.length) (u : TypeId), Tryd.prog.underlying u = some (.int .i64) → (#[36, 3, 3, 3, 3, 3, 37, 38] : Array TypeId)[i]? = some u → ∃ z, W.cell? ⟨b, o + i, none⟩ = some (.int .i64 z) ∧ In64 z := fun i hi u hu ht => by
    obtain ⟨_, f0⟩ := hf i hi u ht
    obtain ⟨z, e, hz⟩ := intOfTrod hu f0
    exact ⟨z, (hc i hi).trans (by rw [e]), hz⟩
  obtain ⟨z0, k0, w0⟩ := key 0 (by omega) _ Tryd.underlying36 rfl
  obtain ⟨z1, k1, w1⟩ := key 1 (by omega) _ Tryd.underlying3 rfl
  obtain ⟨z2, k2, w2⟩ := key 2 (by omega) _ Tryd.underlying3 rfl
  obtain ⟨z3, k3, w3⟩ := key 3 (by omega) _ Tryd.underlying3 rfl
  obtain ⟨z4, k4, w4⟩ := key 4 (by omega) _ Tryd.underlying3 rfl
  obtain ⟨z5, k5, w5⟩ := key 5 (by omega) _ Tryd.underlying3 rfl
  obtain ⟨z6, k6, w6⟩ := key 6 (by omega) _ Tryd.underlying37 rfl
  obtain ⟨z7, k7, w7⟩ := key 7 (by omega) _ Tryd.underlying38 rfl
  exact ⟨⟨z0, z1, z2, z3, z4, z5, z6, z7⟩, ⟨k0, k1, k2, k3, k4, k5, k6, k7⟩, ⟨w0, w1, w2, w3, w4, w5, w6, w7⟩⟩
theorem elF {b o n : Nat} {cs : List Value} {x : DataW H × List MemPlace} (hl : cs.length = 2) (hc : ∀ j (h : j < cs.length), W.cell? ⟨b, o + j, none⟩ = some cs[j]) (h : DataW.trod enc Tryd.prog W b0 (fun _ => true) true n 35 cs = some x) : ∃ z, EF W b o z ∧ (z.1.size ≤ maxLen ∧ ∀ i ∈ z.2, i.Wf) := by
  obtain ⟨fs, g1, g2, g3, g4⟩ := funcFs
  obtain ⟨m, hf⟩ := fieldsOf g1 g2 g3 rfl hl h
  obtain ⟨_, f0⟩ := hf 0 (by omega) _ rfl
  obtain ⟨_, f1⟩ := hf 1 (by omega) _ rfl
  obtain ⟨s, e0, _, hs⟩ := DataW.trod_string Tryd.underlying9 f0
  injection e0 with e0
  obtain ⟨A, q, c, l, e1, hq, hr, hw⟩ := openE EI I8.Wf Tryd.underlying33 (k := 8) (by kernel_rfl) (by decide) (fun b o cs n x h1 h2 h3 => elI h1 h2 h3) f1
  exact ⟨(s, l), ⟨(hc 0 (by omega)).trans (by rw [e0]), _, hc 1 (by omega), A, q, c, e1, hq, hr⟩, hs, hw⟩
set_option maxRecDepth 100000 in
/-- A program as an argument. -/
theorem openPg {base : Nat} {v : Value} {d : DataW H} {p : List MemPlace} (hv : Value.okWide Tryd.prog W .any base 27 v) (h : DataW.Trod enc Tryd.prog W b0 (fun _ => true) true 27 v d p) :
    ∃ (a : PgA) (g : Prg), v = a.val ∧ PgW W a g ∧ g.Wf := by
  obtain ⟨fs, g1, g2, g3, g4⟩ := progFs
  obtain ⟨cs, rfl, hsz⟩ := okWide_struct g1 hv
  rw [g4] at hsz
  obtain ⟨fuel, hf⟩ := h
  have hf' : DataW.trod enc Tryd.prog W b0 (fun _ => true) true fuel 27 cs.toList = some (d, p) := hf
  have hl : cs.toList.length = 5 := by simpa using hsz
  obtain ⟨m, hx⟩ := fieldsOf g1 g2 g3 rfl hl hf'
  obtain ⟨l⟩ := cs
  match l, hl with
  | [v1, v2, v3, v4, v5], _ =>
    obtain ⟨_, f1⟩ := hx 0 (by simp) _ rfl
    obtain ⟨_, f2⟩ := hx 1 (by simp) _ rfl
    obtain ⟨_, f3⟩ := hx 2 (by simp) _ rfl
    obtain ⟨_, f4⟩ := hx 3 (by simp) _ rfl
    obtain ⟨_, f5⟩ := hx 4 (by simp) _ rfl
    obtain ⟨A1, n1, c1, l1, e1, q1, r1, w1⟩ := openE EV (fun z => z.1.size ≤ maxLen) Tryd.underlying22 (k := 2) (by kernel_rfl) (by decide) (fun b o cs n x h1 h2 h3 => elV h1 h2 h3) f1
    obtain ⟨A2, n2, c2, l2, e2, q2, r2, w2⟩ := openE ES (fun z => z.size ≤ maxLen) Tryd.underlying23 (k := 1) (by kernel_rfl) (by decide) (fun b o cs n x h1 h2 h3 => elS h1 h2 h3) f2
    obtain ⟨A3, n3, c3, l3, e3, q3, r3, w3⟩ := openE ES (fun z => z.size ≤ maxLen) Tryd.underlying23 (k := 1) (by kernel_rfl) (by decide) (fun b o cs n x h1 h2 h3 => elS h1 h2 h3) f3
    obtain ⟨A4, n4, c4, l4, e4, q4, r4, w4⟩ := openE EF (fun z => z.1.size ≤ maxLen ∧ ∀ i ∈ z.2, i.Wf) Tryd.underlying24 (k := 2) (by kernel_rfl) (by decide) (fun b o cs n x h1 h2 h3 => elF h1 h2 h3) f4
    obtain ⟨A5, n5, c5, l5, e5, q5, r5, w5⟩ := openE ET (fun _ => True) Tryd.underlying25 (k := 2) (by kernel_rfl) (by decide) (fun b o cs n x h1 h2 h3 => elT h1 h2 h3) f5
    have e1 : v1 = _ := e1
    have e2 : v2 = _ := e2
    have e3 : v3 = _ := e3
    have e4 : v4 = _ := e4
    have e5 : v5 = _ := e5
    subst e1 e2 e3 e4 e5
    exact ⟨⟨A1, n1, c1, A2, n2, c2, A3, n3, c3, A4, n4, c4, A5, n5, c5⟩, ⟨l1, l2, l3, l4, l5⟩, rfl, ⟨q1, q2, q3, q4, q5, r1, r2, r3, r4, r5⟩, ⟨fun f hf => (w4 f hf).2, w1, w2, w3, fun f hf => (w4 f hf).1⟩⟩
set_option maxRecDepth 100000 in
/-- A configuration as an argument. -/
theorem openCfg {base : Nat} {v : Value} {d : DataW H} {p : List MemPlace} (hv : Value.okWide Tryd.prog W .any base 56 v) (h : DataW.Trod enc Tryd.prog W b0 (fun _ => true) true 56 v d p) :
    ∃ m b : Int, v = .agg #[.int .i64 m, .int .i64 b] := by
  obtain ⟨v0, v1, y0, y1, n, rfl, _, _, h0, h1⟩ := open_agg2 Tryd.underlying56 (by kernel_rfl) (by kernel_rfl) hv h
  obtain ⟨x, hx, _⟩ := DataW.trod_int Tryd.underlying54 h0
  obtain ⟨y, hy, _⟩ := DataW.trod_int Tryd.underlying3 h1
  injection hx with hx
  injection hy with hy
  subst hx
  subst hy
  exact ⟨x, y, rfl⟩
end
end Go.Proofs.YtdmajlgdjhmpdaaDoor
