/-
  An expression and a list of strings as arguments, opened: the tree that the expression reads as, no larger than the argument's bulk.
-/
import Derived.Test.YtiaendggmamnkaaGreatDoorEAsTm
import Derived.Test.YtiaendggmamnkaaGreatDoorRows
import Derived.ProofKit
import Derived.OpenShut
import Derived.ChangeMaps5
import Derived.Deep.SlicePairs
import Derived.Lib.SmallJoins
import Derived.Test.YtiaendggmamnkaaGreatDoorEAsF
import Derived.Test.YtiaendggmamnkaaGreatDoorTie
import Derived.LaidMore
import Derived.Stop.LaidErr
namespace Go.Proofs.YtiaendggmamnkaaGreatDoor
open Go Go.ChangeShapes Go.WideShapes Go.ChangeAt Go.RowKit Go.Deep Go.Joins

theorem listOf16 {α : Type} {R : Nat → α → Prop} : ∀ (n : Nat), (∀ i, i < n → ∃ x, R i x) → ∃ l : List α, l.length = n ∧ ∀ i (hi : i < l.length), R i l[i]
  | 0, _ => ⟨[], rfl, fun i hi => absurd hi (by simp)⟩
  | n + 1, h => by
    obtain ⟨l, hl, hR⟩ := listOf16 n fun i hi => h i (by omega)
    obtain ⟨x, hx⟩ := h n (by omega)
    refine ⟨l ++ [x], by simp [hl], fun i hi => ?_⟩
    rw [List.length_append, List.length_singleton] at hi
    by_cases e : i < l.length
    · rw [List.getElem_append_left e]
      exact hR i e
    · have e2 : i = l.length := by omega
      subst e2
      rw [List.getElem_append_right (Nat.le_refl _)]
      simpa [hl] using hx
/-! Bulk. -/
theorem bulk1 {H : Type} (d : DataW H) : 1 ≤ Rows.uptoBulk d := by
  cases d with
  | lit l => cases l <;> simp [Rows.uptoBulk]
  | nil => simp [Rows.uptoBulk]
  | ptr d => simp [Rows.uptoBulk]
  | slice elems spare => simp [Rows.uptoBulk]
  | agg parts => simp [Rows.uptoBulk]
  | iface t d => simp [Rows.uptoBulk]
  | map entries => simp [Rows.uptoBulk]
  | held h => simp [Rows.uptoBulk]
theorem bulkIn {H : Type} {d : DataW H} {l : List (DataW H)} (h : d ∈ l) : Rows.uptoBulk d ≤ Rows.uptoBulkAll l := by
  induction l with
  | nil => cases h
  | cons x r ih =>
    rw [Rows.uptoBulkAll]
    rcases List.mem_cons.1 h with e | e
    · subst e; omega
    · have := ih e; omega
theorem bulkSum {H : Type} {α : Type} (f : α → Nat) : ∀ (l : List α) (ds : List (DataW H)), l.length = ds.length → (∀ i (h : i < l.length) (h2 : i < ds.length), f l[i] ≤ Rows.uptoBulk ds[i]) → (l.map f).sum ≤ Rows.uptoBulkAll ds
  | [], [], _, _ => by simp [Rows.uptoBulkAll]
  | [], _ :: _, h, _ => by simp at h
  | _ :: _, [], h, _ => by simp at h
  | x :: r, d :: ds, hl, h => by
    have h1 := h 0 (by simp) (by simp)
    have h2 := bulkSum f r ds (by simpa using hl) fun i hi h2 => by
      have := h (i + 1) (by simpa using hi) (by simpa using h2)
      simpa using this
    simp only [List.map_cons, List.sum_cons, Rows.uptoBulkAll]
    simp only [List.getElem_cons_zero] at h1
    omega
theorem szLSum {β : Type} : ∀ l : List (Tr β), Tr.szL l = (l.map Tr.sz).sum
  | [] => by simp [Tr.szL]
  | t :: r => by rw [Tr.szL, szLSum r, List.map_cons, List.sum_cons]
section
variable {H : Type} {enc : TypeId × Value → H} {W : World} {b0 : Nat}
/-- A slice as an argument, whatever its elements: each element's bulk below the slice's own. -/
theorem openB16 {α : Type} {t e : TypeId} {k fuel : Nat} {v : Value} {y : DataW H × List MemPlace} (E : World → Nat → Nat → α → Prop) (Q : DataW H → α → Prop) (ht : Tryz.prog.underlying t = some (.slice e)) (hk : Tryz.prog.cellsOf e = k) (hk0 : 0 < k)
    (hel : ∀ (b o : Nat) (cs : List Value) (n : Nat) (x : DataW H × List MemPlace), cs.length = k → (∀ j (h : j < cs.length), W.cell? ⟨b, o + j, none⟩ = some cs[j]) → DataW.trod enc Tryz.prog W b0 (fun _ => true) true n e cs = some x → Rows.uptoBulk x.1 < Rows.uptoBulk y.1 → ∃ z, E W b o z ∧ Q x.1 z)
    (h : DataW.trod enc Tryz.prog W b0 (fun _ => true) true fuel t [v] = some y) : ∃ (A : Option Addr) (n c : Nat) (l : List α) (ds : List (DataW H)), v = .slice A n c ∧ l.length = n ∧ RdE k E W A c l ∧ ds.length = l.length ∧ (∀ i (h1 : i < l.length) (h2 : i < ds.length), Q ds[i] l[i]) ∧ Rows.uptoBulkAll ds < Rows.uptoBulk y.1 := by
  rcases open_slice ht h with ⟨hcs, hx⟩ | ⟨a, len, cap, m, n, D, Pl, hcs, hb, hl, hmx, hmm, hx, hcell⟩
  · injection hcs with hcs
    exact ⟨none, 0, 0, [], [], hcs, rfl, RdE.nil, rfl, fun i h1 _ => absurd h1 (by simp), by have := bulk1 y.1; simp only [Rows.uptoBulkAll]; omega⟩
  · injection hcs with hcs
    simp only [if_true] at hmm
    subst hmm
    have hy : Rows.uptoBulkAll ((List.range len).map D) < Rows.uptoBulk y.1 := by
      rw [hx]
      simp only [Rows.uptoBulk]
      omega
    have hDi : ∀ i, i < len → Rows.uptoBulk (D i) < Rows.uptoBulk y.1 := fun i hi => Nat.lt_of_le_of_lt (bulkIn (List.mem_map.2 ⟨i, List.mem_range.2 hi, rfl⟩)) hy
    rcases Nat.eq_zero_or_pos len with h0 | h0
    · subst h0
      exact ⟨some a, 0, m, [], [], hcs, rfl, ⟨by simp, hmx, fun h => absurd h (by simp)⟩, rfl, fun i h1 _ => absurd h1 (by simp), by have := bulk1 y.1; simp only [Rows.uptoBulkAll]; omega⟩
    obtain ⟨cs0, h1, _⟩ := hcell 0 (by omega)
    rw [hk] at h1
    obtain ⟨_, hlen0, hc0⟩ := World.cells?_some h1
    have e0 := (hc0 0 (by omega)).trans (List.getElem?_eq_getElem (by omega))
    obtain ⟨b, off, spot⟩ := a
    have hspot : spot = none := by simpa [Addr.add] using World.cell?_spot e0
    subst hspot
    have hbl : b < W.heap.size := by
      have := World.block_lt_of_cell? W _ e0
      simpa [Addr.add] using this
    obtain ⟨l, hll, hR⟩ := listOf16 (R := fun i z => E W b (off + i * k) z ∧ Q (D i) z) len fun i hi => by
      obtain ⟨cs', h1, h2⟩ := hcell i (by omega)
      rw [hk] at h1
      obtain ⟨_, hlen, hc⟩ := World.cells?_some h1
      refine hel b (off + i * k) cs' _ _ hlen (fun j hj => ?_) h2 (hDi i hi)
      have := hc j (by omega)
      rw [Addr.add_lit, Addr.add_lit] at this
      exact this.trans (List.getElem?_eq_getElem hj)
    refine ⟨_, len, m, l, (List.range len).map D, hcs, hll, ⟨by omega, hmx, fun _ => ⟨b, off, rfl, hbl, fun j hj => (hR j hj).1⟩⟩, by simp [hll], fun i h1 h2 => ?_, hy⟩
    simp only [List.getElem_map, List.getElem_range]
    exact (hR i h1).2
theorem fieldAt16 {fs : Array Field} {cs : List Value} {xs : List (DataW H × List MemPlace)} {n : Nat} (h1 : oneCellFields Tryz.prog fs = true) (hl : cs.length = fs.size) (hxl : xs.length = fs.size)
    (hx : ∀ (i : Nat) (f : Field), fs[i]? = some f → DataW.trod enc Tryz.prog W b0 (fun _ => true) true n f.type ((cs.drop f.offset).take (Tryz.prog.cellsOf f.type)) = xs[i]?) (i : Nat) (hi : i < fs.size) :
    DataW.trod enc Tryz.prog W b0 (fun _ => true) true n fs[i].type [cs[i]] = some xs[i] := by
  have hf : fs[i]? = some fs[i] := Array.getElem?_eq_getElem hi
  obtain ⟨o, ce⟩ := hone_of h1 i fs[i] hf
  have h := hx i fs[i] hf
  rw [o, ce, List.getElem?_eq_getElem (by omega)] at h
  have e : List.take 1 (List.drop i cs) = [cs[i]'(by omega)] := by
    rw [List.drop_eq_getElem_cons (by omega)]
    rfl
  rw [e] at h
  exact h
theorem typeAt16 {fs : Array Field} {ts : Array TypeId} (h : fs.map (·.type) = ts) (i : Nat) (hi : i < fs.size) {t : TypeId} (ht : ts[i]? = some t) : fs[i].type = t := by
  rw [← h, Array.getElem?_map, Array.getElem?_eq_getElem hi] at ht
  exact Option.some.inj ht
/-- A struct's cells, field by field: each field's bulk below the struct's own. -/
theorem fields16 {t : TypeId} {fs : Array Field} {ts : Array TypeId} {k n : Nat} {cs : List Value} {x : DataW H × List MemPlace} (hu : Tryz.prog.underlying t = some (.struct fs)) (h1 : oneCellFields Tryz.prog fs = true) (h2 : fs.map (·.type) = ts) (hk : ts.size = k) (hl : cs.length = k)
    (h : DataW.trod enc Tryz.prog W b0 (fun _ => true) true n t cs = some x) : ∃ m, ∀ (i : Nat) (hi : i < cs.length) (u : TypeId), ts[i]? = some u → ∃ y, DataW.trod enc Tryz.prog W b0 (fun _ => true) true m u [cs[i]] = some y ∧ Rows.uptoBulk y.1 < Rows.uptoBulk x.1 := by
  obtain ⟨xs, m, _, hxx, _, hxl, hx⟩ := DataW.trod_struct hu h
  have hsz : fs.size = k := by rw [← hk, ← h2, Array.size_map]
  refine ⟨m, fun i hi u hu' => ?_⟩
  have := fieldAt16 h1 (by omega) hxl hx i (by omega)
  rw [typeAt16 h2 i (by omega) hu'] at this
  refine ⟨_, this, ?_⟩
  rw [hxx]
  simp only [Rows.uptoBulk]
  have : Rows.uptoBulk (xs[i]'(by omega)).1 ≤ Rows.uptoBulkAll (xs.map (·.1)) := bulkIn (List.mem_map.2 ⟨_, List.getElem_mem _, rfl⟩)
  omega
theorem exprFs : ∃ fs, Tryz.prog.underlying 37 = some (.struct fs) ∧ oneCellFields Tryz.prog fs = true ∧ fs.map (·.type) = #[33, 3, 9, 34, 35] ∧ Tryz.prog.cellsOf 37 = 5 := ⟨_, Tryz.underlying37, by kernel_rfl, by kernel_rfl, by kernel_rfl⟩
/-- An expression's five cells. -/
theorem elX : ∀ (N : Nat) (b o : Nat) (cs : List Value) (n : Nat) (x : DataW H × List MemPlace), cs.length = 5 → (∀ j (h : j < cs.length), W.cell? ⟨b, o + j, none⟩ = some cs[j]) → DataW.trod enc Tryz.prog W b0 (fun _ => true) true n 37 cs = some x → Rows.uptoBulk x.1 ≤ N → ∃ z : Ex, EX N W b o z ∧ Tr.sz z ≤ Rows.uptoBulk x.1 ∧ Tr.allT (fun v => v.name.size ≤ maxLen) z
  | 0, _, _, _, _, x, _, _, _, hN => by have := bulk1 x.1; omega
  | N + 1, b, o, cs, n, x, hl, hc, h, hN => by
    obtain ⟨fs, g1, g2, g3, g4⟩ := exprFs
    obtain ⟨m, hf⟩ := fields16 g1 g2 g3 rfl hl h
    obtain ⟨_, f0, _⟩ := hf 0 (by omega) _ rfl
    obtain ⟨_, f1, _⟩ := hf 1 (by omega) _ rfl
    obtain ⟨_, f2, _⟩ := hf 2 (by omega) _ rfl
    obtain ⟨_, f3, _⟩ := hf 3 (by omega) _ rfl
    obtain ⟨y, f4, hy⟩ := hf 4 (by omega) _ rfl
    obtain ⟨z0, e0, _⟩ := DataW.trod_int Tryz.underlying33 f0
    obtain ⟨z1, e1, _⟩ := DataW.trod_int Tryz.underlying3 f1
    obtain ⟨z2, e2, _, hs⟩ := DataW.trod_string Tryz.underlying9 f2
    obtain ⟨z3, e3, _⟩ := DataW.trod_int Tryz.underlying34 f3
    injection e0 with e0
    injection e1 with e1
    injection e2 with e2
    injection e3 with e3
    obtain ⟨A, q, c, l, ds, e4, hq, hr, hds, hQ, hbk⟩ := openB16 (EX N) (fun d z => Tr.sz z ≤ Rows.uptoBulk d ∧ Tr.allT (fun v => v.name.size ≤ maxLen) z) Tryz.underlying35 g4 (by decide) (fun b o cs n x h1 h2 h3 h4 => elX N b o cs n x h1 h2 h3 (by omega)) f4
    refine ⟨.mk ⟨z0, z1, z2, z3⟩ l [], ⟨(hc 0 (by omega)).trans (by rw [e0]; rfl), (hc 1 (by omega)).trans (by rw [e1]; rfl), (hc 2 (by omega)).trans (by rw [e2]; rfl), (hc 3 (by omega)).trans (by rw [e3]; rfl), rfl, _, hc 4 (by omega), A, c, ?_, hr⟩, ?_, hs, ?_, trivial⟩
    · rw [e4, ← hq]; rfl
    · have h1 := bulkSum Tr.sz l ds hds.symm fun i h1 h2 => (hQ i h1 h2).1
      rw [← szLSum] at h1
      rw [Tr.sz, Tr.szL]
      omega
    · have key : ∀ (l : List Ex), (∀ t ∈ l, Tr.allT (fun v => v.name.size ≤ maxLen) t) → Tr.allL (fun v => v.name.size ≤ maxLen) l := by
        intro l
        induction l with
        | nil => intro _; trivial
        | cons t r ih => intro h; exact ⟨h t List.mem_cons_self, ih fun t ht => h t (List.mem_cons_of_mem _ ht)⟩
      refine key l fun t ht => ?_
      obtain ⟨i, hi, rfl⟩ := List.getElem_of_mem ht
      exact (hQ i hi (by omega)).2
theorem elS16 {b o n : Nat} {cs : List Value} {x : DataW H × List MemPlace} (hl : cs.length = 1) (hc : ∀ j (h : j < cs.length), W.cell? ⟨b, o + j, none⟩ = some cs[j]) (h : DataW.trod enc Tryz.prog W b0 (fun _ => true) true n 9 cs = some x) : ∃ z, ES W b o z ∧ z.size ≤ maxLen := by
  obtain ⟨s, e, _, hs⟩ := DataW.trod_string Tryz.underlying9 h
  subst e
  exact ⟨s, hc 0 (by simp), hs⟩
set_option maxRecDepth 100000 in
/-- An expression as an argument. -/
theorem openX16 {base : Nat} {v : Value} {d : DataW H} {p : List MemPlace} (hv : Value.okWide Tryz.prog W .any base 37 v) (h : DataW.Trod enc Tryz.prog W b0 (fun _ => true) true 37 v d p) :
    ∃ (t : Ex) (A : Option Addr) (n c : Nat), v = .agg (exC t.val.kind t.val.n t.val.name t.val.fn (.slice A n c)) ∧ t.snd = [] ∧ t.fst.length = n ∧ RdE 5 (EX (Rows.uptoBulk d)) W A c t.fst ∧ Tr.sz t ≤ Rows.uptoBulk d ∧ Tr.allT (fun v => v.name.size ≤ maxLen) t := by
  obtain ⟨fs, g1, g2, g3, g4⟩ := exprFs
  obtain ⟨cs, rfl, hsz⟩ := okWide_struct g1 hv
  rw [g4] at hsz
  obtain ⟨fuel, hf⟩ := h
  have hf' : DataW.trod enc Tryz.prog W b0 (fun _ => true) true fuel 37 cs.toList = some (d, p) := hf
  have hl : cs.toList.length = 5 := by simpa using hsz
  obtain ⟨m, hx⟩ := fields16 g1 g2 g3 rfl hl hf'
  obtain ⟨l⟩ := cs
  match l, hl with
  | [v0, v1, v2, v3, v4], _ =>
    obtain ⟨_, f0, _⟩ := hx 0 (by simp) _ rfl
    obtain ⟨_, f1, _⟩ := hx 1 (by simp) _ rfl
    obtain ⟨_, f2, _⟩ := hx 2 (by simp) _ rfl
    obtain ⟨_, f3, _⟩ := hx 3 (by simp) _ rfl
    obtain ⟨y, f4, hy⟩ := hx 4 (by simp) _ rfl
    obtain ⟨z0, e0, _⟩ := DataW.trod_int Tryz.underlying33 f0
    obtain ⟨z1, e1, _⟩ := DataW.trod_int Tryz.underlying3 f1
    obtain ⟨z2, e2, _, hs⟩ := DataW.trod_string Tryz.underlying9 f2
    obtain ⟨z3, e3, _⟩ := DataW.trod_int Tryz.underlying34 f3
    injection e0 with e0
    injection e1 with e1
    injection e2 with e2
    injection e3 with e3
    obtain ⟨A, q, c, l, ds, e4, hq, hr, hds, hQ, hbk⟩ := openB16 (EX (Rows.uptoBulk d)) (fun d z => Tr.sz z ≤ Rows.uptoBulk d ∧ Tr.allT (fun v => v.name.size ≤ maxLen) z) Tryz.underlying35 g4 (by decide) (fun b o cs n x h1 h2 h3 h4 => elX (Rows.uptoBulk d) b o cs n x h1 h2 h3 (by have : Rows.uptoBulk y.1 < Rows.uptoBulk d := hy; omega)) f4
    have e0 : v0 = _ := e0
    have e1 : v1 = _ := e1
    have e2 : v2 = _ := e2
    have e3 : v3 = _ := e3
    have e4 : v4 = _ := e4
    subst e0 e1 e2 e3 e4
    refine ⟨.mk ⟨z0, z1, z2, z3⟩ l [], A, q, c, rfl, rfl, hq, hr, ?_, hs, ?_, trivial⟩
    · have h1 := bulkSum Tr.sz l ds hds.symm fun i h1 h2 => (hQ i h1 h2).1
      rw [← szLSum] at h1
      rw [Tr.sz, Tr.szL]
      have : Rows.uptoBulk y.1 < Rows.uptoBulk d := hy
      omega
    · have key : ∀ (l : List Ex), (∀ t ∈ l, Tr.allT (fun v => v.name.size ≤ maxLen) t) → Tr.allL (fun v => v.name.size ≤ maxLen) l := by
        intro l
        induction l with
        | nil => intro _; trivial
        | cons t r ih => intro h; exact ⟨h t List.mem_cons_self, ih fun t ht => h t (List.mem_cons_of_mem _ ht)⟩
      refine key l fun t ht => ?_
      obtain ⟨i, hi, rfl⟩ := List.getElem_of_mem ht
      exact (hQ i hi (by omega)).2
set_option maxRecDepth 100000 in
/-- A list of strings as an argument. -/
theorem openSs16 {base : Nat} {v : Value} {d : DataW H} {p : List MemPlace} (hv : Value.okWide Tryz.prog W .any base 23 v) (h : DataW.Trod enc Tryz.prog W b0 (fun _ => true) true 23 v d p) :
    ∃ (A : Option Addr) (n c : Nat) (l : List ByteArray), v = .slice A n c ∧ l.length = n ∧ RdE 1 ES W A c l := by
  obtain ⟨a0, len, cap, rfl⟩ := okWide_slice Tryz.underlying23 hv
  obtain ⟨fuel, hf⟩ := h
  have hf' : DataW.trod enc Tryz.prog W b0 (fun _ => true) true fuel 23 [.slice a0 len cap] = some (d, p) := hf
  obtain ⟨A, n, c, l, ds, e, hn, hr, -, -, -⟩ := openB16 ES (fun _ z => z.size ≤ maxLen) Tryz.underlying23 (k := 1) (by kernel_rfl) (by decide) (fun b o cs n x h1 h2 h3 _ => elS16 h1 h2 h3) hf'
  exact ⟨A, n, c, l, e, hn, hr⟩
end
mutual
theorem memT16 {β : Type} {p : β → Prop} (lv : Nat) : ∀ t : Tr β, Tr.allT p t → ∀ x ∈ Tr.nds lv t, p x.2.val
  | .mk v a b, h, x, hx => by
    rw [Tr.nds] at hx
    rcases List.mem_cons.1 hx with e | hx
    · subst e; exact h.1
    rcases List.mem_append.1 hx with hx | hx
    · exact memL16 _ a h.2.1 x hx
    · exact memL16 _ b h.2.2 x hx
theorem memL16 {β : Type} {p : β → Prop} (lv : Nat) : ∀ l : List (Tr β), Tr.allL p l → ∀ x ∈ Tr.ndsL lv l, p x.2.val
  | [], _, _, hx => by cases hx
  | t :: r, h, x, hx => by
    rw [Tr.ndsL] at hx
    rcases List.mem_append.1 hx with hx | hx
    · exact memT16 _ t h.1 x hx
    · exact memL16 _ r h.2 x hx
end
theorem numbMem {α : Type} : ∀ (k : Nat) (l : List α) (x : Nat × α), x ∈ numb k l → x.2 ∈ l
  | _, [], _, h => by cases h
  | k, a :: r, x, h => by
    rw [numb] at h
    rcases List.mem_cons.1 h with e | h
    · subst e; exact List.mem_cons_self
    · exact List.mem_cons_of_mem _ (numbMem _ r x h)
theorem wfX16 {t : Ex} (h : Tr.allT (fun v => v.name.size ≤ maxLen) t) (hz : Tr.sz t ≤ 4000000) : WfX t :=
  ⟨fun x hx => memL16 (p := fun v => v.name.size ≤ maxLen) 1 [t] ⟨h, trivial⟩ _ (numbMem _ _ _ hx), by rw [Tr.szL, Tr.szL]; omega⟩
end Go.Proofs.YtiaendggmamnkaaGreatDoor

namespace Go.Proofs.YtiaendggmamnkaaGreatDoor
open Go Go.ChangeShapes Go.WideShapes Go.ChangeAt Go.WideMaps Go.WideElems Go.RowKit Go.Deep Go.Joins

theorem ownKnob16 : ownKnob Tryz.prog.godebug = none := by kernel_rfl
theorem laidOut16 : laidOutB Tryz.prog = true := by kernel_rfl
def rwD {H : Type} (r : Rw) : DataW H := .agg [.lit (.bool r.nm), .lit (.bool r.fn), .lit (.bool r.od), .lit (.int .i64 r.ob), .lit (.int .i64 r.ot), .lit (.int .i64 r.ex), .lit (.bool r.bd), .lit (.bool r.el)]
theorem rwTabIs : (Rows.laid_modelcheck_ast_rows : DataW Unit) = .agg (rwT.map rwD) := by rfl
theorem rowFs16 : ∃ fs, Tryz.prog.underlying 101 = some (.struct fs) ∧ oneCellFields Tryz.prog fs = true ∧ fs.map (·.type) = #[4, 4, 4, 99, 99, 3, 4, 4] ∧ Tryz.prog.cellsOf 101 = 8 := ⟨_, Tryz.underlying101, by kernel_rfl, by kernel_rfl, by kernel_rfl⟩
theorem cellsRows16 : Tryz.prog.cellsOf 102 = 168 := by kernel_rfl
theorem fieldAtH {H : Type} {enc : TypeId × Value → H} {W : World} {b0 : Nat} {sp : Nat → Bool} {held : Bool} {fs : Array Field} {cs : List Value} {xs : List (DataW H × List MemPlace)} {n : Nat} (h1 : oneCellFields Tryz.prog fs = true) (hl : cs.length = fs.size) (hxl : xs.length = fs.size)
    (hx : ∀ (i : Nat) (f : Field), fs[i]? = some f → DataW.trod enc Tryz.prog W b0 sp held n f.type ((cs.drop f.offset).take (Tryz.prog.cellsOf f.type)) = xs[i]?) (i : Nat) (hi : i < fs.size) :
    DataW.trod enc Tryz.prog W b0 sp held n fs[i].type [cs[i]] = some xs[i] := by
  have hf : fs[i]? = some fs[i] := Array.getElem?_eq_getElem hi
  obtain ⟨o, ce⟩ := hone_of h1 i fs[i] hf
  have h := hx i fs[i] hf
  rw [o, ce, List.getElem?_eq_getElem (by omega)] at h
  have e : List.take 1 (List.drop i cs) = [cs[i]'(by omega)] := by
    rw [List.drop_eq_getElem_cons (by omega)]
    rfl
  rw [e] at h
  exact h
theorem rwCells {W : World} {b0 fuel : Nat} {sp : Nat → Bool} {held : Bool} {enc : TypeId × Value → Unit} {cs : List Value} {r : Rw} {p : List MemPlace} (h : DataW.trod enc Tryz.prog W b0 sp held fuel 101 cs = some (rwD r, p)) :
    cs = [.bool r.nm, .bool r.fn, .bool r.od, .int .i64 r.ob, .int .i64 r.ot, .int .i64 r.ex, .bool r.bd, .bool r.el] := by
  obtain ⟨fs, g1, g2, g3, g4⟩ := rowFs16
  obtain ⟨xs, m, _, hxx, hl, hxl, hx⟩ := DataW.trod_struct g1 h
  rw [g4] at hl
  have hsz : fs.size = 8 := by rw [← Array.size_map (f := (·.type)), g3]; rfl
  have key : ∀ i (hi : i < 8) (u : TypeId), (#[4, 4, 4, 99, 99, 3, 4, 4] : Array TypeId)[i]? = some u → DataW.trod enc Tryz.prog W b0 sp held m u [cs[i]'(by omega)] = some (xs[i]'(by omega)) := fun i hi u hu => by
    have := fieldAtH g2 (by omega) hxl hx i (by omega)
    rwa [typeAt16 g3 i (by omega) hu] at this
  have hds : xs.map (·.1) = [.lit (.bool r.nm), .lit (.bool r.fn), .lit (.bool r.od), .lit (.int .i64 r.ob), .lit (.int .i64 r.ot), .lit (.int .i64 r.ex), .lit (.bool r.bd), .lit (.bool r.el)] := by
    have := congrArg Prod.fst hxx
    simp only [rwD, DataW.agg.injEq] at this
    exact this.symm
  have bl : ∀ i (hi : i < 8) (v : Bool), (#[4, 4, 4, 99, 99, 3, 4, 4] : Array TypeId)[i]? = some 4 → (xs.map (·.1))[i]? = some (.lit (.bool v)) → cs[i]? = some (.bool v) := fun i hi v hu hv => by
    obtain ⟨s', hc, hd⟩ := DataW.trod_bool Tryz.underlying4 (key i hi _ hu)
    rw [List.getElem?_map, List.getElem?_eq_getElem (by omega), Option.map_some, hd] at hv
    simp only [Option.some.injEq, DataW.lit.injEq, Lit.bool.injEq] at hv
    subst hv
    rw [List.getElem?_eq_getElem (by omega)]
    rw [(List.cons.inj hc).1]
  have it : ∀ i (hi : i < 8) (v : Int) (u : TypeId), Tryz.prog.underlying u = some (.int .i64) → (#[4, 4, 4, 99, 99, 3, 4, 4] : Array TypeId)[i]? = some u → (xs.map (·.1))[i]? = some (.lit (.int .i64 v)) → cs[i]? = some (.int .i64 v) := fun i hi v u hu0 hu hv => by
    obtain ⟨s', hc, hd, _⟩ := DataW.trod_int hu0 (key i hi _ hu)
    rw [List.getElem?_map, List.getElem?_eq_getElem (by omega), Option.map_some, hd] at hv
    simp only [Option.some.injEq, DataW.lit.injEq, Lit.int.injEq, true_and] at hv
    subst hv
    rw [List.getElem?_eq_getElem (by omega)]
    rw [(List.cons.inj hc).1]
  have c0 := bl 0 (by decide) r.nm rfl (by rw [hds]; rfl)
  have c1 := bl 1 (by decide) r.fn rfl (by rw [hds]; rfl)
  have c2 := bl 2 (by decide) r.od rfl (by rw [hds]; rfl)
  have c3 := it 3 (by decide) r.ob _ Tryz.underlying99 rfl (by rw [hds]; rfl)
  have c4 := it 4 (by decide) r.ot _ Tryz.underlying99 rfl (by rw [hds]; rfl)
  have c5 := it 5 (by decide) r.ex _ Tryz.underlying3 rfl (by rw [hds]; rfl)
  have c6 := bl 6 (by decide) r.bd rfl (by rw [hds]; rfl)
  have c7 := bl 7 (by decide) r.el rfl (by rw [hds]; rfl)
  clear key bl it hds hx hxx h
  match cs, hl, c0, c1, c2, c3, c4, c5, c6, c7 with
  | [v0, v1, v2, v3, v4, v5, v6, v7], _, c0, c1, c2, c3, c4, c5, c6, c7 =>
    have c0 : v0 = _ := Option.some.inj c0
    have c1 : v1 = _ := Option.some.inj c1
    have c2 : v2 = _ := Option.some.inj c2
    have c3 : v3 = _ := Option.some.inj c3
    have c4 : v4 = _ := Option.some.inj c4
    have c5 : v5 = _ := Option.some.inj c5
    have c6 : v6 = _ := Option.some.inj c6
    have c7 : v7 = _ := Option.some.inj c7
    rw [c0, c1, c2, c3, c4, c5, c6, c7]
theorem gRows16 : Tryz.prog.globalNamed "modelcheck/ast.rows" = some 0 := by kernel_rfl
theorem gRowsT16 : (Tryz.prog.globals[0]?).map (·.type) = some 102 := by kernel_rfl
theorem rows_of_laid {r : List (String × DataW Unit)} {W : World} (h : laidMet Tryz.prog (("modelcheck/ast.rows", Rows.laid_modelcheck_ast_rows) :: r) W) : RwsT W := by
  obtain ⟨ps, ⟨g', t', cs, fuel, p, q, hg', ht', hvar, hd, _, _⟩, _⟩ := h
  obtain rfl := Option.some.inj (gRows16.symm.trans hg')
  obtain rfl := Option.some.inj (gRowsT16.symm.trans ht')
  rw [rwTabIs] at hd
  obtain ⟨xs, m, _, hx, hl, hn, hel⟩ := DataW.trod_array Tryz.underlying102 hd
  rw [cellsRows16] at hl
  obtain ⟨_, _, _, _, c8⟩ := rowFs16
  have hxs : rwT.map (rwD (H := Unit)) = xs.map (·.1) := by
    have := congrArg Prod.fst hx
    simpa using this
  have key : ∀ k : Nat, k < 21 → ∀ j : Nat, j < 8 → cs.toList[k * 8 + j]? = ([.bool (rw16 k).nm, .bool (rw16 k).fn, .bool (rw16 k).od, .int .i64 (rw16 k).ob, .int .i64 (rw16 k).ot, .int .i64 (rw16 k).ex, .bool (rw16 k).bd, .bool (rw16 k).el] : List Value)[j]? := by
    intro k hk j hj
    have hE := hel k hk
    rw [c8] at hE
    have ha : rwT[k]? = some (rw16 (k : Int)) := by
      unfold rw16
      rw [Int.toNat_natCast, List.getD_eq_getElem?_getD, List.getElem?_eq_getElem (show k < rwT.length from hk)]
      rfl
    have hxk : xs[k]?.map (·.1) = some (rwD (rw16 k)) := by
      rw [← List.getElem?_map, ← hxs, List.getElem?_map, ha]; rfl
    cases e : xs[k]? with
    | none => rw [e] at hxk; cases hxk
    | some y =>
      rw [e] at hxk hE
      obtain ⟨d, pl⟩ := y
      simp only [Option.map_some, Option.some.injEq] at hxk
      subst hxk
      have hc := rwCells hE
      rw [← hc, List.getElem?_take_of_lt hj, List.getElem?_drop]
  intro k hk
  have g : ∀ j, j < 8 → W.cell? ⟨0, k * 8 + j, none⟩ = ([.bool (rw16 k).nm, .bool (rw16 k).fn, .bool (rw16 k).od, .int .i64 (rw16 k).ob, .int .i64 (rw16 k).ot, .int .i64 (rw16 k).ex, .bool (rw16 k).bd, .bool (rw16 k).el] : List Value)[j]? := fun j hj => by
    rw [World.var?_cell gRows16 hvar, ← Array.getElem?_toList]
    exact key k hk j hj
  exact ⟨g 0 (by decide), g 1 (by decide), g 2 (by decide), g 3 (by decide), g 4 (by decide), g 5 (by decide), g 6 (by decide), g 7 (by decide)⟩
abbrev laid16 : List (String × DataW Unit) := [("modelcheck/ast.rows", Rows.laid_modelcheck_ast_rows)]
theorem met16 {W : World} (h : laidMetH Tryz.prog laid16 W) : RwsT W := by
  rw [MakeChecks.laidMetH_plain _ _ _ (by kernel_rfl)] at h
  exact rows_of_laid h
theorem door16 (os : Os) (args : Array Value) : laidMetH Tryz.prog laid16 ((World.doorLaid Tryz.prog 400 os).forCall (fun _ _ => 0) ⟨#[], args, []⟩).memory := by
  rw [MakeChecks.laidMetH_plain _ _ _ (by kernel_rfl)]
  exact laidMet_of_run' 8 (by kernel_rfl) (by kernel_rfl)
end Go.Proofs.YtiaendggmamnkaaGreatDoor
