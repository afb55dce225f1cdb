/-
  A procedure as an argument, opened: the trees that its body reads as, no larger than the argument's bulk.
-/
import Derived.Test.YtiaendggmamnkaaGreatDoorELa
namespace Go.Proofs.YtiaendggmamnkaaGreatDoor
open Go Go.ChangeShapes Go.WideShapes Go.ChangeAt Go.RowKit Go.Deep Go.Joins

theorem bulkTwo {H : Type} {l : List (DataW H)} {i j : Nat} (hij : i < j) (hj : j < l.length) : Rows.uptoBulk (l[i]'(by omega)) + Rows.uptoBulk l[j] ≤ Rows.uptoBulkAll l := by
  induction l generalizing i j with
  | nil => simp at hj
  | cons x r ih =>
    rw [Rows.uptoBulkAll]
    cases j with
    | zero => omega
    | succ j =>
      have hj' : j < r.length := by simpa using hj
      cases i with
      | zero =>
        have := bulkIn (List.getElem_mem hj')
        simp only [List.getElem_cons_zero, List.getElem_cons_succ]
        omega
      | succ i =>
        have := ih (i := i) (j := j) (by omega) hj'
        simp only [List.getElem_cons_succ]
        omega
/-- The own fields of a statement are good: names that memory can hold, expressions no larger than N. -/
def GoodS (N : Nat) (v : SmD) : Prop := v.name.size ≤ maxLen ∧ ∀ e ∈ v.exprs, Tr.sz e ≤ N ∧ Tr.allT (fun v => v.name.size ≤ maxLen) e
section
variable {H : Type} {enc : TypeId × Value → H} {W : World} {b0 : Nat}
/-- A struct's cells, field by field: any two fields' bulk together below the struct's own. -/
theorem fields16b {t : TypeId} {fs : Array Field} {ts : Array TypeId} {k n : Nat} {cs : List Value} {x : DataW H × List MemPlace} (hu : Tryz.prog.underlying t = some (.struct fs)) (h1 : oneCellFields Tryz.prog fs = true) (h2 : fs.map (·.type) = ts) (hk : ts.size = k) (hl : cs.length = k)
    (h : DataW.trod enc Tryz.prog W b0 (fun _ => true) true n t cs = some x) : ∃ (m : Nat) (ys : List (DataW H × List MemPlace)) (hy : ys.length = cs.length), Rows.uptoBulkAll (ys.map (·.1)) < Rows.uptoBulk x.1 ∧ ∀ (i : Nat) (hi : i < cs.length) (u : TypeId), ts[i]? = some u → DataW.trod enc Tryz.prog W b0 (fun _ => true) true m u [cs[i]] = some (ys[i]'(by omega)) := by
  obtain ⟨xs, m, _, hxx, _, hxl, hx⟩ := DataW.trod_struct hu h
  have hsz : fs.size = k := by rw [← hk, ← h2, Array.size_map]
  refine ⟨m, xs, by omega, ?_, fun i hi u hu' => ?_⟩
  · rw [hxx]
    simp only [Rows.uptoBulk]
    omega
  · have := fieldAt16 h1 (by omega) hxl hx i (by omega)
    rw [typeAt16 h2 i (by omega) hu'] at this
    exact this
theorem stmtFs : ∃ fs, Tryz.prog.underlying 54 = some (.struct fs) ∧ oneCellFields Tryz.prog fs = true ∧ fs.map (·.type) = #[51, 9, 9, 9, 34, 52, 35, 42, 42] ∧ Tryz.prog.cellsOf 54 = 9 := ⟨_, Tryz.underlying54, by kernel_rfl, by kernel_rfl, by kernel_rfl⟩
theorem procFs16 : ∃ fs, Tryz.prog.underlying 44 = some (.struct fs) ∧ oneCellFields Tryz.prog fs = true ∧ fs.map (·.type) = #[9, 9, 42] ∧ Tryz.prog.cellsOf 44 = 3 := ⟨_, Tryz.underlying44, by kernel_rfl, by kernel_rfl, by kernel_rfl⟩
theorem allLOf {β : Type} {p : β → Prop} : ∀ {l : List (Tr β)}, (∀ t ∈ l, Tr.allT p t) → Tr.allL p l
  | [], _ => trivial
  | t :: _, h => ⟨h t List.mem_cons_self, allLOf fun t ht => h t (List.mem_cons_of_mem _ ht)⟩
theorem bulkAt {ys : List (DataW H × List MemPlace)} {i : Nat} (hi : i < ys.length) : Rows.uptoBulk ys[i].1 ≤ Rows.uptoBulkAll (ys.map (·.1)) := bulkIn (List.mem_map.2 ⟨_, List.getElem_mem hi, rfl⟩)
theorem bulkAt2 {ys : List (DataW H × List MemPlace)} {i j : Nat} (hij : i < j) (hj : j < ys.length) : Rows.uptoBulk (ys[i]'(by omega)).1 + Rows.uptoBulk ys[j].1 ≤ Rows.uptoBulkAll (ys.map (·.1)) := by
  have := bulkTwo (l := ys.map (·.1)) hij (by simpa using hj)
  simpa using this
/-- A statement's nine cells. -/
theorem elM (N0 : Nat) : ∀ (N : Nat) (b o : Nat) (cs : List Value) (n : Nat) (x : DataW H × List MemPlace), cs.length = 9 → (∀ j (h : j < cs.length), W.cell? ⟨b, o + j, none⟩ = some cs[j]) → DataW.trod enc Tryz.prog W b0 (fun _ => true) true n 54 cs = some x → Rows.uptoBulk x.1 ≤ N → Rows.uptoBulk x.1 ≤ N0 → ∃ z : Sm, EM N0 N W b o z ∧ Tr.sz z ≤ Rows.uptoBulk x.1 ∧ Tr.allT (GoodS N0) z
  | 0, _, _, _, _, x, _, _, _, hN, _ => by have := bulk1 x.1; omega
  | N + 1, b, o, cs, n, x, hl, hc, h, hN, hN0 => by
    obtain ⟨fs, g1, g2, g3, g4⟩ := stmtFs
    obtain ⟨fs', _, _, _, gX⟩ := exprFs
    obtain ⟨m, ys, hyl, hbk, hf⟩ := fields16b g1 g2 g3 rfl hl h
    have f0 := hf 0 (by omega) _ rfl
    have f1 := hf 1 (by omega) _ rfl
    have f2 := hf 2 (by omega) _ rfl
    have f3 := hf 3 (by omega) _ rfl
    have f4 := hf 4 (by omega) _ rfl
    have f5 := hf 5 (by omega) _ rfl
    have f6 := hf 6 (by omega) _ rfl
    have f7 := hf 7 (by omega) _ rfl
    have f8 := hf 8 (by omega) _ rfl
    have b6 := bulkAt (ys := ys) (i := 6) (by omega)
    have b78 := bulkAt2 (ys := ys) (i := 7) (j := 8) (by decide) (by omega)
    have p7 := bulk1 (ys[7]'(by omega)).1
    have p8 := bulk1 (ys[8]'(by omega)).1
    obtain ⟨z0, e0, _⟩ := DataW.trod_int Tryz.underlying51 f0
    obtain ⟨z1, e1, _, hs⟩ := DataW.trod_string Tryz.underlying9 f1
    obtain ⟨z2, e2, _⟩ := DataW.trod_string Tryz.underlying9 f2
    obtain ⟨z3, e3, _⟩ := DataW.trod_string Tryz.underlying9 f3
    obtain ⟨z4, e4, _⟩ := DataW.trod_int Tryz.underlying34 f4
    obtain ⟨z5, e5, _⟩ := DataW.trod_int Tryz.underlying52 f5
    replace e0 := (List.cons.inj e0).1
    replace e1 := (List.cons.inj e1).1
    replace e2 := (List.cons.inj e2).1
    replace e3 := (List.cons.inj e3).1
    replace e4 := (List.cons.inj e4).1
    replace e5 := (List.cons.inj e5).1
    obtain ⟨A6, q6, c6, l6, d6, e6, hq6, hr6, hd6, hQ6, hk6⟩ := openB16 (EX N0) (fun d z => Tr.sz z ≤ Rows.uptoBulk d ∧ Tr.allT (fun v => v.name.size ≤ maxLen) z ∧ Rows.uptoBulk d ≤ N0) Tryz.underlying35 gX (by decide) (fun b o cs n x h1 h2 h3 h4 => by
      obtain ⟨z, k1, k2, k3⟩ := elX N0 b o cs n x h1 h2 h3 (by omega)
      exact ⟨z, k1, k2, k3, by omega⟩) f6
    obtain ⟨A7, q7, c7, l7, d7, e7, hq7, hr7, hd7, hQ7, hk7⟩ := openB16 (EM N0 N) (fun d z => Tr.sz z ≤ Rows.uptoBulk d ∧ Tr.allT (GoodS N0) z) Tryz.underlying42 g4 (by decide) (fun b o cs n x h1 h2 h3 h4 => elM N0 N b o cs n x h1 h2 h3 (by omega) (by omega)) f7
    obtain ⟨A8, q8, c8, l8, d8, e8, hq8, hr8, hd8, hQ8, hk8⟩ := openB16 (EM N0 N) (fun d z => Tr.sz z ≤ Rows.uptoBulk d ∧ Tr.allT (GoodS N0) z) Tryz.underlying42 g4 (by decide) (fun b o cs n x h1 h2 h3 h4 => elM N0 N b o cs n x h1 h2 h3 (by omega) (by omega)) f8
    refine ⟨.mk ⟨z0, z1, z2, z3, z4, z5, l6⟩ l7 l8, ⟨(hc 0 (by omega)).trans (by rw [e0]; rfl), (hc 1 (by omega)).trans (by rw [e1]; rfl), (hc 2 (by omega)).trans (by rw [e2]; rfl), (hc 3 (by omega)).trans (by rw [e3]; rfl), (hc 4 (by omega)).trans (by rw [e4]; rfl), (hc 5 (by omega)).trans (by rw [e5]; rfl), ⟨_, hc 6 (by omega), A6, c6, ?_, hr6⟩, ⟨_, hc 7 (by omega), A7, c7, ?_, hr7⟩, _, hc 8 (by omega), A8, c8, ?_, hr8⟩, ?_, ⟨hs, fun e he => ?_⟩, allLOf fun t ht => ?_, allLOf fun t ht => ?_⟩
    · rw [e6, ← hq6]; rfl
    · rw [e7, ← hq7]; rfl
    · rw [e8, ← hq8]; rfl
    · have h7 := bulkSum Tr.sz l7 d7 hd7.symm fun i h1 h2 => (hQ7 i h1 h2).1
      have h8 := bulkSum Tr.sz l8 d8 hd8.symm fun i h1 h2 => (hQ8 i h1 h2).1
      rw [← szLSum] at h7 h8
      rw [Tr.sz]
      omega
    · obtain ⟨i, hi, rfl⟩ := List.getElem_of_mem (show e ∈ l6 from he)
      have hq := hQ6 i hi (by omega)
      exact ⟨Nat.le_trans hq.1 hq.2.2, hq.2.1⟩
    · obtain ⟨i, hi, rfl⟩ := List.getElem_of_mem ht
      exact (hQ7 i hi (by omega)).2
    · obtain ⟨i, hi, rfl⟩ := List.getElem_of_mem ht
      exact (hQ8 i hi (by omega)).2
/-- A body that is good is well-formed. -/
theorem wfM16 {N : Nat} {l : List Sm} (hN : N ≤ 4000000) (hz : Tr.szL l ≤ N) (h : Tr.allL (GoodS N) l) : WfM l :=
  ⟨fun x hx => (memL16 (p := GoodS N) 1 l h _ (numbMem _ _ _ hx)).1, fun x hx e he => by
    have hg := (memL16 (p := GoodS N) 1 l h _ (numbMem _ _ _ hx)).2 e he
    exact wfX16 hg.2 (by omega), by omega⟩
set_option maxRecDepth 100000 in
/-- A procedure as an argument. -/
theorem openPc16 {base : Nat} {v : Value} {d : DataW H} {p : List MemPlace} (hd : Rows.uptoBulk d ≤ 4000000) (hv : Value.okWide Tryz.prog W .any base 44 v) (h : DataW.Trod enc Tryz.prog W b0 (fun _ => true) true 44 v d p) :
    ∃ (q : Pc) (A : Option Addr) (n c : Nat), v = .agg #[.string q.name, .string q.param, .slice A n c] ∧ q.body.length = n ∧ RdE 9 (EM (Rows.uptoBulk d) (Rows.uptoBulk d)) W A c q.body ∧ WfP q := by
  obtain ⟨fs, g1, g2, g3, g4⟩ := procFs16
  obtain ⟨fs', _, _, _, gM⟩ := stmtFs
  obtain ⟨cs, rfl, hsz⟩ := okWide_struct g1 hv
  rw [g4] at hsz
  obtain ⟨fuel, hf⟩ := h
  have hf' : DataW.trod enc Tryz.prog W b0 (fun _ => true) true fuel 44 cs.toList = some (d, p) := hf
  have hl : cs.toList.length = 3 := by simpa using hsz
  obtain ⟨m, hx⟩ := fields16 g1 g2 g3 rfl hl hf'
  obtain ⟨l⟩ := cs
  match l, hl with
  | [v0, v1, v2], _ =>
    obtain ⟨_, f0, _⟩ := hx 0 (by simp) _ rfl
    obtain ⟨_, f1, _⟩ := hx 1 (by simp) _ rfl
    obtain ⟨y, f2, hy⟩ := hx 2 (by simp) _ rfl
    have hy : Rows.uptoBulk y.1 < Rows.uptoBulk d := hy
    obtain ⟨z0, e0, _, h0⟩ := DataW.trod_string Tryz.underlying9 f0
    obtain ⟨z1, e1, _, h1⟩ := DataW.trod_string Tryz.underlying9 f1
    obtain ⟨A, q, c, l, ds, e2, hq, hr, hds, hQ, hbk⟩ := openB16 (EM (Rows.uptoBulk d) (Rows.uptoBulk d)) (fun e z => Tr.sz z ≤ Rows.uptoBulk e ∧ Tr.allT (GoodS (Rows.uptoBulk d)) z) Tryz.underlying42 gM (by decide) (fun b o cs n x h1 h2 h3 h4 => elM (Rows.uptoBulk d) (Rows.uptoBulk d) b o cs n x h1 h2 h3 (by omega) (by omega)) f2
    replace e0 : v0 = _ := (List.cons.inj e0).1
    replace e1 : v1 = _ := (List.cons.inj e1).1
    replace e2 : v2 = _ := e2
    subst e0 e1 e2
    have hs := bulkSum Tr.sz l ds hds.symm fun i h1 h2 => (hQ i h1 h2).1
    rw [← szLSum] at hs
    exact ⟨⟨z0, z1, l⟩, A, q, c, rfl, hq, hr, h1, h0, wfM16 hd (by show Tr.szL l ≤ _; omega) (allLOf fun t ht => by
      obtain ⟨i, hi, rfl⟩ := List.getElem_of_mem (show t ∈ l from ht)
      exact (hQ i hi (by omega)).2)⟩
end
end Go.Proofs.YtiaendggmamnkaaGreatDoor
