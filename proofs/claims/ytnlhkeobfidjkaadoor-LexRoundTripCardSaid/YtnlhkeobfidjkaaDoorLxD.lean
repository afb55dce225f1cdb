/-
  Arguments opened: a slice of tokens; each text within the form's reach.
-/
import Derived.Test.YtnlhkeobfidjkaaDoorLxW
import Derived.ProofKit
import Derived.OpenShut
import Derived.ChangeMaps5
import Derived.Deep.SlicePairs
import Derived.Lib.SmallJoins
import Derived.SizedLaws
namespace Go.Proofs.YtnlhkeobfidjkaaDoor
open Go Go.ChangeShapes Go.WideShapes Go.ChangeAt Go.RowKit Go.Deep Go.Joins

theorem listOfD {α : Type} {R : Nat → α → Prop} : ∀ (n : Nat), (∀ i, i < n → ∃ x, R i x) → ∃ l : List α, l.length = n ∧ ∀ i (hi : i < l.length), R i l[i]
  | 0, _ => ⟨[], rfl, fun i hi => absurd hi (by simp)⟩
  | n + 1, h => by
    obtain ⟨l, hl, hR⟩ := listOfD n fun i hi => h i (by omega)
    obtain ⟨x, hx⟩ := h n (by omega)
    refine ⟨l ++ [x], by simp [hl], fun i hi => ?_⟩
    rw [List.length_append, List.length_singleton] at hi
    by_cases e : i < l.length
    · rw [List.getElem_append_left e]
      exact hR i e
    · have e2 : i = l.length := by omega
      subst e2
      rw [List.getElem_append_right (Nat.le_refl _)]
      simpa [hl] using hx
section
variable {H : Type} {enc : TypeId × Value → H} {W : World} {b0 : Nat}
theorem tokFs : ∃ fs, Tryd.prog.underlying 40 = some (.struct fs) ∧ oneCellFields Tryd.prog fs = true ∧ fs.map (·.type) = #[38, 9, 3, 3] ∧ Tryd.prog.cellsOf 40 = 4 := ⟨_, Tryd.underlying40, by kernel_rfl, by kernel_rfl, by kernel_rfl⟩
/-- The four fields of a token's cells, and what they read as. -/
theorem elTk {b o n : Nat} {cs : List Value} {x : DataW H × List MemPlace} (hl : cs.length = 4) (hc : ∀ j (h : j < cs.length), W.cell? ⟨b, o + j, none⟩ = some cs[j]) (h : DataW.trod enc Tryd.prog W b0 (fun _ => true) true n 40 cs = some x) :
    ∃ z : Tok, EK W b o z ∧ (∀ m ∈ [z.text.length], m ∈ x.1.weights Tryd.prog 40) := by
  obtain ⟨fs, g1, g2, g3, g4⟩ := tokFs
  obtain ⟨xs, m, _, hxe, _, hxl, hx⟩ := DataW.trod_struct g1 h
  have hsz : fs.size = 4 := by
    have := congrArg Array.size g3
    simpa using this
  have typ : ∀ (i : Nat) (hi : i < fs.size) (u : TypeId), (#[38, 9, 3, 3] : Array TypeId)[i]? = some u → fs[i].type = u := fun i hi u hu => by
    rw [← g3] at hu
    simpa [hi] using hu
  have fld : ∀ (i : Nat) (hi : i < fs.size) (u : TypeId), (#[38, 9, 3, 3] : Array TypeId)[i]? = some u → DataW.trod enc Tryd.prog W b0 (fun _ => true) true m u [cs[i]'(by omega)] = xs[i]? := fun i hi u hu => by
    have hf : fs[i]? = some fs[i] := Array.getElem?_eq_getElem hi
    obtain ⟨o', ce⟩ := hone_of g2 i fs[i] hf
    have h := hx i fs[i] hf
    rw [o', ce, List.getElem?_eq_getElem (by omega)] at h
    have e : List.take 1 (List.drop i cs) = [cs[i]'(by omega)] := by
      rw [List.drop_eq_getElem_cons (by omega)]
      rfl
    rw [e, typ i hi u hu] at h
    rw [List.getElem?_eq_getElem (by omega)]
    exact h
  have gi : ∀ i (hi : i < 4), xs[i]? = some (xs[i]'(by omega)) := fun i hi => List.getElem?_eq_getElem (by omega)
  have f0 := (fld 0 (by omega) _ rfl).trans (gi 0 (by omega))
  have f1 := (fld 1 (by omega) _ rfl).trans (gi 1 (by omega))
  have f2 := (fld 2 (by omega) _ rfl).trans (gi 2 (by omega))
  have f3 := (fld 3 (by omega) _ rfl).trans (gi 3 (by omega))
  obtain ⟨z0, e0, _⟩ := DataW.trod_int Tryd.underlying38 f0
  obtain ⟨s, e1, k1, _⟩ := DataW.trod_string Tryd.underlying9 f1
  obtain ⟨z2, e2, _⟩ := DataW.trod_int Tryd.underlying3 f2
  obtain ⟨z3, e3, _⟩ := DataW.trod_int Tryd.underlying3 f3
  injection e0 with e0
  injection e1 with e1
  injection e2 with e2
  injection e3 with e3
  refine ⟨⟨z0, s.data.toList, z2, z3⟩, ⟨(hc 0 (by omega)).trans (by rw [e0]), (hc 1 (by omega)).trans (by rw [e1]; rfl), (hc 2 (by omega)).trans (by rw [e2]), (hc 3 (by omega)).trans (by rw [e3])⟩, fun m hm => ?_⟩
  obtain rfl : m = s.data.toList.length := by simpa using hm
  rw [hxe]
  simp only [DataW.weights, g1]
  refine DataW.weights_mem_each (j := 1) (t := 9) (d := .lit (.string s.data.toList)) ?_ ?_ _ (by simp [DataW.weights])
  · have ht := typ 1 (by omega) _ rfl
    rw [List.getElem?_map, Array.getElem?_toList, Array.getElem?_eq_getElem (by omega)]
    exact congrArg some ht
  · rw [List.getElem?_map, gi 1 (by omega), k1]; rfl
theorem memAll {e : TypeId} : ∀ {ds : List (DataW H)} {d : DataW H}, d ∈ ds → ∀ m ∈ d.weights Tryd.prog e, m ∈ DataW.weightsAll Tryd.prog e ds
  | x :: r, d, h, m, hm => by
    rw [DataW.weightsAll, List.mem_append]
    rcases List.mem_cons.1 h with rfl | h
    · exact .inl hm
    · exact .inr (memAll h m hm)
set_option maxRecDepth 100000 in
/-- A slice of tokens as an argument: it reads as a list; each text is within the form's reach. -/
theorem openTk {base : Nat} {v : Value} {d : DataW H} {p : List MemPlace} (hv : Value.okWide Tryd.prog W .any base 23 v) (h : DataW.Trod enc Tryd.prog W b0 (fun _ => true) true 23 v d p) :
    ∃ (A : Option Addr) (n c : Nat) (l : List Tok), v = .slice A n c ∧ l.length = n ∧ Rk W A c l ∧ ∀ x ∈ l, x.text.length ∈ d.weights Tryd.prog 23 := by
  obtain ⟨A, n, c, rfl⟩ := okWide_slice Tryd.underlying23 hv
  obtain ⟨fuel, h⟩ := h
  have h : DataW.trod enc Tryd.prog W b0 (fun _ => true) true fuel 23 [.slice A n c] = some (d, p) := h
  rcases open_slice Tryd.underlying23 h with ⟨hcs, hx⟩ | ⟨a, len, cap, m, n', D, Pl, hcs, hb, hl, hmx, hmm, hx, hcell⟩
  · injection hcs with hcs
    injection hcs with e1 e2 e3
    subst e1; subst e2; subst e3
    exact ⟨none, 0, 0, [], rfl, rfl, Rk.nil, fun _ h => by cases h⟩
  · injection hcs with hcs
    injection hcs with e1 e2 e3
    subst e1; subst e2; subst e3
    simp only [if_true] at hmm
    subst hmm
    injection hx with hxd _
    rcases Nat.eq_zero_or_pos n with h0 | h0
    · subst h0
      exact ⟨some a, 0, m, [], rfl, rfl, ⟨by simp, hmx, fun h => absurd h (by simp)⟩, fun _ h => by cases h⟩
    have hk : Tryd.prog.cellsOf 40 = 4 := by kernel_rfl
    obtain ⟨cs0, h1, _⟩ := hcell 0 (by omega)
    rw [hk] at h1
    obtain ⟨_, hlen0, hc0⟩ := World.cells?_some h1
    have e0 := (hc0 0 (by omega)).trans (List.getElem?_eq_getElem (by omega))
    obtain ⟨b, off, spot⟩ := a
    have hspot : spot = none := by simpa [Addr.add] using World.cell?_spot e0
    subst hspot
    have hbl : b < W.heap.size := by
      have := World.block_lt_of_cell? W _ e0
      simpa [Addr.add] using this
    obtain ⟨l, hll, hR⟩ := listOfD (R := fun i z => EK W b (off + i * 4) z ∧ z.text.length ∈ (D i).weights Tryd.prog 40) n fun i hi => by
      obtain ⟨cs', h1, h2⟩ := hcell i (by omega)
      rw [hk] at h1
      obtain ⟨_, hlen, hc⟩ := World.cells?_some h1
      obtain ⟨z, hz, hzw⟩ := elTk (b := b) (o := off + i * 4) hlen (fun j hj => by
        have := hc j (by omega)
        rw [Addr.add_lit, Addr.add_lit] at this
        exact this.trans (List.getElem?_eq_getElem hj)) h2
      exact ⟨z, hz, hzw _ (by simp)⟩
    refine ⟨_, n, m, l, rfl, hll, ⟨by omega, hmx, fun _ => ⟨b, off, rfl, hbl, fun j hj => (hR j hj).1⟩⟩, fun x hx => ?_⟩
    obtain ⟨i, hi, rfl⟩ := List.getElem_of_mem hx
    rw [hxd]
    simp only [DataW.weights, Tryd.underlying23]
    refine List.mem_cons_of_mem _ (List.mem_append_left _ (memAll (d := D i) ?_ _ (hR i hi).2))
    exact List.mem_map.2 ⟨i, List.mem_range.2 (by omega), rfl⟩
end
end Go.Proofs.YtnlhkeobfidjkaaDoor
