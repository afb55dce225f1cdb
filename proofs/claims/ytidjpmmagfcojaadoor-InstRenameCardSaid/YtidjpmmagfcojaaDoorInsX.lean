/-
  Renaming, without memory: what the law InstRename compares.
-/
import Derived.Test.YtidjpmmagfcojaaDoorInsMp
namespace Go.Proofs.YtidjpmmagfcojaaDoor
open Go Go.RowKit

def id8 : List Int := [0, 1, 2, 3, 4, 5, 6, 7]
theorem dgsAll (m : Nat) : ∀ x ∈ dgs m, rgOk x = true := by
  intro x hx
  unfold dgs at hx
  rw [List.mem_map] at hx
  obtain ⟨k, _, rfl⟩ := hx
  have := dgLt m k
  rw [rgOk_iff]; omega
theorem mapLen (l : List Int) (f : Int → Int) : (l.map f).length = l.length := List.length_map _
theorem compAll (m n : Nat) : ∀ x ∈ (dgs m).map (mpL (dgs n)), rgOk x = true := by
  intro x hx
  rw [List.mem_map] at hx
  obtain ⟨y, hy, rfl⟩ := hx
  have h := rgOk_iff.1 (dgsAll m y hy)
  exact rgOk_iff.2 (mapDgs n y h.1 h.2)
theorem mpComp (m n : Nat) (r : Int) (h0 : 0 ≤ r) (h8 : r < 8) : mpL ((dgs m).map (mpL (dgs n))) r = mpL (dgs n) (mpL (dgs m) r) := by
  unfold mpL
  rw [List.getD_eq_getElem?_getD, List.getElem?_map, List.getElem?_eq_getElem (by rw [dgsLen]; omega)]
  simp only [Option.map_some, Option.getD_some]
  rw [List.getD_eq_getElem?_getD (l := dgs m), List.getElem?_eq_getElem (by rw [dgsLen]; omega)]
  rfl
theorem mpId (r : Int) (h0 : 0 ≤ r) (h8 : r < 8) : mpL id8 r = r := by
  have h : r = 0 ∨ r = 1 ∨ r = 2 ∨ r = 3 ∨ r = 4 ∨ r = 5 ∨ r = 6 ∨ r = 7 := by omega
  rcases h with rfl | rfl | rfl | rfl | rfl | rfl | rfl | rfl <;> rfl
theorem I8.Good.wf {i : I8} (_ : i.Good) {j : I8} (hi : i.Wf) (he : j.op = i.op ∧ j.obj = i.obj ∧ j.n = i.n ∧ j.fn = i.fn ∧ j.ord = i.ord) (hj : j.Good) : j.Wf := by
  have aux : ∀ {x : Int}, 0 ≤ x ∧ x < 8 → In64 x := fun h => by unfold In64; omega
  exact ⟨he.1 ▸ hi.op, aux hj.a, aux hj.b, aux hj.c, he.2.1 ▸ hi.obj, he.2.2.1 ▸ hi.n, he.2.2.2.1 ▸ hi.fn, he.2.2.2.2 ▸ hi.ord⟩

/-- What the law compares. -/
structure RnF (op a b c obj n fn ord : Int) (f g h : List Int) (pa pb pc qa qb qc x y : Int) (ok : Bool) (u v : List Int) : Prop where
  e1 : (I8.mk8 op a b c obj n fn ord).renE f = 0
  i1 : (I8.mk8 op a b c obj n fn ord).renI f = ⟨op, pa, pb, pc, obj, n, fn, ord⟩
  wf : (I8.mk8 op pa pb pc obj n fn ord).Wf
  ck : (I8.mk8 op pa pb pc obj n fn ord).chk = 0
  e2 : (I8.mk8 op pa pb pc obj n fn ord).renE g = 0
  i2 : (I8.mk8 op pa pb pc obj n fn ord).renI g = ⟨op, qa, qb, qc, obj, n, fn, ord⟩
  e3 : (I8.mk8 op a b c obj n fn ord).renE h = 0
  i3 : (I8.mk8 op a b c obj n fn ord).renI h = ⟨op, qa, qb, qc, obj, n, fn, ord⟩
  e4 : (I8.mk8 op a b c obj n fn ord).renE id8 = 0
  i4 : (I8.mk8 op a b c obj n fn ord).renI id8 = ⟨op, a, b, c, obj, n, fn, ord⟩
  dR : (I8.mk8 op a b c obj n fn ord).dfR = x
  dB : (I8.mk8 op a b c obj n fn ord).dfB = ok
  eR : (I8.mk8 op pa pb pc obj n fn ord).dfR = y
  eB : (I8.mk8 op pa pb pc obj n fn ord).dfB = ok
  x0 : 0 ≤ x
  x8 : x < 8
  xy : ok = true → y = mpL f x
  us : (I8.mk8 op a b c obj n fn ord).uses = u
  ul : u.length ≤ 2
  ur : ∀ z ∈ u, 0 ≤ z ∧ z < 8
  vs : (I8.mk8 op pa pb pc obj n fn ord).uses = v
  uv : mk (u.map (mpL f)) = v
theorem rnFacts (i : I8) (hg : i.Good) (hi : i.Wf) (m n2 : Nat) : ∃ pa pb pc qa qb qc x y ok u v, RnF i.op i.a i.b i.c i.obj i.n i.fn i.ord (dgs m) (dgs n2) ((dgs m).map (mpL (dgs n2))) pa pb pc qa qb qc x y ok u v := by
  have hP := hg.ren (mapDgs m)
  obtain ⟨e1, i1⟩ := renOk hg.chk (dgsLen m) (dgsAll m)
  obtain ⟨e2, i2⟩ := renOk hP.chk (dgsLen n2) (dgsAll n2)
  obtain ⟨e3, i3⟩ := renOk hg.chk (show ((dgs m).map (mpL (dgs n2))).length = 8 by rw [mapLen, dgsLen]) (compAll m n2)
  obtain ⟨e4, i4⟩ := renOk hg.chk (show id8.length = 8 from rfl) (by decide)
  have hq : i.ren (mpL ((dgs m).map (mpL (dgs n2)))) = (i.ren (mpL (dgs m))).ren (mpL (dgs n2)) := by
    rw [I8.renRen]
    exact I8.renCongr hg fun r h0 h8 => mpComp m n2 r h0 h8
  refine ⟨(i.ren (mpL (dgs m))).a, (i.ren (mpL (dgs m))).b, (i.ren (mpL (dgs m))).c, ((i.ren (mpL (dgs m))).ren (mpL (dgs n2))).a, ((i.ren (mpL (dgs m))).ren (mpL (dgs n2))).b, ((i.ren (mpL (dgs m))).ren (mpL (dgs n2))).c, i.dfR, (i.ren (mpL (dgs m))).dfR, i.dfB, i.uses, (i.ren (mpL (dgs m))).uses,
    e1, i1, hg.wf hi ⟨rfl, rfl, rfl, rfl, rfl⟩ hP, hP.chk, e2, i2, e3, i3.trans hq, e4, ?_, rfl, rfl, rfl, ?_, ?_, ?_, ?_, rfl, i.usesLen, I8.usesReg hg, rfl, (I8.usesRen hg (mapDgs m)).symm⟩
  · exact i4.trans (I8.renId hg mpId)
  · show decide ((i.ren (mpL (dgs m))).chk = 0 ∧ (i.ren (mpL (dgs m))).u 0 = true) = decide (i.chk = 0 ∧ i.u 0 = true)
    rw [I8.renU, hP.chk, hg.chk]
  · unfold I8.dfR; split
    · exact hg.a.1
    · exact Int.le_refl _
  · unfold I8.dfR; split
    · exact hg.a.2
    · decide
  · intro h
    have h0 : i.u 0 = true := by
      simp only [I8.dfB, decide_eq_true_eq] at h
      exact h.2
    unfold I8.dfR
    rw [if_pos ⟨hP.chk, by rw [I8.renU]; exact h0⟩, if_pos ⟨hg.chk, h0⟩]
    show (if i.u 0 = true then mpL (dgs m) i.a else i.a) = _
    rw [if_pos h0]
end Go.Proofs.YtidjpmmagfcojaaDoor
