/-
  Liveness of a code whose registers are renamed. Without any program.
-/
import Derived.Test.YtkanamdfjegcbaaDoorMLf4
namespace Go.Proofs.YtkanamdfjegcbaaDoor
open Go Go.RowKit

/-- A permutation of the registers. -/
structure PerOk (f : Int → Int) : Prop where
  map : MapOk f
  inj : ∀ r s, rgB r = true → rgB s = true → f r = f s → r = s
  sur : ∀ r, rgB r = true → ∃ s, rgB s = true ∧ f s = r
def renC (C : List I8) (f : Int → Int) : List I8 := C.map fun i => i.ren f
section
variable {C : List I8} {f : Int → Int} {k : Nat} {r : Int} {ex : Bool}
theorem renCLen : (renC C f).length = C.length := by unfold renC; rw [List.length_map]
theorem renCAt (hk : k < C.length) : (renC C f)[k]'(by rw [renCLen]; exact hk) = C[k].ren f := by unfold renC; rw [List.getElem_map]
theorem renSc : sc (renC C f) k = sc C k := by
  unfold sc
  rw [renCLen]
  unfold renC
  rw [List.getElem?_map]
  cases C[k]? with
  | none => rfl
  | some i => rfl
theorem cfFOf {len : Nat} : ∀ {C : List I8}, (∀ i ∈ C, i.chk = 0 ∧ (i.jmp = true → belB i.n (len + 1) = true)) → cfF len C = 0
  | [], _ => rfl
  | i :: t, h => by
    have hi := h i (by simp)
    rw [cfF, if_neg (by rw [hi.1]; simp), if_neg (by
      intro e
      rw [Bool.and_eq_true] at e
      rw [hi.2 e.1] at e
      cases e.2)]
    exact cfFOf fun j hj => h j (by simp [hj])
theorem renCE (hf : MapOk f) (hc : cfE C = 0) : cfE (renC C f) = 0 := by
  have hc2 : cfF C.length C = 0 := by
    unfold cfE at hc
    split at hc
    · cases hc
    · exact hc
  have h64 := (cfOk hc).len
  unfold cfE
  rw [renCLen, if_neg (by omega)]
  refine cfFOf fun i hi => ?_
  obtain ⟨j, hj, rfl⟩ := List.mem_map.1 hi
  have h := cfAll hc2 j hj
  exact ⟨((I8.good h.1).ren hf).chk, h.2⟩
theorem rdRen9 (i : I8) : (i.ren f).rdL = i.rdL.map f := by
  unfold I8.rdL
  have h : ∀ k, (i.ren f).u k = i.u k := fun _ => rfl
  rw [h, h]
  simp only [I8.ren]
  cases i.u 1 <;> cases i.u 2 <;> simp
theorem usesIff {i : I8} (h : i.chk = 0) {x : Int} : x ∈ i.uses ↔ x ∈ i.rdL := by
  unfold I8.uses
  rw [if_pos h, memMk]
theorem rgMap (hf : MapOk f) (h : rgB r = true) : rgB (f r) = true := by
  have := of_decide_eq_true h
  exact decide_eq_true (hf r this.1 this.2)
theorem renRd (hf : PerOk f) (hok : CfOk C) (hr : rgB r = true) : rdB (renC C f) k (f r) = rdB C k r := by
  by_cases hk : k < C.length
  · rw [rdAt (by rw [renCLen]; exact hk), rdAt hk, renCAt hk, Bool.eq_iff_iff, decide_eq_true_iff, decide_eq_true_iff]
    have hc := hok.chk C[k] (List.getElem_mem hk)
    rw [usesIff ((I8.good hc).ren hf.map).chk, usesIff hc, rdRen9, List.mem_map]
    constructor
    · rintro ⟨s, hs, e⟩
      have hs2 : rgB s = true := rdRg hok (k := k) (by rw [rdAt hk]; exact decide_eq_true ((usesIff hc).2 hs))
      have := hf.inj s r hs2 hr e
      subst this
      exact hs
    · intro h
      exact ⟨r, h, rfl⟩
  · rw [rdOut (by rw [renCLen]; omega), rdOut (by omega)]
theorem renDf {i : I8} (hf : MapOk f) (hc : i.chk = 0) : (i.ren f).dfB = i.dfB ∧ (i.dfB = true → (i.ren f).dfR = f i.dfR) := by
  have hg := ((I8.good hc).ren hf).chk
  have hu : (i.ren f).u 0 = i.u 0 := rfl
  have e1 : (i.ren f).dfB = i.dfB := by unfold I8.dfB; rw [hu, hg, hc]
  refine ⟨e1, fun h => ?_⟩
  unfold I8.dfB at h
  have h := of_decide_eq_true h
  unfold I8.dfR
  rw [if_pos ⟨hg, by rw [hu]; exact h.2⟩, if_pos h]
  show (if i.u 0 = true then f i.a else i.a) = f i.a
  rw [if_pos h.2]
theorem renWr (hf : PerOk f) (hok : CfOk C) (hr : rgB r = true) : wrB (renC C f) k (f r) = wrB C k r := by
  by_cases hk : k < C.length
  · rw [wrAt (by rw [renCLen]; exact hk), wrAt hk, renCAt hk]
    have hc := hok.chk C[k] (List.getElem_mem hk)
    obtain ⟨h1, h2⟩ := renDf hf.map hc
    rw [h1]
    cases hd : C[k].dfB with
    | false => rfl
    | true =>
      rw [h2 hd, Bool.true_and, Bool.true_and, Bool.eq_iff_iff, decide_eq_true_iff, decide_eq_true_iff]
      exact ⟨fun e => hf.inj _ _ (dfRg hok hk hd) hr e, fun e => by rw [e]⟩
  · unfold wrB
    rw [List.getElem?_eq_none (by rw [renCLen]; omega), List.getElem?_eq_none (by omega)]
theorem renLgr (hf : PerOk f) (hok : CfOk C) (hr : rgB r = true) : lgr (renC C f) (f r) k = lgr C r k := by
  unfold lgr
  rw [renWr hf hok hr, renSc]
/-- What is live is renamed with the code. -/
theorem renLv (hf : PerOk f) (hok : CfOk C) (hr : rgB r = true) : lvB (renC C f) ex k (f r) = lvB C ex k r := by
  have hl : lgr (renC C f) (f r) = lgr C r := funext fun k => renLgr hf hok hr
  have he : ∀ x, enB (renC C f) ex (f r) x = enB C ex r x := fun x => by
    unfold enB
    rw [renRd hf hok hr, renCLen, rgMap hf.map hr, hr]
  rw [Bool.eq_iff_iff, lvIff, lvIff]
  unfold LvP
  rw [hl]
  exact ⟨fun ⟨x, h1, h2⟩ => ⟨x, h1, by rw [← he]; exact h2⟩, fun ⟨x, h1, h2⟩ => ⟨x, h1, by rw [he]; exact h2⟩⟩
theorem renAny (hf : PerOk f) (hok : CfOk C) (hr : rgB r = true) : anyB (renC C f) ex k (f r) = anyB C ex k r := by
  unfold anyB
  rw [renSc]
  congr 1
  funext y
  exact renLv hf hok hr
/-- The row of a place is the row of the code itself, renamed. -/
theorem renRow (hf : PerOk f) (hc : cfE C = 0) : rgL (lvB (renC C f) ex k) = mk ((rgL (lvB C ex k)).map f) := by
  have hok := cfOk hc
  have hok' := cfOk (renCE hf.map hc)
  have hR : Regs (lvB C ex k) := fun r h => lvRg hok h
  have hR' : Regs (lvB (renC C f) ex k) := fun r h => lvRg hok' h
  refine mkEq rgLSrt fun x => ?_
  rw [rgLMem hR', List.mem_map]
  constructor
  · intro h
    obtain ⟨s, hs, rfl⟩ := hf.sur x (hR' x h)
    exact ⟨s, (rgLMem hR).2 (by rw [← renLv hf hok hs]; exact h), rfl⟩
  · rintro ⟨s, hs, rfl⟩
    have hs := (rgLMem hR).1 hs
    rw [renLv hf hok (hR s hs)]
    exact hs
theorem renDe (hf : PerOk f) (hc : cfE C = 0) (hk : k < C.length) : deB (renC C f) k = deB C k := by
  have hok := cfOk hc
  unfold deB
  rw [getDAt (by rw [renCLen]; exact hk), getDAt hk, renCAt hk]
  have hch := hok.chk C[k] (List.getElem_mem hk)
  obtain ⟨h1, h2⟩ := renDf hf.map hch
  rw [h1]
  have ho : (C[k].ren f).op = C[k].op := rfl
  rw [ho]
  cases hd : C[k].dfB with
  | false => rfl
  | true => rw [h2 hd, renAny hf hok (dfRg hok hk hd)]
theorem renDeR (hf : PerOk f) (hc : cfE C = 0) : deR (renC C f) = deR C := by
  unfold deR
  rw [if_pos hc, if_pos (renCE hf.map hc), renCLen]
  unfold deL
  congr 1
  exact List.filter_congr fun x hx => renDe hf hc (List.mem_range.1 hx)
theorem rgNodup {S : Int → Bool} : (rgL S).Nodup := (rgLSrt (T := S)).imp fun h => by omega
theorem renRowLen (hf : PerOk f) (hc : cfE C = 0) : (rgL (lvB (renC C f) ex k)).length = (rgL (lvB C ex k)).length := by
  have hok := cfOk hc
  have hok' := cfOk (renCE hf.map hc)
  have hR : Regs (lvB C ex k) := fun r h => lvRg hok h
  have hR' : Regs (lvB (renC C f) ex k) := fun r h => lvRg hok' h
  have hn : ((rgL (lvB C ex k)).map f).Nodup := by
    refine List.Pairwise.map f (fun a b h => h) ?_
    refine List.Pairwise.imp_of_mem (fun {a b} ha hb h e => ?_) (rgNodup (S := lvB C ex k))
    exact h (hf.inj a b (hR a ((rgLMem hR).1 ha)) (hR b ((rgLMem hR).1 hb)) e)
  have hp : (rgL (lvB (renC C f) ex k)).Perm ((rgL (lvB C ex k)).map f) := (List.perm_ext_iff_of_nodup rgNodup hn).2 fun x => by
    rw [renRow hf hc, memMk]
  rw [hp.length_eq, List.length_map]
theorem mxCongr {a b : List (List Int)} (h : ∀ k, (a.getD k []).length = (b.getD k []).length) : ∀ k, mxL a k = mxL b k
  | 0 => rfl
  | k + 1 => by unfold mxL; rw [mxCongr h k, h k]
theorem beAt {C : List I8} {k : Nat} : ((beL C).getD k []).length = if k < C.length then (rgL (lvB C false k)).length else 0 := by
  unfold beL
  by_cases h : k < C.length
  · rw [if_pos h, List.getD, List.getElem?_map, List.getElem?_range h]
    rfl
  · rw [if_neg h, List.getD, List.getElem?_map, List.getElem?_eq_none (by simpa using h)]
    rfl
theorem renPr (hf : PerOk f) (hc : cfE C = 0) : prR (renC C f) = prR C := by
  unfold prR beR
  rw [if_pos hc, if_pos (renCE hf.map hc)]
  have hl : (beL (renC C f)).length = (beL C).length := by unfold beL; rw [List.length_map, List.length_map, List.length_range, List.length_range, renCLen]
  rw [hl]
  congr 1
  refine mxCongr (fun k => ?_) _
  rw [beAt, beAt, renCLen]
  split
  · exact renRowLen hf hc
  · rfl
end
end Go.Proofs.YtkanamdfjegcbaaDoor
