/-
  A region that draws its order, by an invariant: what holds after any of its operations that may have been carried out, in whatever order. Without any program.
-/
import Derived.OrdersHeld
import Derived.Deep.RegionHeld
import Derived.Lib.Hide
namespace Go.Proofs.YtkanamdfjegcbaaDoor
open Go

/-- Has operation i come up? -/
def Lst (L : Array Bool) (i : Nat) : Prop := L.getD i true = true
theorem Lst.set {L : Array Bool} {i j : Nat} (h : Lst L j) : Lst (L.setIfInBounds i true) j := by
  unfold Lst at *
  by_cases hij : i = j
  · subst hij
    rcases Nat.lt_or_ge i L.size with h' | h'
    · simp [h']
    · simp [h']
  · rw [getD_set_ne true hij]; exact h
theorem Lst.self {L : Array Bool} {i : Nat} : Lst (L.setIfInBounds i true) i := by
  unfold Lst
  rcases Nat.lt_or_ge i L.size with h' | h'
  · simp [h']
  · simp [h']
theorem Lst.of {L : Array Bool} {i j : Nat} (h : Lst (L.setIfInBounds i true) j) (hij : i ≠ j) : Lst L j := by
  unfold Lst at *
  rwa [getD_set_ne true hij] at h
section
variable {P : Program} {ops : Array Oper} {Q : Exit → Act → World → Prop}
/-- Every edge leads to an operation ahead of it in the text. -/
def lowB (ops : Array Oper) : Bool := (List.range ops.size).all fun i => ((ops[i]?).map fun o => o.after.all fun e => decide (e.on < i)).getD true
theorem lowSpec (h : lowB ops = true) {i : Nat} {o : Oper} (ho : ops[i]? = some o) : ∀ e ∈ o.after, e.on < i := by
  have hi : i < ops.size := (Array.getElem?_eq_some_iff.1 ho).1
  unfold lowB at h
  rw [List.all_eq_true] at h
  have := h i (List.mem_range.2 hi)
  rw [ho] at this
  simp only [Option.map_some, Option.getD_some] at this
  intro e he
  rw [Array.all_eq_true_iff_forall_mem] at this
  exact of_decide_eq_true (this e he)
theorem allListed {md : Region.Mode} (h : lowB ops = true) {L : Array Bool} (hr : Region.ready md ops L = []) (hs : L.size = ops.size) : ∀ i, i < ops.size → Lst L i := by
  intro i
  induction i using Nat.strongRecOn with
  | ind i ih =>
    intro hi
    cases hL : L.getD i true with
    | true => exact hL
    | false =>
      exfalso
      have hm : i ∈ Region.ready md ops L := mem_ready.2 ⟨hL, ops[i], Array.getElem?_eq_getElem hi, fun e he _ => by
        have h1 := lowSpec h (Array.getElem?_eq_getElem hi) e he
        have h2 := ih e.on h1 (by omega)
        unfold Lst at h2
        have h3 : e.on < L.size := by omega
        simp [h3] at h2 ⊢
        exact h2⟩
      rw [hr] at hm
      cases hm
/-- The region by an invariant I: each operation that has not come up and whose edges lead to such as have come up keeps it. -/
theorem anyInv {md : Region.Mode} (hlow : lowB ops = true) (I : Array Bool → Act → World → Prop)
    (hstep : ∀ (L : Array Bool) (a : Act) (w : World) (i : Nat) (o : Oper), ops[i]? = some o → I L a w → ¬ Lst L i → (∀ e ∈ o.after, Region.binds md e = true → Lst L e.on) →
      ∀ K : Act → World → Prop, (∀ a' w', I (L.setIfInBounds i true) a' w' → K a' w') → if Region.wanted o (yielded ops a.tmps) = true then Oper.wp P o a w K Q else K (a.put o.dst undef) w)
    (hend : ∀ (L : Array Bool) (a : Act) (w : World), (∀ i, i < ops.size → Lst L i) → I L a w → Q .normal a w) :
    ∀ (fuel : Nat) (L : Array Bool) (a : Act) (w : World), L.size = ops.size → L.toList.count false ≤ fuel → I L a w → wpAny P md ops Q fuel L a w := by
  have hcount : ∀ (L : Array Bool) (i : Nat), L.getD i true = false → (L.setIfInBounds i true).toList.count false + 1 = L.toList.count false := by
    intro L i h
    have hi : i < L.size := by
      rcases Nat.lt_or_ge i L.size with h' | h'
      · exact h'
      · simp [h'] at h
    have hv : L.toList[i]'(by simpa using hi) = false := by simpa [hi] using h
    rw [Array.toList_setIfInBounds, List.count_set (by simpa using hi), hv]
    have hpos : 0 < L.toList.count false := List.count_pos_iff.2 (hv ▸ List.getElem_mem _)
    have e1 : (if ((false : Bool) == false) = true then 1 else 0 : Nat) = 1 := rfl
    have e2 : (if ((true : Bool) == false) = true then 1 else 0 : Nat) = 0 := rfl
    rw [e1, e2]
    omega
  intro fuel
  induction fuel with
  | zero =>
    intro L a w hs hc hI
    have hr : Region.ready md ops L = [] := by
      rcases h : Region.ready md ops L with _ | ⟨i, r⟩
      · rfl
      · exfalso
        have hm : i ∈ Region.ready md ops L := by rw [h]; simp
        have := hcount L i (mem_ready.1 hm).1
        omega
    exact ⟨hr, hend L a w (allListed hlow hr hs) hI⟩
  | succ fuel ih =>
    intro L a w hs hc hI
    refine ⟨fun hr => hend L a w (allListed hlow hr hs) hI, fun i hm => ?_⟩
    obtain ⟨h1, o, ho, h2⟩ := mem_ready.1 hm
    refine wpOp_step ho fun K hK => hstep L a w i o ho hI (by unfold Lst; rw [h1]; decide) (fun e he hb => ?_) K fun a' w' hI' => hK a' w' (ih _ a' w' (by simpa using hs) ?_ hI')
    · have := h2 e he hb
      unfold Lst
      rcases Nat.lt_or_ge e.on L.size with h' | h'
      · simp [h'] at this ⊢; exact this
      · simp [h']
    · have := hcount L i h1
      omega
/-- The beginning. -/
theorem regionInv {id : Nat} {a : Act} {w : World} (hm : P.follows .mixedOrders = true) (hlow : lowB ops = true) (I : Array Bool → Act → World → Prop) (h0 : I (Array.replicate ops.size false) a w.drew)
    (hstep : ∀ (L : Array Bool) (a : Act) (w : World) (i : Nat) (o : Oper), ops[i]? = some o → I L a w → ¬ Lst L i → (∀ e ∈ o.after, Region.binds .any e = true → Lst L e.on) →
      ∀ K : Act → World → Prop, (∀ a' w', I (L.setIfInBounds i true) a' w' → K a' w') → if Region.wanted o (yielded ops a.tmps) = true then Oper.wp P o a w K Q else K (a.put o.dst undef) w)
    (hend : ∀ (L : Array Bool) (a : Act) (w : World), (∀ i, i < ops.size → Lst L i) → I L a w → Q .normal a w) : (Code.region id ops true).wp P Q a w :=
  wp_region_any hm (anyInv hlow I hstep hend ops.size _ a _ (by simp) (by
    have : (Array.replicate ops.size false).toList.count false = ops.size := by simp
    omega) h0)
end
end Go.Proofs.YtkanamdfjegcbaaDoor
