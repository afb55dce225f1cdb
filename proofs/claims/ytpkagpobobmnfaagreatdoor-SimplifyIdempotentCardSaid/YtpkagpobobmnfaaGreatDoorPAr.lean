/-
  A region that draws its order, by an invariant: what holds after any of its operations that may have been carried out, in whatever order. Without any program.
-/
import Derived.OrdersHeld
import Derived.Deep.RegionHeld
import Derived.Lib.Hide
import Derived.RangeFuncNested
import Derived.RangeFuncBound
import Derived.RangeFuncCalls
import Derived.RangeFuncLeaves
namespace Go.Proofs.YtpkagpobobmnfaaGreatDoor
open Go

/-- Has operation i come up? -/
def Lst (L : Array Bool) (i : Nat) : Prop := L.getD i true = true
theorem Lst.set {L : Array Bool} {i j : Nat} (h : Lst L j) : Lst (L.setIfInBounds i true) j := by
  unfold Lst at *
  by_cases hij : i = j
  · subst hij
    rcases Nat.lt_or_ge i L.size with h' | h'
    · simp [h']
    · simp [h']
  · rw [getD_set_ne true hij]; exact h
theorem Lst.self {L : Array Bool} {i : Nat} : Lst (L.setIfInBounds i true) i := by
  unfold Lst
  rcases Nat.lt_or_ge i L.size with h' | h'
  · simp [h']
  · simp [h']
theorem Lst.of {L : Array Bool} {i j : Nat} (h : Lst (L.setIfInBounds i true) j) (hij : i ≠ j) : Lst L j := by
  unfold Lst at *
  rwa [getD_set_ne true hij] at h
section
variable {P : Program} {ops : Array Oper} {Q : Exit → Act → World → Prop}
/-- Every edge leads to an operation ahead of it in the text. -/
def lowB (ops : Array Oper) : Bool := (List.range ops.size).all fun i => ((ops[i]?).map fun o => o.after.all fun e => decide (e.on < i)).getD true
theorem lowSpec (h : lowB ops = true) {i : Nat} {o : Oper} (ho : ops[i]? = some o) : ∀ e ∈ o.after, e.on < i := by
  have hi : i < ops.size := (Array.getElem?_eq_some_iff.1 ho).1
  unfold lowB at h
  rw [List.all_eq_true] at h
  have := h i (List.mem_range.2 hi)
  rw [ho] at this
  simp only [Option.map_some, Option.getD_some] at this
  intro e he
  rw [Array.all_eq_true_iff_forall_mem] at this
  exact of_decide_eq_true (this e he)
theorem allListed {md : Region.Mode} (h : lowB ops = true) {L : Array Bool} (hr : Region.ready md ops L = []) (hs : L.size = ops.size) : ∀ i, i < ops.size → Lst L i := by
  intro i
  induction i using Nat.strongRecOn with
  | ind i ih =>
    intro hi
    cases hL : L.getD i true with
    | true => exact hL
    | false =>
      exfalso
      have hm : i ∈ Region.ready md ops L := mem_ready.2 ⟨hL, ops[i], Array.getElem?_eq_getElem hi, fun e he _ => by
        have h1 := lowSpec h (Array.getElem?_eq_getElem hi) e he
        have h2 := ih e.on h1 (by omega)
        unfold Lst at h2
        have h3 : e.on < L.size := by omega
        simp [h3] at h2 ⊢
        exact h2⟩
      rw [hr] at hm
      cases hm
/-- The region by an invariant I: each operation that has not come up and whose edges lead to such as have come up keeps it. -/
theorem anyInv {md : Region.Mode} (hlow : lowB ops = true) (I : Array Bool → Act → World → Prop)
    (hstep : ∀ (L : Array Bool) (a : Act) (w : World) (i : Nat) (o : Oper), ops[i]? = some o → I L a w → ¬ Lst L i → (∀ e ∈ o.after, Region.binds md e = true → Lst L e.on) →
      ∀ K : Act → World → Prop, (∀ a' w', I (L.setIfInBounds i true) a' w' → K a' w') → if Region.wanted o (yielded ops a.tmps) = true then Oper.wp P o a w K Q else K (a.put o.dst undef) w)
    (hend : ∀ (L : Array Bool) (a : Act) (w : World), (∀ i, i < ops.size → Lst L i) → I L a w → Q .normal a w) :
    ∀ (fuel : Nat) (L : Array Bool) (a : Act) (w : World), L.size = ops.size → L.toList.count false ≤ fuel → I L a w → wpAny P md ops Q fuel L a w := by
  have hcount : ∀ (L : Array Bool) (i : Nat), L.getD i true = false → (L.setIfInBounds i true).toList.count false + 1 = L.toList.count false := by
    intro L i h
    have hi : i < L.size := by
      rcases Nat.lt_or_ge i L.size with h' | h'
      · exact h'
      · simp [h'] at h
    have hv : L.toList[i]'(by simpa using hi) = false := by simpa [hi] using h
    rw [Array.toList_setIfInBounds, List.count_set (by simpa using hi), hv]
    have hpos : 0 < L.toList.count false := List.count_pos_iff.2 (hv ▸ List.getElem_mem _)
    have e1 : (if ((false : Bool) == false) = true then 1 else 0 : Nat) = 1 := rfl
    have e2 : (if ((true : Bool) == false) = true then 1 else 0 : Nat) = 0 := rfl
    rw [e1, e2]
    omega
  intro fuel
  induction fuel with
  | zero =>
    intro L a w hs hc hI
    have hr : Region.ready md ops L = [] := by
      rcases h : Region.ready md ops L with _ | ⟨i, r⟩
      · rfl
      · exfalso
        have hm : i ∈ Region.ready md ops L := by rw [h]; simp
        have := hcount L i (mem_ready.1 hm).1
        omega
    exact ⟨hr, hend L a w (allListed hlow hr hs) hI⟩
  | succ fuel ih =>
    intro L a w hs hc hI
    refine ⟨fun hr => hend L a w (allListed hlow hr hs) hI, fun i hm => ?_⟩
    obtain ⟨h1, o, ho, h2⟩ := mem_ready.1 hm
    refine wpOp_step ho fun K hK => hstep L a w i o ho hI (by unfold Lst; rw [h1]; decide) (fun e he hb => ?_) K fun a' w' hI' => hK a' w' (ih _ a' w' (by simpa using hs) ?_ hI')
    · have := h2 e he hb
      unfold Lst
      rcases Nat.lt_or_ge e.on L.size with h' | h'
      · simp [h'] at this ⊢; exact this
      · simp [h']
    · have := hcount L i h1
      omega
/-- The beginning. -/
theorem regionInv {id : Nat} {a : Act} {w : World} (hm : P.follows .mixedOrders = true) (hlow : lowB ops = true) (I : Array Bool → Act → World → Prop) (h0 : I (Array.replicate ops.size false) a w.drew)
    (hstep : ∀ (L : Array Bool) (a : Act) (w : World) (i : Nat) (o : Oper), ops[i]? = some o → I L a w → ¬ Lst L i → (∀ e ∈ o.after, Region.binds .any e = true → Lst L e.on) →
      ∀ K : Act → World → Prop, (∀ a' w', I (L.setIfInBounds i true) a' w' → K a' w') → if Region.wanted o (yielded ops a.tmps) = true then Oper.wp P o a w K Q else K (a.put o.dst undef) w)
    (hend : ∀ (L : Array Bool) (a : Act) (w : World), (∀ i, i < ops.size → Lst L i) → I L a w → Q .normal a w) : (Code.region id ops true).wp P Q a w :=
  wp_region_any hm (anyInv hlow I hstep hend ops.size _ a _ (by simp) (by
    have : (Array.replicate ops.size false).toList.count false = ops.size := by simp
    omega) h0)
end
end Go.Proofs.YtpkagpobobmnfaaGreatDoor

namespace Go.Proofs.YtpkagpobobmnfaaGreatDoor
open Go Go.RowKit

variable {F : Fence} {n : Nat} {P : Program}
/-- The function gf, called with bd and yield, calls yield for the elements of a list in order, till a round says that no more is wanted. -/
def SeqC {α : Type} (F : Fence) (n : Nat) (P : Program) (gf : Nat) (lb : Array Value) (encs : α → Array Value) (Kp : World → World → Prop) (L : List α) (w : World) : Prop :=
  ∀ (l : Nat) (J Jx : List α → World → Prop) (W : World), Below w.heap.size w W → AbidesFrom W.heap.size J → AbidesFrom W.heap.size Jx →
    (∀ pre x post W1, L = pre ++ x :: post → J pre W1 → YieldAt F (n - 1) P l (encs x) W1 fun e W' => (e = .returned (.bool true) ∧ J (pre ++ [x]) W' ∧ Kp W1 W') ∨ (e = .returned (.bool false) ∧ Jx (pre ++ [x]) W')) →
    J [] W → CallsIn F n P gf (#[.func (.yield l) #[] #[]] ++ lb) W fun e W' => (∃ v, e = .returned v) ∧ (J L W' ∨ ∃ pre, Jx pre W')

theorem rangeClos {α : Type} {g : Operand} {ps : Array Tmp} {assign body : Code} {Q : Exit → Act → World → Prop} {a : Act} {w : World}
    (hro : F.round = none) (h1 : 1 ≤ n) {gf : Nat} {lb : Array Value} (hg : a.eval g = .func (.func gf) #[] lb) (hFg : F.fn gf) (eg : ∀ args w, (callFunc gf args).run P w = .ok (.enter gf args) w)
    {encs : α → Array Value} {Kp : World → World → Prop} {L : List α} {w0 : World} (hseq : SeqC F (n - 1) P gf lb encs Kp L w0)
    (hKt : ∀ {A B C : World}, Kp A B → Kp B C → Kp A C) (hKb : ∀ (W : World) (l : Nat) (o o' : Obj), w.heap.size ≤ l → W.heap[l]? = some o → o.isCells = false → o.isWalk = false → Kp W (W.putObj l o'))
    (hb0 : Below w0.heap.size w0 w) (hps : ∀ x, (encs x).size = ps.size)
    (I : List α → World → Prop) (Ix : Code → List α → World → Prop) (hI : OwnFrom w.heap.size I) (hIx : ∀ c, OwnFrom w.heap.size (Ix c)) (h0 : I [] w) (a₁ : World → α → Act) (m : α → World → World) (hm : ∀ (x : α) (W : World), W.grownBy (m x W) none) (hKm : ∀ (x : α) (W : World), Kp W (m x W))
    (hassign : ∀ (l : Nat) (x : α) (W : World) (K : Act → World → Prop), K (a₁ W x) (m x W) →
      assign.wpIn (F.inRound l) (n - 1 - 1) P (Exit.then K (fun _ _ _ => False)) { tmps := (ps.zip (encs x)).foldl (fun t (p, v) => t.setIfInBounds p v) a.tmps, defers := [] } W)
    (hbody : ∀ (l : Nat) (pre : List α) (x : α) (post : List α) (W U : World), L = pre ++ x :: post → I pre U → w.heap.size ≤ l → l < W.heap.size → (∃ r, U = (m x W).putObj l (.loop r)) → body.wpIn (F.inRound l) (n - 1 - 1) P (ownPostG w.heap.size Kp I Ix (pre ++ [x]) U) (a₁ W x) U)
    (hdone : ∀ (D : Nat) (W : World), w.heap.size ≤ D → I L W → W.heap[D]? = some (.deferred (some [])) → Q .normal { a with defers := { target := .collected D, args := #[] } :: a.defers } W)
    (hstop : ∀ (D : Nat) (c : Code) (pre : List α) (W : World), w.heap.size ≤ D → Ix c pre W → W.heap[D]? = some (.deferred (some [])) → c.wpIn F n P Q { a with defers := { target := .collected D, args := #[] } :: a.defers } W) :
    (Code.rangeFunc g ps assign body).wpIn F n P Q a w := by
  refine wpIn_rangeFunc fun fn hfn => ?_
  rw [hro]
  -- the loop's record, by its state and its pending jump
  let R : LoopState → Option Code → Loop := fun st pe => { state := st, pending := pe, fn, tmps := a.tmps, params := ps, assign, body, defers := w.heap.size }
  have hsz : ((w.alloc (.deferred (some []))).alloc (.loop (R .ready none))).heap.size = w.heap.size + 2 := by simp
  have hLoop : ((w.alloc (.deferred (some []))).alloc (.loop (R .ready none))).heap[w.heap.size + 1]? = some (.loop (R .ready none)) := by
    have := World.alloc_heap_new (w.alloc (.deferred (some []))) (.loop (R .ready none))
    rwa [World.size_alloc] at this
  have hDef : ((w.alloc (.deferred (some []))).alloc (.loop (R .ready none))).heap[w.heap.size]? = some (.deferred (some [])) :=
    (Below.heap_alloc _ _ _ (by simp)).trans (World.alloc_heap_new w _)
  have hIn : I [] ((w.alloc (.deferred (some []))).alloc (.loop (R .ready none))) := hI.alloc _ (hI.alloc _ h0)
  have hbe : Below w0.heap.size w0 ((w.alloc (.deferred (some []))).alloc (.loop (R .ready none))) :=
    hb0.trans ((((Below.refl _ w).alloc (Nat.le_refl _) _).alloc (by simp) _).mono hb0.size)
  obtain ⟨V, hV⟩ : ∃ V, (w.alloc (.deferred (some []))).alloc (.loop (R .ready none)) = V := ⟨_, rfl⟩
  rw [hV] at hsz hLoop hDef hIn hbe
  refine ⟨w.heap.size + 1, [{ target := .collected w.heap.size, args := #[] }], V, { target := .fn (.func gf) lb, args := #[.func (.yield (w.heap.size + 1)) #[] #[]] }, V, gf, #[.func (.yield (w.heap.size + 1)) #[] #[]] ++ lb, V, ?_, ?_, ?_, ?_, fun _ => h1, ?_⟩
  · rw [← hV]; exact run_enterLoop_outer _ _ _ _ _
  · simp only [resolve, hg]
    simp [go_sem]
  · intro f' hf'
    simp [Target.leads] at hf'
    subst hf'; exact hFg
  · simp [invoke, go_sem, eg]
  have hfin : ∀ (W : World) (jump : Option Code), W.heap[w.heap.size + 1]? = some (.loop (R .busy none)) → (Instr.endRound (w.heap.size + 1) jump).run P W = .ok (.bool jump.isNone) (W.putObj (w.heap.size + 1) (.loop (R (if jump.isNone then .ready else .done) jump))) := fun W jump h => run_endRound jump h
  have hnw : ∀ {A : World} {row : Option Nat}, (∀ r, row = some r → V.heap.size ≤ r ∧ ∃ o : Obj, A.heap[r]? = some o ∧ o.isWalk = true) → ∀ r, row = some r → w.heap.size ≤ r ∧ ∃ o : Obj, A.heap[r]? = some o ∧ o.isCells = false := fun hr r e => by
    obtain ⟨hB, o, ho, hw⟩ := hr r e
    exact ⟨by omega, o, ho, Obj.not_cells_of_walk hw⟩
  have hkeep : ∀ {A B : World} {row : Option Nat} {k : Nat} {o : Obj}, A.grownBy B row → (∀ r, row = some r → V.heap.size ≤ r ∧ ∃ o : Obj, A.heap[r]? = some o ∧ o.isWalk = true) → A.heap[k]? = some o → o.isWalk = false → B.heap[k]? = some o := fun hg' hr hk ho => (grownBy_keeps hg' (fun r e => (hr r e).2) hk ho).trans hk
  refine (hseq (w.heap.size + 1)
    (fun pre W => I pre W ∧ W.heap[w.heap.size + 1]? = some (.loop (R .ready none)) ∧ W.heap[w.heap.size]? = some (.deferred (some [])))
    (fun pre W => ∃ c, Ix c pre W ∧ W.heap[w.heap.size + 1]? = some (.loop (R .done (some c))) ∧ W.heap[w.heap.size]? = some (.deferred (some [])))
    V hbe (fun s A B row hs hg' hr => ⟨hI s A B row hs.1 hg' (hnw hr), hkeep hg' hr hs.2.1 rfl, hkeep hg' hr hs.2.2 rfl⟩)
    (fun s A B row hs hg' hr => by
      obtain ⟨c, h2, h3, h4⟩ := hs
      exact ⟨c, hIx c s A B row h2 hg' (hnw hr), hkeep hg' hr h3 rfl, hkeep hg' hr h4 rfl⟩)
    ?_ ⟨hIn, hLoop, hDef⟩).mono ?_
  · rintro pre x post W hL ⟨hi, hl, hd⟩
    have hlt : w.heap.size + 1 < W.heap.size := (Array.getElem?_eq_some_iff.1 hl).1
    refine ⟨fn, _, assign, body, run_yield hl (hps x), roundIn_of_wpIn hfn (hassign _ x W _ ?_)⟩
    have hg := hm x W
    have hlm : (m x W).heap[w.heap.size + 1]? = some (.loop (R .ready none)) := (hg.block _ hlt (by simp)).trans hl
    have hdm : (m x W).heap[w.heap.size]? = some (.deferred (some [])) := (hg.block _ (by omega) (by simp)).trans hd
    have him : I pre (m x W) := hI pre W _ none hi hg (fun _ e => by cases e)
    have hltm : w.heap.size + 1 < (m x W).heap.size := (Array.getElem?_eq_some_iff.1 hlm).1
    refine ⟨_, run_beginRound hlm rfl, ?_⟩
    obtain ⟨U, hU⟩ : ∃ U, (m x W).putObj (w.heap.size + 1) (.loop { R .ready none with state := .busy }) = U := ⟨_, rfl⟩
    have hlU : U.heap[w.heap.size + 1]? = some (.loop (R .busy none)) := by rw [← hU]; exact World.putObj_heap_same hltm
    have hdU : U.heap[w.heap.size]? = some (.deferred (some [])) := by rw [← hU]; exact (World.putObj_heap_other (by omega)).trans hdm
    have hiU : I pre U := by rw [← hU]; exact hI.putObj _ him (by omega) hlm rfl
    have hkU : Kp W U := by rw [← hU]; exact hKt (hKm x W) (hKb _ _ _ _ (by omega) hlm rfl rfl)
    show body.wpIn (F.inRound (w.heap.size + 1)) (n - 1 - 1) P _ (a₁ W x) ((m x W).putObj (w.heap.size + 1) (.loop { R .ready none with state := .busy }))
    rw [hU]
    refine wpIn_mono (hbody _ pre x post W U hL hiU (by omega) hlt ⟨_, hU.symm⟩) ?_
    have hend : ∀ (Z : World) (jump : Option Code), KeepsFrom w.heap.size U Z →
        (Instr.endRound (w.heap.size + 1) jump).run P Z = .ok (.bool jump.isNone) (Z.putObj (w.heap.size + 1) (.loop (R (if jump.isNone then .ready else .done) jump))) ∧
        Z.heap[w.heap.size + 1]? = some (.loop (R .busy none)) ∧
        (Z.putObj (w.heap.size + 1) (.loop (R (if jump.isNone then .ready else .done) jump))).heap[w.heap.size + 1]? = some (.loop (R (if jump.isNone then .ready else .done) jump)) ∧
        (Z.putObj (w.heap.size + 1) (.loop (R (if jump.isNone then .ready else .done) jump))).heap[w.heap.size]? = some (.deferred (some [])) := fun Z jump hk => by
      have h3 := hk.same _ _ (by omega) hlU rfl
      exact ⟨hfin Z jump h3, h3, World.putObj_heap_same (Array.getElem?_eq_some_iff.1 h3).1, (World.putObj_heap_other (by omega)).trans (hk.same _ _ (Nat.le_refl _) hdU rfl)⟩
    rintro e a3 Z hp
    cases e with
    | normal =>
      obtain ⟨hk, hkp, hi3⟩ := hp
      obtain ⟨h3, h4, h5, h6⟩ := hend Z none hk
      exact ⟨_, _, h3, .inl ⟨rfl, ⟨hI.putObj _ hi3 (by omega) h4 rfl, h5, h6⟩, hKt hkU (hKt hkp (hKb _ _ _ _ (by omega) h4 rfl rfl))⟩⟩
    | ret =>
      obtain ⟨h3, h4, h5, h6⟩ := hend Z (some .ret) hp.1
      exact ⟨_, _, h3, .inr ⟨rfl, .ret, (hIx _).putObj _ hp.2 (by omega) h4 rfl, h5, h6⟩⟩
    | exit id =>
      obtain ⟨h3, h4, h5, h6⟩ := hend Z (some (.exit id)) hp.1
      exact ⟨_, _, h3, .inr ⟨rfl, .exit id, (hIx _).putObj _ hp.2 (by omega) h4 rfl, h5, h6⟩⟩
    | goto t =>
      obtain ⟨h3, h4, h5, h6⟩ := hend Z (some (.goto t)) hp.1
      exact ⟨_, _, h3, .inr ⟨rfl, .goto t, (hIx _).putObj _ hp.2 (by omega) h4 rfl, h5, h6⟩⟩
    | panic ch => exact hp.elim
    | outgrown => exact hp.elim
  · rintro e Z ⟨⟨v, rfl⟩, ⟨hi, hl, hd⟩ | ⟨pre, c, hi, hl, hd⟩⟩
    · exact ⟨none, _, run_endLoop hl (by simp [R]), hdone _ _ (Nat.le_refl _) (hI.putObj _ hi (by omega) hl rfl) ((World.putObj_heap_other (by omega)).trans hd)⟩
    · exact ⟨some c, _, run_endLoop hl (by simp [R]), hstop _ c pre _ (Nat.le_refl _) ((hIx c).putObj _ hi (by omega) hl rfl) ((World.putObj_heap_other (by omega)).trans hd)⟩
end Go.Proofs.YtpkagpobobmnfaaGreatDoor
