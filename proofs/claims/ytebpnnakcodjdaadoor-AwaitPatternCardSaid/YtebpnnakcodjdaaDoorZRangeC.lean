/-
  A range over a closure: what it captured stands behind yield. What the loop's own walk owes: one walk of its body.
-/
import Derived.RangeFuncNested
import Derived.RangeFuncBound
import Derived.RangeFuncCalls
import Derived.RangeFuncLeaves
namespace Go.Proofs.YtebpnnakcodjdaaDoor
open Go Go.RowKit

variable {F : Fence} {n : Nat} {P : Program}
/-- The function gf, called with bd and yield, calls yield for the elements of a list in order, till a round says that no more is wanted. -/
def SeqC {α : Type} (F : Fence) (n : Nat) (P : Program) (gf : Nat) (lb : Array Value) (encs : α → Array Value) (Kp : World → World → Prop) (L : List α) (w : World) : Prop :=
  ∀ (l : Nat) (J Jx : List α → World → Prop) (W : World), Below w.heap.size w W → AbidesFrom W.heap.size J → AbidesFrom W.heap.size Jx →
    (∀ pre x post W1, L = pre ++ x :: post → J pre W1 → YieldAt F (n - 1) P l (encs x) W1 fun e W' => (e = .returned (.bool true) ∧ J (pre ++ [x]) W' ∧ Kp W1 W') ∨ (e = .returned (.bool false) ∧ Jx (pre ++ [x]) W')) →
    J [] W → CallsIn F n P gf (#[.func (.yield l) #[] #[]] ++ lb) W fun e W' => (∃ v, e = .returned v) ∧ (J L W' ∨ ∃ pre, Jx pre W')

theorem rangeClos {α : Type} {g : Operand} {ps : Array Tmp} {assign body : Code} {Q : Exit → Act → World → Prop} {a : Act} {w : World}
    (hro : F.round = none) (h1 : 1 ≤ n) {gf : Nat} {lb : Array Value} (hg : a.eval g = .func (.func gf) #[] lb) (hFg : F.fn gf) (eg : ∀ args w, (callFunc gf args).run P w = .ok (.enter gf args) w)
    {encs : α → Array Value} {Kp : World → World → Prop} {L : List α} {w0 : World} (hseq : SeqC F (n - 1) P gf lb encs Kp L w0)
    (hKt : ∀ {A B C : World}, Kp A B → Kp B C → Kp A C) (hKb : ∀ (W : World) (l : Nat) (o o' : Obj), w.heap.size ≤ l → W.heap[l]? = some o → o.isCells = false → o.isWalk = false → Kp W (W.putObj l o'))
    (hb0 : Below w0.heap.size w0 w) (hps : ∀ x, (encs x).size = ps.size)
    (I : List α → World → Prop) (Ix : Code → List α → World → Prop) (hI : OwnFrom w.heap.size I) (hIx : ∀ c, OwnFrom w.heap.size (Ix c)) (h0 : I [] w) (a₁ : World → α → Act) (m : α → World → World) (hm : ∀ (x : α) (W : World), W.grownBy (m x W) none) (hKm : ∀ (x : α) (W : World), Kp W (m x W))
    (hassign : ∀ (l : Nat) (x : α) (W : World) (K : Act → World → Prop), K (a₁ W x) (m x W) →
      assign.wpIn (F.inRound l) (n - 1 - 1) P (Exit.then K (fun _ _ _ => False)) { tmps := (ps.zip (encs x)).foldl (fun t (p, v) => t.setIfInBounds p v) a.tmps, defers := [] } W)
    (hbody : ∀ (l : Nat) (pre : List α) (x : α) (post : List α) (W U : World), L = pre ++ x :: post → I pre U → w.heap.size ≤ l → l < W.heap.size → (∃ r, U = (m x W).putObj l (.loop r)) → body.wpIn (F.inRound l) (n - 1 - 1) P (ownPostG w.heap.size Kp I Ix (pre ++ [x]) U) (a₁ W x) U)
    (hdone : ∀ (D : Nat) (W : World), w.heap.size ≤ D → I L W → W.heap[D]? = some (.deferred (some [])) → Q .normal { a with defers := { target := .collected D, args := #[] } :: a.defers } W)
    (hstop : ∀ (D : Nat) (c : Code) (pre : List α) (W : World), w.heap.size ≤ D → Ix c pre W → W.heap[D]? = some (.deferred (some [])) → c.wpIn F n P Q { a with defers := { target := .collected D, args := #[] } :: a.defers } W) :
    (Code.rangeFunc g ps assign body).wpIn F n P Q a w := by
  refine wpIn_rangeFunc fun fn hfn => ?_
  rw [hro]
  -- the loop's record, by its state and its pending jump
  let R : LoopState → Option Code → Loop := fun st pe => { state := st, pending := pe, fn, tmps := a.tmps, params := ps, assign, body, defers := w.heap.size }
  have hsz : ((w.alloc (.deferred (some []))).alloc (.loop (R .ready none))).heap.size = w.heap.size + 2 := by simp
  have hLoop : ((w.alloc (.deferred (some []))).alloc (.loop (R .ready none))).heap[w.heap.size + 1]? = some (.loop (R .ready none)) := by
    have := World.alloc_heap_new (w.alloc (.deferred (some []))) (.loop (R .ready none))
    rwa [World.size_alloc] at this
  have hDef : ((w.alloc (.deferred (some []))).alloc (.loop (R .ready none))).heap[w.heap.size]? = some (.deferred (some [])) :=
    (Below.heap_alloc _ _ _ (by simp)).trans (World.alloc_heap_new w _)
  have hIn : I [] ((w.alloc (.deferred (some []))).alloc (.loop (R .ready none))) := hI.alloc _ (hI.alloc _ h0)
  have hbe : Below w0.heap.size w0 ((w.alloc (.deferred (some []))).alloc (.loop (R .ready none))) :=
    hb0.trans ((((Below.refl _ w).alloc (Nat.le_refl _) _).alloc (by simp) _).mono hb0.size)
  obtain ⟨V, hV⟩ : ∃ V, (w.alloc (.deferred (some []))).alloc (.loop (R .ready none)) = V := ⟨_, rfl⟩
  rw [hV] at hsz hLoop hDef hIn hbe
  refine ⟨w.heap.size + 1, [{ target := .collected w.heap.size, args := #[] }], V, { target := .fn (.func gf) lb, args := #[.func (.yield (w.heap.size + 1)) #[] #[]] }, V, gf, #[.func (.yield (w.heap.size + 1)) #[] #[]] ++ lb, V, ?_, ?_, ?_, ?_, fun _ => h1, ?_⟩
  · rw [← hV]; exact run_enterLoop_outer _ _ _ _ _
  · simp only [resolve, hg]
    simp [go_sem]
  · intro f' hf'
    simp [Target.leads] at hf'
    subst hf'; exact hFg
  · simp [invoke, go_sem, eg]
  have hfin : ∀ (W : World) (jump : Option Code), W.heap[w.heap.size + 1]? = some (.loop (R .busy none)) → (Instr.endRound (w.heap.size + 1) jump).run P W = .ok (.bool jump.isNone) (W.putObj (w.heap.size + 1) (.loop (R (if jump.isNone then .ready else .done) jump))) := fun W jump h => run_endRound jump h
  have hnw : ∀ {A : World} {row : Option Nat}, (∀ r, row = some r → V.heap.size ≤ r ∧ ∃ o : Obj, A.heap[r]? = some o ∧ o.isWalk = true) → ∀ r, row = some r → w.heap.size ≤ r ∧ ∃ o : Obj, A.heap[r]? = some o ∧ o.isCells = false := fun hr r e => by
    obtain ⟨hB, o, ho, hw⟩ := hr r e
    exact ⟨by omega, o, ho, Obj.not_cells_of_walk hw⟩
  have hkeep : ∀ {A B : World} {row : Option Nat} {k : Nat} {o : Obj}, A.grownBy B row → (∀ r, row = some r → V.heap.size ≤ r ∧ ∃ o : Obj, A.heap[r]? = some o ∧ o.isWalk = true) → A.heap[k]? = some o → o.isWalk = false → B.heap[k]? = some o := fun hg' hr hk ho => (grownBy_keeps hg' (fun r e => (hr r e).2) hk ho).trans hk
  refine (hseq (w.heap.size + 1)
    (fun pre W => I pre W ∧ W.heap[w.heap.size + 1]? = some (.loop (R .ready none)) ∧ W.heap[w.heap.size]? = some (.deferred (some [])))
    (fun pre W => ∃ c, Ix c pre W ∧ W.heap[w.heap.size + 1]? = some (.loop (R .done (some c))) ∧ W.heap[w.heap.size]? = some (.deferred (some [])))
    V hbe (fun s A B row hs hg' hr => ⟨hI s A B row hs.1 hg' (hnw hr), hkeep hg' hr hs.2.1 rfl, hkeep hg' hr hs.2.2 rfl⟩)
    (fun s A B row hs hg' hr => by
      obtain ⟨c, h2, h3, h4⟩ := hs
      exact ⟨c, hIx c s A B row h2 hg' (hnw hr), hkeep hg' hr h3 rfl, hkeep hg' hr h4 rfl⟩)
    ?_ ⟨hIn, hLoop, hDef⟩).mono ?_
  · rintro pre x post W hL ⟨hi, hl, hd⟩
    have hlt : w.heap.size + 1 < W.heap.size := (Array.getElem?_eq_some_iff.1 hl).1
    refine ⟨fn, _, assign, body, run_yield hl (hps x), roundIn_of_wpIn hfn (hassign _ x W _ ?_)⟩
    have hg := hm x W
    have hlm : (m x W).heap[w.heap.size + 1]? = some (.loop (R .ready none)) := (hg.block _ hlt (by simp)).trans hl
    have hdm : (m x W).heap[w.heap.size]? = some (.deferred (some [])) := (hg.block _ (by omega) (by simp)).trans hd
    have him : I pre (m x W) := hI pre W _ none hi hg (fun _ e => by cases e)
    have hltm : w.heap.size + 1 < (m x W).heap.size := (Array.getElem?_eq_some_iff.1 hlm).1
    refine ⟨_, run_beginRound hlm rfl, ?_⟩
    obtain ⟨U, hU⟩ : ∃ U, (m x W).putObj (w.heap.size + 1) (.loop { R .ready none with state := .busy }) = U := ⟨_, rfl⟩
    have hlU : U.heap[w.heap.size + 1]? = some (.loop (R .busy none)) := by rw [← hU]; exact World.putObj_heap_same hltm
    have hdU : U.heap[w.heap.size]? = some (.deferred (some [])) := by rw [← hU]; exact (World.putObj_heap_other (by omega)).trans hdm
    have hiU : I pre U := by rw [← hU]; exact hI.putObj _ him (by omega) hlm rfl
    have hkU : Kp W U := by rw [← hU]; exact hKt (hKm x W) (hKb _ _ _ _ (by omega) hlm rfl rfl)
    show body.wpIn (F.inRound (w.heap.size + 1)) (n - 1 - 1) P _ (a₁ W x) ((m x W).putObj (w.heap.size + 1) (.loop { R .ready none with state := .busy }))
    rw [hU]
    refine wpIn_mono (hbody _ pre x post W U hL hiU (by omega) hlt ⟨_, hU.symm⟩) ?_
    have hend : ∀ (Z : World) (jump : Option Code), KeepsFrom w.heap.size U Z →
        (Instr.endRound (w.heap.size + 1) jump).run P Z = .ok (.bool jump.isNone) (Z.putObj (w.heap.size + 1) (.loop (R (if jump.isNone then .ready else .done) jump))) ∧
        Z.heap[w.heap.size + 1]? = some (.loop (R .busy none)) ∧
        (Z.putObj (w.heap.size + 1) (.loop (R (if jump.isNone then .ready else .done) jump))).heap[w.heap.size + 1]? = some (.loop (R (if jump.isNone then .ready else .done) jump)) ∧
        (Z.putObj (w.heap.size + 1) (.loop (R (if jump.isNone then .ready else .done) jump))).heap[w.heap.size]? = some (.deferred (some [])) := fun Z jump hk => by
      have h3 := hk.same _ _ (by omega) hlU rfl
      exact ⟨hfin Z jump h3, h3, World.putObj_heap_same (Array.getElem?_eq_some_iff.1 h3).1, (World.putObj_heap_other (by omega)).trans (hk.same _ _ (Nat.le_refl _) hdU rfl)⟩
    rintro e a3 Z hp
    cases e with
    | normal =>
      obtain ⟨hk, hkp, hi3⟩ := hp
      obtain ⟨h3, h4, h5, h6⟩ := hend Z none hk
      exact ⟨_, _, h3, .inl ⟨rfl, ⟨hI.putObj _ hi3 (by omega) h4 rfl, h5, h6⟩, hKt hkU (hKt hkp (hKb _ _ _ _ (by omega) h4 rfl rfl))⟩⟩
    | ret =>
      obtain ⟨h3, h4, h5, h6⟩ := hend Z (some .ret) hp.1
      exact ⟨_, _, h3, .inr ⟨rfl, .ret, (hIx _).putObj _ hp.2 (by omega) h4 rfl, h5, h6⟩⟩
    | exit id =>
      obtain ⟨h3, h4, h5, h6⟩ := hend Z (some (.exit id)) hp.1
      exact ⟨_, _, h3, .inr ⟨rfl, .exit id, (hIx _).putObj _ hp.2 (by omega) h4 rfl, h5, h6⟩⟩
    | goto t =>
      obtain ⟨h3, h4, h5, h6⟩ := hend Z (some (.goto t)) hp.1
      exact ⟨_, _, h3, .inr ⟨rfl, .goto t, (hIx _).putObj _ hp.2 (by omega) h4 rfl, h5, h6⟩⟩
    | panic ch => exact hp.elim
    | outgrown => exact hp.elim
  · rintro e Z ⟨⟨v, rfl⟩, ⟨hi, hl, hd⟩ | ⟨pre, c, hi, hl, hd⟩⟩
    · exact ⟨none, _, run_endLoop hl (by simp [R]), hdone _ _ (Nat.le_refl _) (hI.putObj _ hi (by omega) hl rfl) ((World.putObj_heap_other (by omega)).trans hd)⟩
    · exact ⟨some c, _, run_endLoop hl (by simp [R]), hstop _ c pre _ (Nat.le_refl _) ((hIx c).putObj _ hi (by omega) hl rfl) ((World.putObj_heap_other (by omega)).trans hd)⟩
end Go.Proofs.YtebpnnakcodjdaaDoor
