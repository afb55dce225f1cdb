/-
  A range over a method value that owns memory: between two rounds it may change the blocks of a set S that grows; the loop's own state keeps off S.
-/
import Derived.RangeFuncNested
import Derived.RangeFuncBound
import Derived.RangeFuncCalls
import Derived.RangeFuncLeaves
import Derived.Test.YtiaendggmamnkaaGreatDoorEOw
import Derived.Test.YtiaendggmamnkaaGreatDoorETrM
namespace Go.Proofs.YtiaendggmamnkaaGreatDoor
open Go Go.RowKit

variable {F : Fence} {n : Nat} {P : Program}
/-- Block q lies from B on and holds no cells. -/
def NC (A : World) (B q : Nat) : Prop := B ≤ q ∧ ∃ o : Obj, A.heap[q]? = some o ∧ o.isCells = false
/-- What S has after new blocks have joined it. -/
def joinS (S : Nat → Prop) (A B : World) : Nat → Prop := fun q => S q ∨ (A.heap.size ≤ q ∧ q < B.heap.size)
theorem joinS_same {S : Nat → Prop} {A B : World} (h : B.heap.size = A.heap.size) : joinS S A B = S := funext fun q => propext ⟨fun h1 => h1.elim id fun h2 => absurd h2.2 (by omega), Or.inl⟩
/-- The state keeps off S: it abides changes of S, of new blocks, and of what holds no cells. -/
def AbidesS (B : Nat) (J : (Nat → Prop) → World → Prop) : Prop := ∀ S A A', J S A → Chg A A' (fun q => ¬ S q ∧ ¬ NC A B q) → J (joinS S A A') A'
end Go.Proofs.YtiaendggmamnkaaGreatDoor

namespace Go.Proofs.YtiaendggmamnkaaGreatDoor
open Go Go.RowKit

variable {F : Fence} {n : Nat} {P : Program}
/-- The closure gf over lb, called with yield, calls yield for the elements of a list in order, till a round says that no more is wanted. -/
def SeqSC {α : Type} (F : Fence) (n : Nat) (P : Program) (gf : Nat) (lb : Array Value) (Arg : α → Array Value → World → Prop) (G : World → Prop) (L : List α) (w : World) : Prop :=
  ∀ (l : Nat) (J Jx : List α → (Nat → Prop) → World → Prop) (W : World), Below w.heap.size w W → (∀ p, AbidesS W.heap.size (J p)) → (∀ p, AbidesS W.heap.size (Jx p)) →
    (∀ pre x post S args W1, L = pre ++ x :: post → J pre S W1 → G W1 → Arg x args W1 → (∀ q, S q → W.heap.size ≤ q) → YieldAt F (n - 1) P l args W1 fun e W' => (G W' ∧ Chg W1 W' S ∧ KeepsFrom W.heap.size W1 W') ∧ ((e = .returned (.bool true) ∧ J (pre ++ [x]) S W') ∨ (e = .returned (.bool false) ∧ Jx (pre ++ [x]) S W'))) →
    J [] (fun _ => False) W → G W → CallsIn F n P gf (#[.func (.yield l) #[] #[]] ++ lb) W fun e W' => (∃ v, e = .returned v) ∧ G W' ∧ ((∃ S, J L S W') ∨ ∃ pre S, Jx pre S W')

end Go.Proofs.YtiaendggmamnkaaGreatDoor

namespace Go.Proofs.YtiaendggmamnkaaGreatDoor
open Go Go.RowKit

variable {F : Fence} {n : Nat} {P : Program}
theorem rangeClosSA {α : Type} {g : Operand} {ps : Array Tmp} {assign body : Code} {Q : Exit → Act → World → Prop} {a : Act} {w : World}
    (hro : F.round = none) (h1 : 1 ≤ n) {gf : Nat} {lb : Array Value} (hg : a.eval g = .func (.func gf) #[] lb) (hFg : F.fn gf) (eg : ∀ args w, (callFunc gf args).run P w = .ok (.enter gf args) w)
    {Arg : α → Array Value → World → Prop} {G : World → Prop} {L : List α} {w0 : World} (hseq : SeqSC F (n - 1) P gf lb Arg G L w0)
    (hb0 : Below w0.heap.size w0 w) (hps : ∀ x args W, Arg x args W → args.size = ps.size)
    (hG : ∀ A A', G A → Chg A A' (fun q => ¬ NC A w.heap.size q) → G A')
    (hArg : ∀ x args A A', Arg x args A → Chg A A' (fun q => ¬ NC A w.heap.size q) → Arg x args A')
    (I : List α → (Nat → Prop) → World → Prop) (Ix : Code → List α → (Nat → Prop) → World → Prop) (hI : ∀ p, AbidesS w.heap.size (I p)) (hIx : ∀ c p, AbidesS w.heap.size (Ix c p)) (h0 : I [] (fun _ => False) w) (hG0 : G w) (a₁ : World → Array Value → Act) (h₁ : Array Value → World → World) (hh : ∀ args W, Below W.heap.size W (h₁ args W))
    (hIa : ∀ pre S args W, I pre S W → I pre S (h₁ args W)) (hGa : ∀ args W, G W → G (h₁ args W)) (hArga : ∀ x args W, Arg x args W → Arg x args (h₁ args W))
    (hassign : ∀ (l : Nat) (x : α) (args : Array Value) (W : World) (K : Act → World → Prop), Arg x args W → K (a₁ W args) (h₁ args W) →
      assign.wpIn (F.inRound l) (n - 1 - 1) P (Exit.then K (fun _ _ _ => False)) { tmps := (ps.zip args).foldl (fun t (p, v) => t.setIfInBounds p v) a.tmps, defers := [] } W)
    (hbody : ∀ (l : Nat) (pre : List α) (x : α) (post : List α) (S : Nat → Prop) (args : Array Value) (W U : World), L = pre ++ x :: post → I pre S U → G U → Arg x args U → (∀ q, S q → w.heap.size ≤ q) → (∃ o, U = (h₁ args W).putObj l o) → l < W.heap.size → w.heap.size ≤ l →
      body.wpIn (F.inRound l) (n - 1 - 1) P (ownPostG w.heap.size (fun A B => G B ∧ Chg A B S) (fun p W' => I p S W') (fun c p W' => Ix c p S W' ∧ G W' ∧ Chg U W' S) (pre ++ [x]) U) (a₁ W args) U)
    (hdone : ∀ (D : Nat) (S : Nat → Prop) (W : World), w.heap.size ≤ D → I L S W → G W → W.heap[D]? = some (.deferred (some [])) → Q .normal { a with defers := { target := .collected D, args := #[] } :: a.defers } W)
    (hstop : ∀ (D : Nat) (c : Code) (pre : List α) (S : Nat → Prop) (W : World), w.heap.size ≤ D → Ix c pre S W → G W → W.heap[D]? = some (.deferred (some [])) → c.wpIn F n P Q { a with defers := { target := .collected D, args := #[] } :: a.defers } W) :
    (Code.rangeFunc g ps assign body).wpIn F n P Q a w := by
  refine wpIn_rangeFunc fun fn hfn => ?_
  rw [hro]
  let R : LoopState → Option Code → Loop := fun st pe => { state := st, pending := pe, fn, tmps := a.tmps, params := ps, assign, body, defers := w.heap.size }
  have hsz : ((w.alloc (.deferred (some []))).alloc (.loop (R .ready none))).heap.size = w.heap.size + 2 := by simp
  have hLoop : ((w.alloc (.deferred (some []))).alloc (.loop (R .ready none))).heap[w.heap.size + 1]? = some (.loop (R .ready none)) := by
    have := World.alloc_heap_new (w.alloc (.deferred (some []))) (.loop (R .ready none))
    rwa [World.size_alloc] at this
  have hDef : ((w.alloc (.deferred (some []))).alloc (.loop (R .ready none))).heap[w.heap.size]? = some (.deferred (some [])) :=
    (Below.heap_alloc _ _ _ (by simp)).trans (World.alloc_heap_new w _)
  have hwV : Below w.heap.size w ((w.alloc (.deferred (some []))).alloc (.loop (R .ready none))) := ((Below.refl _ w).alloc (Nat.le_refl _) _).alloc (by simp) _
  have hbe : Below w0.heap.size w0 ((w.alloc (.deferred (some []))).alloc (.loop (R .ready none))) := hb0.trans (hwV.mono hb0.size)
  obtain ⟨V, hV⟩ : ∃ V, (w.alloc (.deferred (some []))).alloc (.loop (R .ready none)) = V := ⟨_, rfl⟩
  rw [hV] at hsz hLoop hDef hbe hwV
  -- a change of what holds no cells
  have hput : ∀ {X : World} {o o' : Obj}, X.heap[w.heap.size + 1]? = some o → o.isCells = false → Chg X (X.putObj (w.heap.size + 1) o') (fun q => ¬ NC X w.heap.size q) := fun {X o o'} hl hc =>
    ⟨rfl, rfl, rfl, by simp, fun k _ hk => World.putObj_heap_other fun e => hk ⟨by omega, o, by rw [e]; exact hl, hc⟩⟩
  have hGV : G V := hG _ _ hG0 ⟨hwV.os, hwV.tape, hwV.output, hwV.size, fun k hk _ => hwV.block k hk⟩
  have hIV : I [] (joinS (fun _ => False) w V) V := hI [] _ _ _ h0 ⟨hwV.os, hwV.tape, hwV.output, hwV.size, fun k hk _ => hwV.block k hk⟩
  have hsamePut : ∀ {X : World} {o' : Obj}, (X.putObj (w.heap.size + 1) o').heap.size = X.heap.size := fun {X o'} => by simp
  have hIput : ∀ {T : (Nat → Prop) → World → Prop} {S : Nat → Prop} {X : World} {o o' : Obj}, AbidesS w.heap.size T → T S X → X.heap[w.heap.size + 1]? = some o → o.isCells = false → T S (X.putObj (w.heap.size + 1) o') := fun {T S X o o'} hT hs hl hc => by
    have h := hT _ _ _ hs ((hput (o' := o') hl hc).mono fun _ h => h.2)
    rwa [joinS_same hsamePut] at h
  refine ⟨w.heap.size + 1, [{ target := .collected w.heap.size, args := #[] }], V, { target := .fn (.func gf) lb, args := #[.func (.yield (w.heap.size + 1)) #[] #[]] }, V, gf, #[.func (.yield (w.heap.size + 1)) #[] #[]] ++ lb, V, ?_, ?_, ?_, ?_, fun _ => h1, ?_⟩
  · rw [← hV]; exact run_enterLoop_outer _ _ _ _ _
  · simp only [resolve, hg]
    simp [go_sem]
  · intro f' hf'
    simp [Target.leads] at hf'
    subst hf'; exact hFg
  · simp [invoke, go_sem, eg]
  have hext : ∀ (S : Nat → Prop) (A A' : World), joinS (fun q => S q ∨ (w.heap.size ≤ q ∧ q < V.heap.size)) A A' = fun q => joinS S A A' q ∨ (w.heap.size ≤ q ∧ q < V.heap.size) := fun S A A' => funext fun q => propext ⟨fun h => by
      rcases h with (h | h) | h
      · exact .inl (.inl h)
      · exact .inr h
      · exact .inl (.inr h), fun h => by
      rcases h with (h | h) | h
      · exact .inl (.inl h)
      · exact .inr h
      · exact .inl (.inr h)⟩
  have hAb : ∀ {T : (Nat → Prop) → World → Prop} (r : Obj), r.isCells = false → AbidesS w.heap.size T → AbidesS V.heap.size (fun S W => T (fun q => S q ∨ (w.heap.size ≤ q ∧ q < V.heap.size)) W ∧ W.heap[w.heap.size + 1]? = some r ∧ W.heap[w.heap.size]? = some (.deferred (some [])) ∧ ∀ q, S q → V.heap.size ≤ q) := fun {T} r hr hT S A A' hs hc => by
    obtain ⟨s1, s2, s3, s4⟩ := hs
    have hl1 : w.heap.size + 1 < A.heap.size := (Array.getElem?_eq_some_iff.1 s2).1
    have hl2 : w.heap.size < A.heap.size := by omega
    have hq : ∀ q, q < V.heap.size → ¬ S q ∧ ¬ NC A V.heap.size q := fun q hq => ⟨fun h => by have := s4 q h; omega, fun h => by have := h.1; omega⟩
    refine ⟨?_, (hc.block _ hl1 (hq _ (by omega))).trans s2, (hc.block _ hl2 (hq _ (by omega))).trans s3, fun q h => ?_⟩
    · have h := hT _ _ _ s1 (hc.mono fun q h => ⟨fun h2 => h.1 (.inl h2), fun h2 => h.2 ⟨by have := h2.1; omega, h2.2⟩⟩)
      rwa [hext] at h
    · rcases h with h | h
      · exact s4 q h
      · omega
  refine (hseq (w.heap.size + 1)
    (fun pre S W => I pre (fun q => S q ∨ (w.heap.size ≤ q ∧ q < V.heap.size)) W ∧ W.heap[w.heap.size + 1]? = some (.loop (R .ready none)) ∧ W.heap[w.heap.size]? = some (.deferred (some [])) ∧ ∀ q, S q → V.heap.size ≤ q)
    (fun pre S W => ∃ c, Ix c pre (fun q => S q ∨ (w.heap.size ≤ q ∧ q < V.heap.size)) W ∧ W.heap[w.heap.size + 1]? = some (.loop (R .done (some c))) ∧ W.heap[w.heap.size]? = some (.deferred (some [])) ∧ ∀ q, S q → V.heap.size ≤ q)
    V hbe (fun p => hAb _ rfl (hI p)) (fun p S A A' hs hc => by obtain ⟨c, hs⟩ := hs; exact ⟨c, hAb _ rfl (hIx c p) S A A' hs hc⟩)
    ?_ ⟨?_, hLoop, hDef, fun _ h => h.elim⟩ hGV).mono ?_
  · rintro pre x post S args W hL ⟨hi, hl, hd, hs⟩ hGW hA _
    have hlt : w.heap.size + 1 < W.heap.size := (Array.getElem?_eq_some_iff.1 hl).1
    refine ⟨fn, _, assign, body, run_yield hl (hps _ _ _ hA), roundIn_of_wpIn hfn (hassign _ x args W _ hA ?_)⟩
    obtain ⟨W1, hW1⟩ : ∃ W1, h₁ args W = W1 := ⟨_, rfl⟩
    have hbW1 : Below W.heap.size W W1 := hW1 ▸ hh args W
    have hi1 : I pre (fun q => S q ∨ (w.heap.size ≤ q ∧ q < V.heap.size)) W1 := hW1 ▸ hIa _ _ args _ hi
    have hG1 : G W1 := hW1 ▸ hGa args _ hGW
    have hA1 : Arg x args W1 := hW1 ▸ hArga _ args _ hA
    rw [hW1]
    have hlt2 : w.heap.size < W.heap.size := by omega
    have hl1 : W1.heap[w.heap.size + 1]? = some (.loop (R .ready none)) := (hbW1.block _ hlt).trans hl
    have hd1 : W1.heap[w.heap.size]? = some (.deferred (some [])) := (hbW1.block _ hlt2).trans hd
    have hlt1 : w.heap.size + 1 < W1.heap.size := Nat.lt_of_lt_of_le hlt hbW1.size
    refine ⟨_, run_beginRound hl1 rfl, ?_⟩
    obtain ⟨U, hU⟩ : ∃ U, W1.putObj (w.heap.size + 1) (.loop { R .ready none with state := .busy }) = U := ⟨_, rfl⟩
    have hlU : U.heap[w.heap.size + 1]? = some (.loop (R .busy none)) := by rw [← hU]; exact World.putObj_heap_same hlt1
    have hdU : U.heap[w.heap.size]? = some (.deferred (some [])) := by rw [← hU]; exact (World.putObj_heap_other (by omega)).trans hd1
    have hiU : I pre (fun q => S q ∨ (w.heap.size ≤ q ∧ q < V.heap.size)) U := by rw [← hU]; exact hIput (hI _) hi1 hl1 rfl
    have hcU1 : Chg W1 U (fun q => ¬ NC W1 w.heap.size q) := by rw [← hU]; exact hput hl1 rfl
    have hcU2 : ∀ q, q < W.heap.size → q ≠ w.heap.size + 1 → U.heap[q]? = W.heap[q]? := fun q hqs hq => by rw [← hU]; exact (World.putObj_heap_other hq).trans (hbW1.block q hqs)
    have hszU : W.heap.size ≤ U.heap.size := Nat.le_trans hbW1.size hcU1.size
    show body.wpIn (F.inRound (w.heap.size + 1)) (n - 1 - 1) P _ (a₁ W args) (W1.putObj (w.heap.size + 1) (.loop { R .ready none with state := .busy }))
    rw [hU]
    refine wpIn_mono (hbody _ pre x post _ args W U hL hiU (hG _ _ hG1 hcU1) (hArg _ _ _ _ hA1 hcU1) (fun q h => ?_) ⟨_, by rw [hW1]; exact hU.symm⟩ hlt (by omega)) ?_
    · rcases h with h | h
      · have := hs q h; omega
      · exact h.1
    have hend : ∀ (Z : World) (jump : Option Code), KeepsFrom w.heap.size U Z →
        (Instr.endRound (w.heap.size + 1) jump).run P Z = .ok (.bool jump.isNone) (Z.putObj (w.heap.size + 1) (.loop (R (if jump.isNone then .ready else .done) jump))) ∧
        Z.heap[w.heap.size + 1]? = some (.loop (R .busy none)) ∧
        (Z.putObj (w.heap.size + 1) (.loop (R (if jump.isNone then .ready else .done) jump))).heap[w.heap.size + 1]? = some (.loop (R (if jump.isNone then .ready else .done) jump)) ∧
        (Z.putObj (w.heap.size + 1) (.loop (R (if jump.isNone then .ready else .done) jump))).heap[w.heap.size]? = some (.deferred (some [])) := fun Z jump hk => by
      have h3 := hk.same _ _ (by omega) hlU rfl
      exact ⟨run_endRound jump h3, h3, World.putObj_heap_same (Array.getElem?_eq_some_iff.1 h3).1, (World.putObj_heap_other (by omega)).trans (hk.same _ _ (Nat.le_refl _) hdU rfl)⟩
    -- what a round leaves, as the callee sees it
    have hsee : ∀ (Z : World) (o' : Obj), KeepsFrom w.heap.size U Z → G Z → Chg U Z (fun q => S q ∨ (w.heap.size ≤ q ∧ q < V.heap.size)) → Z.heap[w.heap.size + 1]? = some (.loop (R .busy none)) →
        G (Z.putObj (w.heap.size + 1) o') ∧ Chg W (Z.putObj (w.heap.size + 1) o') S ∧ KeepsFrom V.heap.size W (Z.putObj (w.heap.size + 1) o') := fun Z o' hk hg hc h3 => by
      have hcz := hput (o' := o') h3 rfl
      refine ⟨hG _ _ hg hcz, ⟨hcz.os.trans (hc.os.trans (hcU1.os.trans hbW1.os)), hcz.tape.trans (hc.tape.trans (hcU1.tape.trans hbW1.tape)), hcz.output.trans (hc.output.trans (hcU1.output.trans hbW1.output)), Nat.le_trans hszU (Nat.le_trans hc.size hcz.size), fun q hq hSq => ?_⟩, ⟨Nat.le_trans hszU (Nat.le_trans hc.size hcz.size), fun k o hk2 ho hoc => ?_⟩⟩
      · have hne : q ≠ w.heap.size + 1 := by have := hs q hSq; omega
        exact (World.putObj_heap_other hne).trans ((hc.block q (Nat.lt_of_lt_of_le hq hszU) (.inl hSq)).trans (hcU2 q hq hne))
      · have hne : k ≠ w.heap.size + 1 := by omega
        exact (World.putObj_heap_other hne).trans (hk.same k o (by omega) ((hcU2 k (Array.getElem?_eq_some_iff.1 ho).1 hne).trans ho) hoc)
    rintro e a3 Z hp
    cases e with
    | normal =>
      obtain ⟨hk, ⟨hg3, hc3⟩, hi3⟩ := hp
      obtain ⟨h3, h4, h5, h6⟩ := hend Z none hk
      exact ⟨_, _, h3, hsee _ _ hk hg3 hc3 h4, .inl ⟨rfl, hIput (hI _) hi3 h4 rfl, h5, h6, hs⟩⟩
    | ret =>
      obtain ⟨hk, hi3, hg3, hc3⟩ := hp
      obtain ⟨h3, h4, h5, h6⟩ := hend Z (some .ret) hk
      exact ⟨_, _, h3, hsee _ _ hk hg3 hc3 h4, .inr ⟨rfl, .ret, hIput (hIx _ _) hi3 h4 rfl, h5, h6, hs⟩⟩
    | exit id =>
      obtain ⟨hk, hi3, hg3, hc3⟩ := hp
      obtain ⟨h3, h4, h5, h6⟩ := hend Z (some (.exit id)) hk
      exact ⟨_, _, h3, hsee _ _ hk hg3 hc3 h4, .inr ⟨rfl, .exit id, hIput (hIx _ _) hi3 h4 rfl, h5, h6, hs⟩⟩
    | goto t =>
      obtain ⟨hk, hi3, hg3, hc3⟩ := hp
      obtain ⟨h3, h4, h5, h6⟩ := hend Z (some (.goto t)) hk
      exact ⟨_, _, h3, hsee _ _ hk hg3 hc3 h4, .inr ⟨rfl, .goto t, hIput (hIx _ _) hi3 h4 rfl, h5, h6, hs⟩⟩
    | panic ch => exact hp.elim
    | outgrown => exact hp.elim
  · have e : (fun q => (fun _ => False) q ∨ (w.heap.size ≤ q ∧ q < V.heap.size)) = joinS (fun _ => False) w V := rfl
    exact hIV
  · rintro e Z ⟨⟨v, rfl⟩, hgZ, ⟨S, hi, hl, hd, hs⟩ | ⟨pre, S, c, hi, hl, hd, hs⟩⟩
    · exact ⟨none, _, run_endLoop hl (by simp [R]), hdone _ _ _ (Nat.le_refl _) (hIput (hI _) hi hl rfl) (hG _ _ hgZ (hput hl rfl)) ((World.putObj_heap_other (by omega)).trans hd)⟩
    · exact ⟨some c, _, run_endLoop hl (by simp [R]), hstop _ c pre _ _ (Nat.le_refl _) (hIput (hIx _ _) hi hl rfl) (hG _ _ hgZ (hput hl rfl)) ((World.putObj_heap_other (by omega)).trans hd)⟩
end Go.Proofs.YtiaendggmamnkaaGreatDoor

namespace Go.Proofs.YtiaendggmamnkaaGreatDoor
open Go Go.RowKit

theorem lenLeSz {β : Type} : ∀ r : List (Tr β), r.length ≤ Tr.szL r
  | [] => Nat.zero_le _
  | x :: r => by rw [Tr.szL, List.length_cons]; have := Tr.szPos x; have := lenLeSz r; omega
/-- A box of one cell has no second one. -/
theorem oneNo {w : World} {b o : Nat} {u : Value} (h : ∃ T v, w.heap[b]? = some (.cells #[v] T (0, 0))) (h1 : w.cell? ⟨b, o + 1, none⟩ = some u) : False := by
  obtain ⟨T, v, h⟩ := h
  simp [World.cell?, h] at h1
/-- What is said of the blocks below B alone. -/
def LowI (B : Nat) (T : World → Prop) : Prop := ∀ X Y : World, T X → Chg X Y (fun q => q < B) → T Y
/-- How a round may be left by one who changes nothing from B on. -/
def lowPost {α : Type} (B : Nat) (I : List α → World → Prop) (Ix : Code → List α → World → Prop) (xs : List α) (W : World) : Exit → Act → World → Prop
  | .normal, _, W' => Chg W W' (fun q => B ≤ q) ∧ I xs W'
  | .ret, _, W' => Chg W W' (fun q => B ≤ q) ∧ Ix .ret xs W'
  | .exit id, _, W' => Chg W W' (fun q => B ≤ q) ∧ Ix (.exit id) xs W'
  | .goto t, _, W' => Chg W W' (fun q => B ≤ q) ∧ Ix (.goto t) xs W'
  | .panic _, _, _ => False
  | .outgrown, _, _ => False
theorem chgKeeps {B : Nat} {X Y : World} (h : Chg X Y (fun q => B ≤ q)) : KeepsFrom B X Y := ⟨h.size, fun k _ hB hk _ => (h.block k (Array.getElem?_eq_some_iff.1 hk).1 hB).trans hk⟩
/-- The cells of an aggregate. -/
def agC : Value → Array Value
  | .agg xs => xs
  | _ => #[]
variable {P : Program}
theorem rangeLow {α : Type} {g : Operand} {ps : Array Tmp} {assign body : Code} {Q : Exit → Act → World → Prop} {a : Act} {w : World}
    {gf : Nat} {lb : Array Value} (hg : a.eval g = .func (.func gf) #[] lb) (eg : ∀ args w, (callFunc gf args).run P w = .ok (.enter gf args) w)
    {Arg : α → Array Value → Prop} {G : World → Prop} {L : List α} {w0 : World} (hseq : SeqSC Fence.wide 7 P gf lb (fun x args _ => Arg x args) G L w0) (hGL : LowI w.heap.size G)
    (hb0 : Below w0.heap.size w0 w) (hps : ∀ x args, Arg x args → args.size = ps.size)
    (I : List α → World → Prop) (Ix : Code → List α → World → Prop) (hI : ∀ p, LowI w.heap.size (I p)) (hIx : ∀ c p, LowI w.heap.size (Ix c p))
    (hIG : ∀ p X, I p X → G X) (hIxG : ∀ c p X, Ix c p X → G X) (h0 : I [] w) (a₁ : World → Array Value → Act) (h₁ : Array Value → World → World) (hh : ∀ args W, Below W.heap.size W (h₁ args W))
    (hassign : ∀ (l : Nat) (x : α) (args : Array Value) (W : World) (K : Act → World → Prop), Arg x args → K (a₁ W args) (h₁ args W) →
      assign.wpIn (Fence.wide.inRound l) 6 P (Exit.then K (fun _ _ _ => False)) { tmps := (ps.zip args).foldl (fun t (p, v) => t.setIfInBounds p v) a.tmps, defers := [] } W)
    (hbody : ∀ (l : Nat) (pre : List α) (x : α) (post : List α) (args : Array Value) (W U : World), L = pre ++ x :: post → I pre U → Arg x args → w.heap.size ≤ U.heap.size → (∃ o, U = (h₁ args W).putObj l o) → l < W.heap.size → w.heap.size ≤ l →
      body.wpIn (Fence.wide.inRound l) 6 P (lowPost w.heap.size I Ix (pre ++ [x]) U) (a₁ W args) U)
    (hdone : ∀ (D : Nat) (W : World), w.heap.size ≤ D → I L W → W.heap[D]? = some (.deferred (some [])) → Q .normal { a with defers := { target := .collected D, args := #[] } :: a.defers } W)
    (hstop : ∀ (D : Nat) (c : Code) (pre : List α) (W : World), w.heap.size ≤ D → Ix c pre W → W.heap[D]? = some (.deferred (some [])) → c.wpIn Fence.wide 8 P Q { a with defers := { target := .collected D, args := #[] } :: a.defers } W) :
    (Code.rangeFunc g ps assign body).wpIn Fence.wide 8 P Q a w := by
  have hAb : ∀ T : World → Prop, LowI w.heap.size T → AbidesS w.heap.size (fun S X => T X ∧ w.heap.size ≤ X.heap.size ∧ ∀ q, S q → w.heap.size ≤ q) := fun T hT S A A' ⟨h1, h2, h3⟩ hc =>
    ⟨hT _ _ h1 (hc.mono fun q hq => ⟨fun h => by have := h3 q h; omega, fun h => by have := h.1; omega⟩), Nat.le_trans h2 hc.size, fun q hq => hq.elim (h3 q) fun h => by omega⟩
  refine rangeClosSA (F := Fence.wide) (n := 8) rfl (by omega) hg trivial eg hseq hb0 (fun x args _ h => hps x args h) (fun A A' h hc => ?_) (fun x args A A' h _ => h)
    (fun p S X => I p X ∧ w.heap.size ≤ X.heap.size ∧ ∀ q, S q → w.heap.size ≤ q) (fun c p S X => Ix c p X ∧ w.heap.size ≤ X.heap.size ∧ ∀ q, S q → w.heap.size ≤ q) (fun p => hAb _ (hI p)) (fun c p => hAb _ (hIx c p)) ⟨h0, Nat.le_refl _, fun _ h => h.elim⟩ (hIG _ _ h0) a₁ h₁ hh (fun p S args W h => ⟨hI _ _ _ h.1 (Chg.ofBelow (hh args W) _), Nat.le_trans h.2.1 (hh args W).size, h.2.2⟩) (fun args W h => hGL _ _ h (Chg.ofBelow (hh args W) _)) (fun x args W h => h) hassign ?_
    (fun D S W hD hi _ hK => hdone D W hD hi.1 hK) (fun D c pre S W hD hi _ hK => hstop D c pre W hD hi.1 hK)
  · exact hGL _ _ h (hc.mono fun q hq hn => by have := hn.1; omega)
  · rintro l pre x post S args W U hL ⟨h1, h2, h3⟩ _ hA _ hU hlW hwl
    refine wpIn_mono (hbody l pre x post args W U hL h1 hA h2 hU hlW hwl) ?_
    rintro e a3 Z hp
    cases e with
    | normal => exact ⟨chgKeeps hp.1, ⟨hIG _ _ hp.2, hp.1.mono fun q hq => h3 q hq⟩, hp.2, Nat.le_trans h2 hp.1.size, h3⟩
    | ret => exact ⟨chgKeeps hp.1, ⟨hp.2, Nat.le_trans h2 hp.1.size, h3⟩, hIxG _ _ _ hp.2, hp.1.mono fun q hq => h3 q hq⟩
    | exit id => exact ⟨chgKeeps hp.1, ⟨hp.2, Nat.le_trans h2 hp.1.size, h3⟩, hIxG _ _ _ hp.2, hp.1.mono fun q hq => h3 q hq⟩
    | goto t => exact ⟨chgKeeps hp.1, ⟨hp.2, Nat.le_trans h2 hp.1.size, h3⟩, hIxG _ _ _ hp.2, hp.1.mono fun q hq => h3 q hq⟩
    | panic ch => exact hp.elim
    | outgrown => exact hp.elim
end Go.Proofs.YtiaendggmamnkaaGreatDoor
