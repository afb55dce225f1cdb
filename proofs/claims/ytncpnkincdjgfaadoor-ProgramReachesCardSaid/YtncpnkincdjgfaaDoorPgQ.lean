/-
  Words for Reachable: the set that it has found so far lies in a box of its own; the marks that ranges over a function leave behind.
-/
import Derived.Test.YtncpnkincdjgfaaDoorPgY
import Derived.Test.YtncpnkincdjgfaaDoorPgP
import Derived.Test.YtncpnkincdjgfaaDoorMkOps
namespace Go.Proofs.YtncpnkincdjgfaaDoor
open Go Go.RowKit Go.Shelf
attribute [local go_sem] Oper.semAt_some

/-- The set of what has been reached, its box q, the program's box b. -/
structure RS (w0 : World) (b q : Nat) (a : PgA) (S : List Int) (W : World) : Prop where
  bel : Below w0.heap.size w0 W
  box : PBox W b a
  set : ∃ A n c, Boxed W q 45 (.slice A n c) ∧ Rd W A c S ∧ S.length = n
theorem rdBox {W : World} {A : Option Addr} {c q : Nat} {S : List Int} {B : Option Addr} {m d : Nat} (h : Rd W A c S) (hq : Boxed W q 45 (.slice B m d)) (v : Value) : Rd (W.setCell ⟨q, 0, none⟩ v) A c S :=
  ⟨Rds.le h, Rds.max h, fun hp => by
    obtain ⟨ad, e, lt, hc⟩ := Rds.at_ h hp
    refine ⟨ad, e, by simpa using lt, fun j u hu => ?_⟩
    have hcj := hc j u hu
    rw [World.cell?_setCell_other _ _ _ _ fun e => ?_]
    · exact hcj
    · rw [← e, hq.cell] at hcj
      have hu' : u ∈ iv S := List.mem_of_getElem? hu
      unfold iv at hu'
      obtain ⟨z, _, rfl⟩ := List.mem_map.1 hu'
      cases hcj⟩
theorem RS.put {w0 W : World} {b q : Nat} {a : PgA} {S S' : List Int} (h : RS w0 b q a S W) (hq : w0.heap.size ≤ q) (hb : b ≠ q) {A : Option Addr} {n c : Nat} (hr : Rd W A c S') (hn : S'.length = n) : RS w0 b q a S' (W.setCell ⟨q, 0, none⟩ (.slice A n c)) := by
  obtain ⟨B, m, d, hx, _, _⟩ := h.set
  exact ⟨h.bel.setCell hq _, Blk.other h.box hb 0 _, A, n, c, hx.set _, rdBox hr hx _, hn⟩
theorem RS.below {w0 W W' : World} {b q : Nat} {a : PgA} {S : List Int} (h : RS w0 b q a S W) (hb : Below W.heap.size W W') : RS w0 b q a S W' := by
  obtain ⟨A, n, c, hx, hr, hn⟩ := h.set
  exact ⟨belowThen h.bel hb, h.box.below hb, A, n, c, (hb.block _ hx.lt).trans hx, hr.below hb, hn⟩
theorem RS.own {β : Type} {B : Nat} {w0 : World} {b q : Nat} {a : PgA} {S : β → List Int} (hB : w0.heap.size ≤ B) : OwnFrom B (fun s W => RS w0 b q a (S s) W) := fun s X Y row h hg hr => by
  obtain ⟨A, n, c, hx, hrd, hn⟩ := h.set
  have hrow : ∀ r, row = some r → ∃ o : Obj, X.heap[r]? = some o ∧ o.isCells = false := fun r e => (hr r e).2
  have hne : ∀ {k : Nat} {T : TypeId} {cs : Array Value} {fr : Nat × Nat}, X.heap[k]? = some (.cells cs T fr) → some k ≠ row := fun hk e => by
    obtain ⟨_, ho, hc⟩ := hrow _ e.symm
    rw [hk] at ho
    injection ho with ho
    subst ho
    cases hc
  refine ⟨⟨hg.os.trans h.bel.os, hg.tape.trans h.bel.tape, hg.output.trans h.bel.output, Nat.le_trans h.bel.size hg.size, fun k hk => (hg.block k (Nat.lt_of_lt_of_le hk h.bel.size) fun e => ?_).trans (h.bel.block k hk)⟩, (hg.block b h.box.lt (hne h.box)).trans h.box, A, n, c, (hg.block q hx.lt (hne hx)).trans hx, ?_, hn⟩
  · have := (hr k e.symm).1
    omega
  · exact ⟨Rds.le hrd, Rds.max hrd, fun hp => by
      obtain ⟨ad, e, lt, hc⟩ := Rds.at_ hrd hp
      exact ⟨ad, e, Nat.lt_of_lt_of_le lt hg.size, fun j u hu => cell_kept (hc j u hu) hg hrow⟩⟩
theorem RS.drop {w0 W : World} {b q D : Nat} {a : PgA} {S : List Int} (h : RS w0 b q a S W) (hD : w0.heap.size ≤ D) (hd : W.heap[D]? = some (.deferred (some []))) (o : Obj) : RS w0 b q a S (W.putObj D o) :=
  RS.own (β := Unit) (S := fun _ => S) (Nat.le_refl w0.heap.size) () W _ (some D) h (grownBy_putObj' W D o) fun r e => by
    injection e with e
    subst e
    exact ⟨hD, _, hd, rfl⟩
/-- The mark of a range over a function. -/
def markD (D : Nat) : Deferred := { target := .collected D, args := #[] }
/-- The blocks of the marks: each holds no call. -/
def OpenD (Ds : List Nat) (W : World) : Prop := ∀ D ∈ Ds, W.heap[D]? = some (.deferred (some []))
theorem OpenD.keep {Ds : List Nat} {W W' : World} (h : OpenD Ds W) (hk : ∀ D ∈ Ds, W'.heap[D]? = W.heap[D]?) : OpenD Ds W' := fun D hD => (hk D hD).trans (h D hD)
/-- A function that leaves with marks alone: each block is shut, then it returns. -/
theorem leaveMarks {F : Fence} {n : Nat} {P : Program} {fn : Func} {tmps : Array Value} {R : Ending → World → Prop} {K : World → Prop} {B : Nat} (hK : ∀ (W : World) (D : Nat), B ≤ D → W.heap[D]? = some (.deferred (some [])) → K W → K (W.putObj D (.deferred none)))
    (hfin : ∀ W, K W → LeavesIn F n P fn tmps R [] .returning W) : ∀ (Ds : List Nat) (W : World), Ds.Nodup → (∀ D ∈ Ds, B ≤ D) → OpenD Ds W → K W → LeavesInM F n P fn tmps R (Ds.map markD) .returning W
  | [], W, _, _, _, h => hfin W h
  | D :: Ds, W, hn, hB, ho, h => by
    rw [List.nodup_cons] at hn
    have hd := ho D (by simp)
    refine ⟨by simp, .inl ⟨D, W.putObj D (.deferred none), rfl, run_takeDeferred hd, ?_⟩⟩
    refine leaveMarks hK hfin Ds _ hn.2 (fun D' h' => hB D' (by simp [h'])) (fun D' h' => ?_) (hK W D (hB D (by simp)) hd h)
    have hne : D' ≠ D := fun e => hn.1 (e ▸ h')
    exact (World.putObj_heap_other hne).trans (ho D' (by simp [h']))
theorem lenStart {p : Prg} (h : p.chk.1 = 0) (k : Nat) : (startS (p.thr.take k)).length ≤ 8 := by
  have h8 := (chkMany h).1
  have := srtLen (n := p.funcs.length) (startSrt (p.thr.take k)) fun y hy => by
    obtain ⟨s, hs, rfl⟩ := startMem.1 hy
    have hb := chkThr h s (List.mem_of_mem_take hs)
    unfold belB at hb
    rwa [Bool.and_eq_true, decide_eq_true_iff, decide_eq_true_iff] at hb
  omega
end Go.Proofs.YtncpnkincdjgfaaDoor
