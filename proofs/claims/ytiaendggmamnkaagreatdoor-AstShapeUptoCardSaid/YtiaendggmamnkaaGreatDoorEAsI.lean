/-
  A visit's push and pop, said of all that the iterator holds.
-/
import Derived.Test.YtiaendggmamnkaaGreatDoorEAsK
import Derived.Test.YtiaendggmamnkaaGreatDoorEOp
import Derived.Test.YtiaendggmamnkaaGreatDoorESq
namespace Go.Proofs.YtiaendggmamnkaaGreatDoor
open Go Go.RowKit


/-- What the iterator holds: the stack's box zb, its row, the lists Sk that it reads as (in w0), the state Jp of whoever ranges, and blocks K of its own that neither push nor pop may change. -/
structure VisCM (dx d : Nat) (w0 : World) (Fb : Nat → Prop) (zb : Nat) (Jp : (Nat → Prop) → World → Prop) (K : Nat → Prop) (Sk : List (List Sm × Nat)) (X : World) (v : Value) (Lr : List PtA) (S : Nat → Prop) : Prop where
  box : Blk X zb 213 #[v]
  row : OwnPM X (zb + 1) v Lr.reverse
  rd : StkR 9 (EM dx d) w0 Lr Sk
  j : Jp S X
  bel : Chg w0 X Fb
  sz : S zb
  own : ∀ g, v.ownBlock = some g → S g
  new : ∀ q, S q → zb ≤ q
  keep : ∀ q, K q → q ≠ zb ∧ v.ownBlock ≠ some q ∧ q < X.heap.size
section
variable {dx d : Nat} {w0 : World} {Fb : Nat → Prop} {zb : Nat} {Jp : (Nat → Prop) → World → Prop} {K : Nat → Prop} {Sk : List (List Sm × Nat)} {X : World}
/-- Any change that leaves the iterator's own blocks: the ranged body, an allocation. -/
theorem VisCM.chg {v : Value} {Lr : List PtA} {S : Nat → Prop} {Jq : (Nat → Prop) → World → Prop} {Y : World} (h : VisCM dx d w0 Fb zb Jp K Sk X v Lr S) (hc : Chg X Y S) (hb : Chg w0 Y Fb) (hj : Jq S Y) : VisCM dx d w0 Fb zb Jq K Sk Y v Lr S :=
  ⟨(hc.block _ h.box.lt h.sz).trans h.box, h.row.chg hc h.own, h.rd, hj, hb, h.sz, h.own, h.new, fun q hq => ⟨(h.keep q hq).1, (h.keep q hq).2.1, Nat.lt_of_lt_of_le (h.keep q hq).2.2 hc.size⟩⟩
/-- New blocks: they become the iterator's own. -/
theorem VisCM.grow {v : Value} {Lr : List PtA} {S : Nat → Prop} {Y : World} (hJ : AbidesS zb Jp) (h : VisCM dx d w0 Fb zb Jp K Sk X v Lr S) (hb : Below X.heap.size X Y) : VisCM dx d w0 Fb zb Jp (fun q => K q ∨ (X.heap.size ≤ q ∧ q < Y.heap.size)) Sk Y v Lr (joinS S X Y) :=
  ⟨h.box.below' hb, h.row.below hb, h.rd, hJ _ _ _ h.j (Chg.ofBelow hb _), h.bel.trans (Chg.ofBelow hb Fb) (fun _ _ h => h), .inl h.sz, fun g hg => .inl (h.own g hg), fun q hq => hq.elim (h.new q) fun hq => by have := h.box.lt; omega, fun q hq => by
    rcases hq with hq | hq
    · exact ⟨(h.keep q hq).1, (h.keep q hq).2.1, Nat.lt_of_lt_of_le (h.keep q hq).2.2 hb.size⟩
    · exact ⟨by have := h.box.lt; omega, fun e => by have := (h.row.lt e).2; omega, hq.2⟩⟩
theorem visPushM {v : Value} {Lr : List PtA} {S : Nat → Prop} (hJ : AbidesS zb Jp) (h : VisCM dx d w0 Fb zb Jp K Sk X v Lr S) (hz : w0.heap.size ≤ zb) (hf : (Tr.flat Sk).length ≤ 10000000) {A : Option Addr} {n c l : Nat} {ts : List Sm} (hn : ts.length = n) (hr : RdE 9 (EM dx d) w0 A c ts) :
    Calls Tryz.prog 171 #[.slice A n c, .int .i64 (l : Int), .pointer (some ⟨zb, 0, none⟩)] X fun e Y => e = .returned (.tuple #[]) ∧ (∃ v' Lr' S', VisCM dx d w0 Fb zb Jp K (Tr.psh ts l Sk) Y v' Lr' S') ∧ X.heap.size ≤ Y.heap.size ∧ ∀ q, K q → Y.heap[q]? = X.heap[q]? := by
  subst hn
  have hzl := h.box.lt
  have hL : Lr.reverse.length ≤ 10000000 := by rw [List.length_reverse]; exact Nat.le_trans h.rd.le hf
  refine (iPushM A ts.length c l X h.box h.row (Nat.lt_succ_self _) hzl hL).mono ?_
  rintro e Y ⟨rfl, v', hb, ho, hc, hown⟩
  obtain ⟨Lr', hs, he⟩ := h.rd.push (A := A) (c := c) (l := l) hr
  rw [he] at ho
  refine ⟨rfl, ⟨v', Lr', joinS S X Y, hb, ho, hs, hJ _ _ _ h.j (hc.mono fun q hq => ⟨fun e => hq.1 (e ▸ h.sz), fun e => hq.1 (h.own q e)⟩), ?_, .inl h.sz, ?_, ?_, ?_⟩, hc.size, fun q hq => hc.block q (h.keep q hq).2.2 ⟨(h.keep q hq).1, (h.keep q hq).2.1⟩⟩
  · exact ⟨hc.os.trans h.bel.os, hc.tape.trans h.bel.tape, hc.output.trans h.bel.output, Nat.le_trans h.bel.size hc.size, fun q hq hF => (hc.block q (Nat.lt_of_lt_of_le hq h.bel.size) ⟨show q ≠ zb by omega, fun e => by have := (h.row.lt e).1; omega⟩).trans (h.bel.block q hq hF)⟩
  · intro g hg
    rcases hown g hg with e | e
    · exact .inl (h.own g e)
    · exact .inr ⟨e, (ho.lt hg).2⟩
  · intro q hq
    rcases hq with hq | hq
    · exact h.new q hq
    · omega
  · intro q hq
    refine ⟨(h.keep q hq).1, fun e => ?_, Nat.lt_of_lt_of_le (h.keep q hq).2.2 hc.size⟩
    rcases hown q e with e | e
    · exact (h.keep q hq).2.1 e
    · have := (h.keep q hq).2.2
      omega
theorem visPopM {v : Value} {Lr : List PtA} {S : Nat → Prop} {p : PtA} (hJ : AbidesS zb Jp) (h : VisCM dx d w0 Fb zb Jp K Sk X v (p :: Lr) S) (hz : w0.heap.size ≤ zb) (hf : (Tr.flat Sk).length ≤ 10000000) :
    Calls Tryz.prog 172 #[.pointer (some ⟨zb, 0, none⟩)] X fun e Y => e = .returned (.agg #[.slice p.A p.n p.c, .int .i64 (p.l : Int)]) ∧ ∃ t r Sk' v' S', Sk = (t :: r, p.l) :: Sk' ∧ p.n = r.length + 1 ∧ RdE 9 (EM dx d) w0 p.A p.c (t :: r) ∧ VisCM dx d w0 Fb zb Jp K Sk' Y v' Lr S' ∧ X.heap.size ≤ Y.heap.size ∧ ∀ q, K q → Y.heap[q]? = X.heap[q]? := by
  have hzl := h.box.lt
  have hrow := h.row
  rw [List.reverse_cons] at hrow
  have hL : Lr.reverse.length ≤ 10000000 := by have := h.rd.le; rw [List.length_cons] at this; rw [List.length_reverse]; omega
  obtain ⟨t, r, Sk', hS, hpn, hr, hs⟩ := h.rd.next
  refine (iPopM X h.box hrow (Nat.lt_succ_self _) hL).mono ?_
  rintro e Y ⟨rfl, v', hb, ho, hc, hown⟩
  refine ⟨rfl, t, r, Sk', v', joinS S X Y, hS, hpn, hr, ⟨hb, ho, hs, hJ _ _ _ h.j (hc.mono fun q hq e => hq.1 (e ▸ h.sz)), ?_, .inl h.sz, ?_, ?_, ?_⟩, hc.size, fun q hq => hc.block q (h.keep q hq).2.2 (h.keep q hq).1⟩
  · exact ⟨hc.os.trans h.bel.os, hc.tape.trans h.bel.tape, hc.output.trans h.bel.output, Nat.le_trans h.bel.size hc.size, fun q hq hF => (hc.block q (Nat.lt_of_lt_of_le hq h.bel.size) (show q ≠ zb by omega)).trans (h.bel.block q hq hF)⟩
  · intro g hg
    exact .inl (h.own g (hown ▸ hg))
  · intro q hq
    rcases hq with hq | hq
    · exact h.new q hq
    · omega
  · intro q hq
    exact ⟨(h.keep q hq).1, hown ▸ (h.keep q hq).2.1, Nat.lt_of_lt_of_le (h.keep q hq).2.2 hc.size⟩
end


/-- What the iterator holds: the stack's box zb, its row, the lists Sk that it reads as (in w0), the state Jp of whoever ranges, and blocks K of its own that neither push nor pop may change. -/
structure VisCX (d : Nat) (w0 : World) (Fb : Nat → Prop) (zb : Nat) (Jp : (Nat → Prop) → World → Prop) (K : Nat → Prop) (Sk : List (List Ex × Nat)) (X : World) (v : Value) (Lr : List PtA) (S : Nat → Prop) : Prop where
  box : Blk X zb 204 #[v]
  row : OwnPX X (zb + 1) v Lr.reverse
  rd : StkR 5 (EX d) w0 Lr Sk
  j : Jp S X
  bel : Chg w0 X Fb
  sz : S zb
  own : ∀ g, v.ownBlock = some g → S g
  new : ∀ q, S q → zb ≤ q
  keep : ∀ q, K q → q ≠ zb ∧ v.ownBlock ≠ some q ∧ q < X.heap.size
section
variable {d : Nat} {w0 : World} {Fb : Nat → Prop} {zb : Nat} {Jp : (Nat → Prop) → World → Prop} {K : Nat → Prop} {Sk : List (List Ex × Nat)} {X : World}
/-- Any change that leaves the iterator's own blocks: the ranged body, an allocation. -/
theorem VisCX.chg {v : Value} {Lr : List PtA} {S : Nat → Prop} {Jq : (Nat → Prop) → World → Prop} {Y : World} (h : VisCX d w0 Fb zb Jp K Sk X v Lr S) (hc : Chg X Y S) (hb : Chg w0 Y Fb) (hj : Jq S Y) : VisCX d w0 Fb zb Jq K Sk Y v Lr S :=
  ⟨(hc.block _ h.box.lt h.sz).trans h.box, h.row.chg hc h.own, h.rd, hj, hb, h.sz, h.own, h.new, fun q hq => ⟨(h.keep q hq).1, (h.keep q hq).2.1, Nat.lt_of_lt_of_le (h.keep q hq).2.2 hc.size⟩⟩
/-- New blocks: they become the iterator's own. -/
theorem VisCX.grow {v : Value} {Lr : List PtA} {S : Nat → Prop} {Y : World} (hJ : AbidesS zb Jp) (h : VisCX d w0 Fb zb Jp K Sk X v Lr S) (hb : Below X.heap.size X Y) : VisCX d w0 Fb zb Jp (fun q => K q ∨ (X.heap.size ≤ q ∧ q < Y.heap.size)) Sk Y v Lr (joinS S X Y) :=
  ⟨h.box.below' hb, h.row.below hb, h.rd, hJ _ _ _ h.j (Chg.ofBelow hb _), h.bel.trans (Chg.ofBelow hb Fb) (fun _ _ h => h), .inl h.sz, fun g hg => .inl (h.own g hg), fun q hq => hq.elim (h.new q) fun hq => by have := h.box.lt; omega, fun q hq => by
    rcases hq with hq | hq
    · exact ⟨(h.keep q hq).1, (h.keep q hq).2.1, Nat.lt_of_lt_of_le (h.keep q hq).2.2 hb.size⟩
    · exact ⟨by have := h.box.lt; omega, fun e => by have := (h.row.lt e).2; omega, hq.2⟩⟩
theorem visPushX {v : Value} {Lr : List PtA} {S : Nat → Prop} (hJ : AbidesS zb Jp) (h : VisCX d w0 Fb zb Jp K Sk X v Lr S) (hz : w0.heap.size ≤ zb) (hf : (Tr.flat Sk).length ≤ 10000000) {A : Option Addr} {n c l : Nat} {ts : List Ex} (hn : ts.length = n) (hr : RdE 5 (EX d) w0 A c ts) :
    Calls Tryz.prog 165 #[.slice A n c, .int .i64 (l : Int), .pointer (some ⟨zb, 0, none⟩)] X fun e Y => e = .returned (.tuple #[]) ∧ (∃ v' Lr' S', VisCX d w0 Fb zb Jp K (Tr.psh ts l Sk) Y v' Lr' S') ∧ X.heap.size ≤ Y.heap.size ∧ ∀ q, K q → Y.heap[q]? = X.heap[q]? := by
  subst hn
  have hzl := h.box.lt
  have hL : Lr.reverse.length ≤ 10000000 := by rw [List.length_reverse]; exact Nat.le_trans h.rd.le hf
  refine (iPushX A ts.length c l X h.box h.row (Nat.lt_succ_self _) hzl hL).mono ?_
  rintro e Y ⟨rfl, v', hb, ho, hc, hown⟩
  obtain ⟨Lr', hs, he⟩ := h.rd.push (A := A) (c := c) (l := l) hr
  rw [he] at ho
  refine ⟨rfl, ⟨v', Lr', joinS S X Y, hb, ho, hs, hJ _ _ _ h.j (hc.mono fun q hq => ⟨fun e => hq.1 (e ▸ h.sz), fun e => hq.1 (h.own q e)⟩), ?_, .inl h.sz, ?_, ?_, ?_⟩, hc.size, fun q hq => hc.block q (h.keep q hq).2.2 ⟨(h.keep q hq).1, (h.keep q hq).2.1⟩⟩
  · exact ⟨hc.os.trans h.bel.os, hc.tape.trans h.bel.tape, hc.output.trans h.bel.output, Nat.le_trans h.bel.size hc.size, fun q hq hF => (hc.block q (Nat.lt_of_lt_of_le hq h.bel.size) ⟨show q ≠ zb by omega, fun e => by have := (h.row.lt e).1; omega⟩).trans (h.bel.block q hq hF)⟩
  · intro g hg
    rcases hown g hg with e | e
    · exact .inl (h.own g e)
    · exact .inr ⟨e, (ho.lt hg).2⟩
  · intro q hq
    rcases hq with hq | hq
    · exact h.new q hq
    · omega
  · intro q hq
    refine ⟨(h.keep q hq).1, fun e => ?_, Nat.lt_of_lt_of_le (h.keep q hq).2.2 hc.size⟩
    rcases hown q e with e | e
    · exact (h.keep q hq).2.1 e
    · have := (h.keep q hq).2.2
      omega
theorem visPopX {v : Value} {Lr : List PtA} {S : Nat → Prop} {p : PtA} (hJ : AbidesS zb Jp) (h : VisCX d w0 Fb zb Jp K Sk X v (p :: Lr) S) (hz : w0.heap.size ≤ zb) (hf : (Tr.flat Sk).length ≤ 10000000) :
    Calls Tryz.prog 166 #[.pointer (some ⟨zb, 0, none⟩)] X fun e Y => e = .returned (.agg #[.slice p.A p.n p.c, .int .i64 (p.l : Int)]) ∧ ∃ t r Sk' v' S', Sk = (t :: r, p.l) :: Sk' ∧ p.n = r.length + 1 ∧ RdE 5 (EX d) w0 p.A p.c (t :: r) ∧ VisCX d w0 Fb zb Jp K Sk' Y v' Lr S' ∧ X.heap.size ≤ Y.heap.size ∧ ∀ q, K q → Y.heap[q]? = X.heap[q]? := by
  have hzl := h.box.lt
  have hrow := h.row
  rw [List.reverse_cons] at hrow
  have hL : Lr.reverse.length ≤ 10000000 := by have := h.rd.le; rw [List.length_cons] at this; rw [List.length_reverse]; omega
  obtain ⟨t, r, Sk', hS, hpn, hr, hs⟩ := h.rd.next
  refine (iPopX X h.box hrow (Nat.lt_succ_self _) hL).mono ?_
  rintro e Y ⟨rfl, v', hb, ho, hc, hown⟩
  refine ⟨rfl, t, r, Sk', v', joinS S X Y, hS, hpn, hr, ⟨hb, ho, hs, hJ _ _ _ h.j (hc.mono fun q hq e => hq.1 (e ▸ h.sz)), ?_, .inl h.sz, ?_, ?_, ?_⟩, hc.size, fun q hq => hc.block q (h.keep q hq).2.2 (h.keep q hq).1⟩
  · exact ⟨hc.os.trans h.bel.os, hc.tape.trans h.bel.tape, hc.output.trans h.bel.output, Nat.le_trans h.bel.size hc.size, fun q hq hF => (hc.block q (Nat.lt_of_lt_of_le hq h.bel.size) (show q ≠ zb by omega)).trans (h.bel.block q hq hF)⟩
  · intro g hg
    exact .inl (h.own g (hown ▸ hg))
  · intro q hq
    rcases hq with hq | hq
    · exact h.new q hq
    · omega
  · intro q hq
    exact ⟨(h.keep q hq).1, hown ▸ (h.keep q hq).2.1, Nat.lt_of_lt_of_le (h.keep q hq).2.2 hc.size⟩
end

end Go.Proofs.YtiaendggmamnkaaGreatDoor
