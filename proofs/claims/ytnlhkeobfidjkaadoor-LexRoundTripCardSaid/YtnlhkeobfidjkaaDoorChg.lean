/-
  What a call leaves unchanged, block by block; rows that are owned stay owned. Without any program.
-/
import Derived.Test.YtnlhkeobfidjkaaDoorSl
namespace Go.Proofs.YtnlhkeobfidjkaaDoor
open Go.RowKit

/-- From w to w' the blocks of w that meet F have not changed. -/
structure Chg (w w' : World) (F : Nat → Prop) : Prop where
  os : w'.os = w.os
  tape : w'.tape = w.tape
  output : w'.output = w.output
  size : w.heap.size ≤ w'.heap.size
  block : ∀ k, k < w.heap.size → F k → w'.heap[k]? = w.heap[k]?

section
variable {a b c w w' : World} {F G : Nat → Prop}
theorem Chg.refl (w : World) (F : Nat → Prop) : Chg w w F := ⟨rfl, rfl, rfl, Nat.le_refl _, fun _ _ _ => rfl⟩
theorem Chg.trans (h : Chg a b F) (k : Chg b c G) (hG : ∀ i, i < a.heap.size → F i → G i) : Chg a c F :=
  ⟨k.os.trans h.os, k.tape.trans h.tape, k.output.trans h.output, Nat.le_trans h.size k.size, fun i hi hF => (k.block i (Nat.lt_of_lt_of_le hi h.size) (hG i hi hF)).trans (h.block i hi hF)⟩
theorem Chg.ofGrown {row : Option Nat} (h : w.grownBy w' row) (hF : ∀ k, F k → row ≠ some k) : Chg w w' F := ⟨h.os, h.tape, h.output, h.size, fun k hk hf => h.block k hk (fun e => hF k hf e.symm)⟩
theorem Chg.ofBelow (h : Below w.heap.size w w') (F : Nat → Prop) : Chg w w' F := ⟨h.os, h.tape, h.output, h.size, fun k hk _ => h.block k hk⟩
theorem Chg.below (h : Chg w w' F) (hF : ∀ k, k < w.heap.size → F k) : Below w.heap.size w w' := ⟨h.os, h.tape, h.output, h.size, fun k hk => h.block k hk (hF k hk)⟩
theorem Chg.mono (h : Chg w w' F) (hG : ∀ k, G k → F k) : Chg w w' G := ⟨h.os, h.tape, h.output, h.size, fun k hk hg => h.block k hk (hG k hg)⟩
theorem Chg.alloc (w : World) (o : Obj) (F : Nat → Prop) : Chg w (w.alloc o) F := Chg.ofBelow ((Below.refl _ w).alloc (Nat.le_refl _) o) F
theorem Chg.drewN (w : World) (n : Nat) (F : Nat → Prop) : Chg w (w.drewN n) F := Chg.ofBelow (belowN w n) F

theorem ownChg {base : Nat} {e : TypeId} {v : Value} {n : Nat} {xs : List Value} (h : w.ownsRow base e 1 v n xs) (hc : Chg w w' F) (hF : ∀ g, v.ownBlock = some g → F g) : w'.ownsRow base e 1 v n xs := by
  refine ⟨h.1, ?_⟩
  rcases h.2 with h2 | ⟨g, cap, cur, rfl, hb, hg, r⟩
  · exact .inl h2
  · exact .inr ⟨g, cap, cur, rfl, hb, (hc.block g (World.ownsRow.lt h g rfl).2 (hF g rfl)).trans hg, r⟩
theorem ownMono {base base' : Nat} {e : TypeId} {v : Value} {n : Nat} {xs : List Value} (h : w.ownsRow base e 1 v n xs) (hb : base' ≤ base) : w.ownsRow base' e 1 v n xs := by
  refine ⟨h.1, ?_⟩
  rcases h.2 with h2 | ⟨g, cap, cur, rfl, hg, r⟩
  · exact .inl h2
  · exact .inr ⟨g, cap, cur, rfl, Nat.le_trans hb hg, r⟩
theorem Rd.chg {A : Option Addr} {c : Nat} {l : List Int} (h : Rd w A c l) (hc : Chg w w' F) (hF : ∀ ad, A = some ad → 0 < l.length → F ad.block) : Rd w' A c l :=
  ⟨Rds.le h, Rds.max h, fun hn => by
    obtain ⟨ad, e, hl, hcell⟩ := Rds.at_ h hn
    refine ⟨ad, e, Nat.lt_of_lt_of_le hl hc.size, fun j u hu => (World.cell?_of_block ?_).trans (hcell j u hu)⟩
    rw [addBlock]
    exact hc.block _ hl (hF ad e (by simpa using hn))⟩
/-- Rows of different element types lie in different blocks. -/
theorem ownApart {base base' : Nat} {e e' : TypeId} {v v' : Value} {n n' : Nat} {xs xs' : List Value} (h : w.ownsRow base e 1 v n xs) (h' : w.ownsRow base' e' 1 v' n' xs') (hne : e ≠ e') {g : Nat} (hg : v.ownBlock = some g) : v'.ownBlock ≠ some g := by
  intro hg'
  rcases h.2 with ⟨rfl, _⟩ | ⟨k, cap, cur, rfl, _, hk, _⟩
  · simp [Value.ownBlock] at hg
  · rcases h'.2 with ⟨rfl, _⟩ | ⟨k', cap', cur', rfl, _, hk', _⟩
    · simp [Value.ownBlock] at hg'
    · have e1 : k = g := by simpa [Value.ownBlock] using hg
      have e2 : k' = g := by simpa [Value.ownBlock] using hg'
      subst e1; subst e2
      rw [hk] at hk'
      injection hk' with hk'
      injection hk' with _ ht
      exact hne ht
/-- A longer row in the same place holds the shorter one. -/
theorem ownShort {base : Nat} {e : TypeId} {g n m cap : Nat} {xs ys : List Value} (h : w.ownsRow base e 1 (.slice (some ⟨g, 0, none⟩) (n + m) cap) (n + m) (xs ++ ys)) (hn : xs.length = n) : w.ownsRow base e 1 (.slice (some ⟨g, 0, none⟩) n cap) n xs := by
  refine ⟨by simpa using hn, ?_⟩
  rcases h.2 with ⟨h2, _⟩ | ⟨k, cap', cur, hv, hb, hk, hc, hm, hs, ht⟩
  · cases h2
  · injection hv with e1 _ e3
    injection e1 with e1
    injection e1 with e1
    subst e1; subst e3
    refine .inr ⟨g, cap, cur, rfl, hb, hk, by omega, hm, hs, ?_⟩
    rw [Nat.mul_one] at ht ⊢
    have := congrArg (List.take n) ht
    rw [List.take_take, Nat.min_eq_left (by omega), ← hn, List.take_left] at this
    rw [← hn]; exact this
end

end Go.Proofs.YtnlhkeobfidjkaaDoor
