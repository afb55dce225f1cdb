/-
  Words for slices of slices: rows of the call's own whose elements are rows of the call's own; what a call leaves unchanged.
-/
import Derived.Test.YthfllfdgndaddaaSetIns
namespace Go.Proofs.Ythfllfdgndaddaa
open Go.RowKit

/-- From w to w' the blocks of w that meet F have not changed. -/
structure Chg (w w' : World) (F : Nat → Prop) : Prop where
  os : w'.os = w.os
  tape : w'.tape = w.tape
  output : w'.output = w.output
  size : w.heap.size ≤ w'.heap.size
  block : ∀ k, k < w.heap.size → F k → w'.heap[k]? = w.heap[k]?

section
variable {a b c w w' : World} {F G : Nat → Prop}
theorem Chg.refl (w : World) (F : Nat → Prop) : Chg w w F := ⟨rfl, rfl, rfl, Nat.le_refl _, fun _ _ _ => rfl⟩
theorem Chg.trans (h : Chg a b F) (k : Chg b c G) (hG : ∀ i, i < a.heap.size → F i → G i) : Chg a c F :=
  ⟨k.os.trans h.os, k.tape.trans h.tape, k.output.trans h.output, Nat.le_trans h.size k.size, fun i hi hF => (k.block i (Nat.lt_of_lt_of_le hi h.size) (hG i hi hF)).trans (h.block i hi hF)⟩
theorem Chg.ofGrown {row : Option Nat} (h : w.grownBy w' row) (hF : ∀ k, F k → row ≠ some k) : Chg w w' F := ⟨h.os, h.tape, h.output, h.size, fun k hk hf => h.block k hk (fun e => hF k hf e.symm)⟩
theorem Chg.ofBelow (h : Below w.heap.size w w') (F : Nat → Prop) : Chg w w' F := ⟨h.os, h.tape, h.output, h.size, fun k hk _ => h.block k hk⟩
theorem Chg.below (h : Chg w w' F) (hF : ∀ k, k < w.heap.size → F k) : Below w.heap.size w w' := ⟨h.os, h.tape, h.output, h.size, fun k hk => h.block k hk (hF k hk)⟩
theorem Chg.mono (h : Chg w w' F) (hG : ∀ k, G k → F k) : Chg w w' G := ⟨h.os, h.tape, h.output, h.size, fun k hk hg => h.block k hk (hG k hg)⟩
theorem Chg.alloc (w : World) (o : Obj) (F : Nat → Prop) : Chg w (w.alloc o) F := Chg.ofBelow ((Below.refl _ w).alloc (Nat.le_refl _) o) F
theorem Chg.drewN (w : World) (n : Nat) (F : Nat → Prop) : Chg w (w.drewN n) F := Chg.ofBelow (belowN w n) F

theorem ownChg {base : Nat} {e : TypeId} {v : Value} {n : Nat} {xs : List Value} (h : w.ownsRow base e 1 v n xs) (hc : Chg w w' F) (hF : ∀ g, v.ownBlock = some g → F g) : w'.ownsRow base e 1 v n xs := by
  refine ⟨h.1, ?_⟩
  rcases h.2 with h2 | ⟨g, cap, cur, rfl, hb, hg, r⟩
  · exact .inl h2
  · exact .inr ⟨g, cap, cur, rfl, hb, (hc.block g (World.ownsRow.lt h g rfl).2 (hF g rfl)).trans hg, r⟩
theorem ownMono {base base' : Nat} {e : TypeId} {v : Value} {n : Nat} {xs : List Value} (h : w.ownsRow base e 1 v n xs) (hb : base' ≤ base) : w.ownsRow base' e 1 v n xs := by
  refine ⟨h.1, ?_⟩
  rcases h.2 with h2 | ⟨g, cap, cur, rfl, hg, r⟩
  · exact .inl h2
  · exact .inr ⟨g, cap, cur, rfl, Nat.le_trans hb hg, r⟩
theorem Rd.chg {A : Option Addr} {c : Nat} {l : List Int} (h : Rd w A c l) (hc : Chg w w' F) (hF : ∀ ad, A = some ad → 0 < l.length → F ad.block) : Rd w' A c l :=
  ⟨Rds.le h, Rds.max h, fun hn => by
    obtain ⟨ad, e, hl, hcell⟩ := Rds.at_ h hn
    refine ⟨ad, e, Nat.lt_of_lt_of_le hl hc.size, fun j u hu => (World.cell?_of_block ?_).trans (hcell j u hu)⟩
    rw [addBlock]
    exact hc.block _ hl (hF ad e (by simpa using hn))⟩
/-- Rows of different element types lie in different blocks. -/
theorem ownApart {base base' : Nat} {e e' : TypeId} {v v' : Value} {n n' : Nat} {xs xs' : List Value} (h : w.ownsRow base e 1 v n xs) (h' : w.ownsRow base' e' 1 v' n' xs') (hne : e ≠ e') {g : Nat} (hg : v.ownBlock = some g) : v'.ownBlock ≠ some g := by
  intro hg'
  rcases h.2 with ⟨rfl, _⟩ | ⟨k, cap, cur, rfl, _, hk, _⟩
  · simp [Value.ownBlock] at hg
  · rcases h'.2 with ⟨rfl, _⟩ | ⟨k', cap', cur', rfl, _, hk', _⟩
    · simp [Value.ownBlock] at hg'
    · have e1 : k = g := by simpa [Value.ownBlock] using hg
      have e2 : k' = g := by simpa [Value.ownBlock] using hg'
      subst e1; subst e2
      rw [hk] at hk'
      injection hk' with hk'
      injection hk' with _ ht
      exact hne ht
/-- A longer row in the same place holds the shorter one. -/
theorem ownShort {base : Nat} {e : TypeId} {g n m cap : Nat} {xs ys : List Value} (h : w.ownsRow base e 1 (.slice (some ⟨g, 0, none⟩) (n + m) cap) (n + m) (xs ++ ys)) (hn : xs.length = n) : w.ownsRow base e 1 (.slice (some ⟨g, 0, none⟩) n cap) n xs := by
  refine ⟨by simpa using hn, ?_⟩
  rcases h.2 with ⟨h2, _⟩ | ⟨k, cap', cur, hv, hb, hk, hc, hm, hs, ht⟩
  · cases h2
  · injection hv with e1 _ e3
    injection e1 with e1
    injection e1 with e1
    subst e1; subst e3
    refine .inr ⟨g, cap, cur, rfl, hb, hk, by omega, hm, hs, ?_⟩
    rw [Nat.mul_one] at ht ⊢
    have := congrArg (List.take n) ht
    rw [List.take_take, Nat.min_eq_left (by omega), ← hn, List.take_left] at this
    rw [← hn]; exact this
end

/-- v is a row of slices of the call's own. -/
def OwnL (w : World) (base : Nat) (v : Value) (vs : List Value) : Prop := w.ownsRow base 22 1 v vs.length vs
/-- The slices vs are rows of the call's own that hold ls; their blocks meet F. -/
def IsL (w : World) (base : Nat) (F : Nat → Prop) : List Value → List (List Int) → Prop
  | [], [] => True
  | v :: vs, l :: ls => OwnI w base v l ∧ (∀ g, v.ownBlock = some g → F g) ∧ IsL w base F vs ls
  | _, _ => False

section
variable {w w' : World} {base : Nat} {F G : Nat → Prop}
theorem OwnI.lt {v : Value} {l : List Int} (h : OwnI w base v l) {g : Nat} (hg : v.ownBlock = some g) : base ≤ g ∧ g < w.heap.size := World.ownsRow.lt h g hg
theorem IsL.len : ∀ {vs : List Value} {ls : List (List Int)}, IsL w base F vs ls → vs.length = ls.length
  | [], [], _ => rfl
  | _ :: _, _ :: _, h => by rw [List.length_cons, List.length_cons, IsL.len h.2.2]
theorem IsL.append : ∀ {vs vs' : List Value} {ls ls' : List (List Int)}, IsL w base F vs ls → IsL w base F vs' ls' → IsL w base F (vs ++ vs') (ls ++ ls')
  | [], _, [], _, _, h => h
  | _ :: _, _, _ :: _, _, h, h' => ⟨h.1, h.2.1, IsL.append h.2.2 h'⟩
theorem IsL.mono (hG : ∀ g, F g → G g) : ∀ {vs : List Value} {ls : List (List Int)}, IsL w base F vs ls → IsL w base G vs ls
  | [], [], _ => trivial
  | _ :: _, _ :: _, h => ⟨h.1, fun g hg => hG g (h.2.1 g hg), IsL.mono hG h.2.2⟩
theorem IsL.low : ∀ {vs : List Value} {ls : List (List Int)}, IsL w base F vs ls → IsL w base (fun g => F g ∧ base ≤ g ∧ g < w.heap.size) vs ls
  | [], [], _ => trivial
  | _ :: _, _ :: _, h => ⟨h.1, fun g hg => ⟨h.2.1 g hg, h.1.lt hg⟩, IsL.low h.2.2⟩
theorem IsL.chg (hc : Chg w w' G) (hG : ∀ g, F g → g < w.heap.size → G g) : ∀ {vs : List Value} {ls : List (List Int)}, IsL w base F vs ls → IsL w' base F vs ls
  | [], [], _ => trivial
  | _ :: _, _ :: _, h => ⟨ownChg h.1 hc fun g hg => hG g (h.2.1 g hg) (h.1.lt hg).2, h.2.1, IsL.chg hc hG h.2.2⟩
theorem IsL.base' {base' : Nat} (hb : base' ≤ base) : ∀ {vs : List Value} {ls : List (List Int)}, IsL w base F vs ls → IsL w base' F vs ls
  | [], [], _ => trivial
  | _ :: _, _ :: _, h => ⟨ownMono h.1 hb, h.2.1, IsL.base' hb h.2.2⟩
theorem IsL.at_ : ∀ {vs : List Value} {ls : List (List Int)}, IsL w base F vs ls → ∀ {i : Nat} (hi : i < ls.length), ∃ v, vs[i]? = some v ∧ OwnI w base v ls[i] ∧ ∀ g, v.ownBlock = some g → F g
  | v :: _, _ :: _, h, 0, _ => ⟨v, rfl, h.1, h.2.1⟩
  | _ :: vs, _ :: ls, h, i + 1, hi => by
    obtain ⟨v, h1, h2⟩ := IsL.at_ (vs := vs) (ls := ls) h.2.2 (i := i) (by simpa using hi)
    exact ⟨v, by simpa using h1, by simpa using h2⟩
  | [], [], _, _, hi => absurd hi (by simp)
/-- A row of slices does not lie in the block of one of its elements. -/
theorem IsL.apart {va : Value} {ws : List Value} {base' : Nat} (ho : OwnL w base' va ws) : ∀ {vs : List Value} {ls : List (List Int)}, IsL w base F vs ls → IsL w base (fun g => F g ∧ va.ownBlock ≠ some g) vs ls
  | [], [], _ => trivial
  | _ :: _, _ :: _, h => ⟨h.1, fun g hg => ⟨h.2.1 g hg, ownApart h.1 ho (by decide) hg⟩, IsL.apart ho h.2.2⟩
theorem IsL.oneCell : ∀ {vs : List Value} {ls : List (List Int)}, IsL w base F vs ls → ∀ u ∈ vs, u.oneCell' = true
  | [], [], _ => by simp
  | v :: vs, _ :: ls, h => by
    intro u hu
    rw [List.mem_cons] at hu
    rcases hu with rfl | hu
    · obtain ⟨A, c, rfl, _⟩ := h.1.rd
      rfl
    · exact IsL.oneCell h.2.2 u hu
theorem OwnL.nil (w : World) (base : Nat) : OwnL w base (.slice none 0 0) [] := World.ownsRow_nil _ _ _ _
theorem OwnL.made (w : World) (base : Nat) (h : base ≤ w.heap.size) : OwnL (w.alloc (.cells #[] 22)) base (.slice (some ⟨w.heap.size, 0, none⟩) 0 0) [] := World.ownsRow_made w #[] 0 h (Nat.zero_le _) rfl
theorem OwnL.rds {v : Value} {vs : List Value} (h : OwnL w base v vs) : ∃ A c, v = .slice A vs.length c ∧ Rds w A c vs ∧ ∀ ad, A = some ad → base ≤ ad.block := by
  obtain ⟨A, c, hv, _, hr, hb⟩ := Rds.ofOwn h
  exact ⟨A, c, hv, hr, hb⟩
theorem OwnL.chg {v : Value} {vs : List Value} (h : OwnL w base v vs) (hc : Chg w w' F) (hF : ∀ g, v.ownBlock = some g → F g) : OwnL w' base v vs := ownChg h hc hF
theorem OwnI.chg {v : Value} {l : List Int} (h : OwnI w base v l) (hc : Chg w w' F) (hF : ∀ g, v.ownBlock = some g → F g) : OwnI w' base v l := ownChg h hc hF
end

theorem infoSl : (Try.prog.info? 22).map (fun i => (i.zero, i.size, i.bytes)) = some (some (.slice none 0 0), 1, 24) := by kernel_rfl

/-- append of slices onto a row of the call's own. -/
theorem appL (w : World) {ops : Array Oper} {rest : List Oper} {o : Oper} {a : Act} {Q : Exit → Act → World → Prop} (hgd : o.guard = none) (s x : Operand)
    (ho : o.op = .call { callee := .builtin .append, args := #[s, x], argTypes := #[30, 30] })
    (base : Nat) (v : Value) (vs : List Value) (hs : a.eval s = v) (hown : OwnL w base v vs)
    (A : Option Addr) (m c : Nat) (news : List Value) (hx : a.eval x = .slice A m c) (hm : m = news.length) (hr : Rds w A c news) (h1 : ∀ u ∈ news, u.oneCell' = true)
    (hb : vs.length + news.length ≤ 10000000) (hbase : base ≤ w.heap.size)
    (h : ∀ v' w', OwnL w' base v' (vs ++ news) → w.grownBy w' v.ownBlock → Moved w v v' vs.length m → wpList Try.prog ops Q rest (a.put o.dst v') w') :
    wpList Try.prog ops Q (o :: rest) a w := by
  obtain ⟨i0, hi, hz0, hz1, hz2⟩ := info_parts infoSl
  refine wpList_app w hgd s x 30 ho base 22 i0 _ 24 Try.underlying30 hi hz0 hz1 hz2 rfl v vs.length vs hs hown A m c news hx hm hr h1 (by omega) (by unfold maxLen; omega) hbase fun v' w' h1 _ h3 h4 => h v' w' ?_ h3 h4
  unfold OwnL
  rw [List.length_append, ← hm]
  exact h1
theorem movedBlock {w : World} {v v' : Value} {n m : Nat} (h : Moved w v v' n m) : v'.ownBlock = v.ownBlock ∨ v'.ownBlock = some w.heap.size := by
  rcases h with ⟨g, cap, rfl, rfl⟩ | h | ⟨rfl, _⟩
  · exact .inl rfl
  · exact .inr h
  · exact .inl rfl
end Go.Proofs.Ythfllfdgndaddaa
