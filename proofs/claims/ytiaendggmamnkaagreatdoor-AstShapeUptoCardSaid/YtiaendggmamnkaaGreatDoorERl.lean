/-
  Rows of pairs of lists (equalTrees' stack), of the call's own: they grow and shrink at their end; push and pop.
-/
import Derived.Test.YtiaendggmamnkaaGreatDoorEOp
import Derived.ProofKit
import Derived.Lib.Hide
import Derived.BigQuiet
import Derived.Deep.QuietTactic
import Derived.Deep.Cut
import Derived.Lib.AppendZeros
import Derived.Test.YtiaendggmamnkaaGreatDoorEOw
import Derived.Test.YtiaendggmamnkaaGreatDoorProg
import Derived.KernelRfl
import Derived.OwnWalk
namespace Go.Proofs.YtiaendggmamnkaaGreatDoor
open Go Go.RowKit

/-- Two slices: address, length and capacity. -/
structure PrA where
  A : Option Addr
  n : Nat
  c : Nat
  B : Option Addr
  m : Nat
  d : Nat
def p2C (p : PrA) : List Value := [.slice p.A p.n p.c, .slice p.B p.m p.d]
def p2Cs : List PrA → List Value
  | [] => []
  | p :: l => .slice p.A p.n p.c :: .slice p.B p.m p.d :: p2Cs l
theorem p2CsLen : ∀ l, (p2Cs l).length = l.length * 2
  | [] => rfl
  | p :: l => by
    have := p2CsLen l
    simp only [p2Cs, List.length_cons]
    omega
theorem p2CsApp : ∀ a b, p2Cs (a ++ b) = p2Cs a ++ p2Cs b
  | [], b => rfl
  | p :: a, b => by simp only [List.cons_append, p2Cs, p2CsApp a b]
theorem p2CsAt : ∀ (l : List PrA) (j : Nat) (h : j < l.length) (i : Nat), i < 2 → (p2Cs l)[j * 2 + i]? = (p2C l[j])[i]?
  | p :: l, 0, _, i, hi => by
    have : i = 0 ∨ i = 1 := by omega
    rcases this with rfl | rfl <;> rfl
  | p :: l, j + 1, h, i, hi => by
    have := p2CsAt l j (by simpa using h) i hi
    rw [p2Cs, show (j + 1) * 2 + i = j * 2 + i + 1 + 1 by omega]
    simp only [List.getElem?_cons_succ, List.getElem_cons_succ]
    exact this
theorem p2CsOne : ∀ l : List PrA, ∀ u ∈ p2Cs l, u.oneCell' = true
  | [], u, h => by cases h
  | p :: l, u, h => by
    rw [p2Cs] at h
    simp only [List.mem_cons] at h
    rcases h with rfl | rfl | h
    all_goals first
      | rfl
      | exact p2CsOne l u h

theorem infoP2M : (Tryz.prog.info? 171).map (fun i => (i.zero, i.size, i.bytes)) = some (some (.agg #[.slice none 0 0, .slice none 0 0]), 2, 48) := by kernel_rfl
/-- The parts L in a row of the call's own. -/
def OwnRM (w : World) (base : Nat) (v : Value) (L : List PrA) : Prop := w.ownsRow base 171 2 v L.length (p2Cs L)
section
variable {w X : World} {base : Nat} {v : Value} {L : List PrA}
theorem OwnRM.nil (w : World) (base : Nat) : OwnRM w base (.slice none 0 0) [] := World.ownsRow_nil _ _ _ _
theorem OwnRM.chg {F : Nat → Prop} (h : OwnRM w base v L) (hc : Chg w X F) (hF : ∀ g, v.ownBlock = some g → F g) : OwnRM X base v L := by
  refine ⟨h.1, ?_⟩
  rcases h.2 with h2 | ⟨g, cap, cur, rfl, hb, hg, r⟩
  · exact .inl h2
  · exact .inr ⟨g, cap, cur, rfl, hb, (hc.block g (World.ownsRow.lt h g rfl).2 (hF g rfl)).trans hg, r⟩
theorem OwnRM.below (h : OwnRM w base v L) (hb : Below w.heap.size w X) : OwnRM X base v L := h.chg (Chg.ofBelow hb fun _ => True) fun _ _ => trivial
theorem OwnRM.lt (h : OwnRM w base v L) {g : Nat} (hg : v.ownBlock = some g) : base ≤ g ∧ g < w.heap.size := World.ownsRow.lt h g hg
/-- A row that holds something: where it lies, its last part. -/
theorem OwnRM.last {x : PrA} (h : OwnRM w base v (L ++ [x])) : ∃ g cap, v = .slice (some ⟨g, 0, none⟩) (L.length + 1) cap ∧ base ≤ g ∧ g < w.heap.size ∧ L.length + 1 ≤ cap ∧ cap ≤ maxLen ∧
    w.cell? ⟨g, L.length * 2, none⟩ = some (.slice x.A x.n x.c) ∧ w.cell? ⟨g, L.length * 2 + 1, none⟩ = some (.slice x.B x.m x.d) ∧ OwnRM w base (.slice (some ⟨g, 0, none⟩) L.length cap) L := by
  have hown := h
  have hlen : (L ++ [x]).length = L.length + 1 := by simp
  rcases h.2 with ⟨_, h0⟩ | ⟨g, cap, cur, hv, hb, hg, hcp, hm, hs, ht⟩
  · omega
  · rw [hlen] at hv hcp ht
    subst hv
    have hlt := (World.ownsRow.lt hown g rfl).2
    have hcell : ∀ i, i < 2 → w.cell? ⟨g, L.length * 2 + i, none⟩ = (p2C x)[i]? := fun i hi => by
      have h5 := p2CsAt (L ++ [x]) L.length (by simp) i hi
      rw [List.getElem_append_right (Nat.le_refl _)] at h5
      simp only [Nat.sub_self, List.getElem_cons_zero] at h5
      have hu : ∃ u, (p2C x)[i]? = some u := ⟨_, List.getElem?_eq_getElem (show i < (p2C x).length from hi)⟩
      obtain ⟨u, hu⟩ := hu
      rw [hu] at h5 ⊢
      have h6 := World.ownsRow.cells hown (g := g) rfl (L.length * 2 + i) u h5
      rw [Addr.add_lit, Nat.zero_add] at h6
      exact h6
    refine ⟨g, cap, rfl, hb, hlt, hcp, hm, hcell 0 (by omega), hcell 1 (by omega), p2CsLen L, .inr ⟨g, cap, cur, rfl, hb, hg, by omega, hm, hs, ?_⟩⟩
    have h7 := congrArg (List.take (L.length * 2)) ht
    rw [List.take_take, Nat.min_eq_left (by omega), p2CsApp, List.take_append_of_le_length (by rw [p2CsLen]; exact Nat.le_refl _), ← p2CsLen L, List.take_length] at h7
    rwa [p2CsLen] at h7
/-- append of a part. -/
theorem OwnRM.push (h : OwnRM w base v L) (hL : L.length ≤ 10000000) (hbase : base ≤ w.heap.size) {i : PrA} {g : Nat} (hg : Blk w g 171 (p2C i).toArray) (ty : TypeId) :
    ∃ v' w', (Builtin.append_ #[172, 172] ty #[v, .slice (some ⟨g, 0, none⟩) 1 1]).run Tryz.prog w = .ok v' w' ∧ OwnRM w' base v' (L ++ [i]) ∧ w.grownBy w' v.ownBlock ∧ (v'.ownBlock = v.ownBlock ∨ v'.ownBlock = some w.heap.size) := by
  obtain ⟨i0, hi, hz0, hz1, hz2⟩ := info_parts infoP2M
  have hnews : ∀ j u, (p2Cs [i])[j]? = some u → w.cell? ((⟨g, 0, none⟩ : Addr).add j) = some u := by
    intro j u hu
    have hj : j < 2 := by have := (List.getElem?_eq_some_iff.1 hu).1; rw [p2CsLen] at this; simpa using this
    have := p2CsAt [i] 0 (by simp) j hj
    rw [Nat.zero_mul, Nat.zero_add] at this
    rw [this] at hu
    rw [Addr.add_lit, Nat.zero_add, hg.cell j]
    rw [List.getElem?_toArray]
    exact hu
  obtain ⟨v', w', hrun, k1, hgr, _, hblk⟩ := run_append_own_at (P := Tryz.prog) w base 172 ty 171 i0 _ 2 48 Tryz.underlying172 hi hz0 hz1 hz2 rfl (by decide) v L.length (p2Cs L) h ⟨g, 0, none⟩ 1 1 (p2Cs [i]) (by rw [p2CsLen]; rfl) hnews (p2CsOne _) (by unfold maxLen; omega) (by omega) hbase
  exact ⟨v', w', hrun, by unfold OwnRM; rw [p2CsApp, List.length_append]; exact k1, hgr, hblk⟩
theorem OwnRM.grown {w' : World} {u : World} (h : OwnRM w base v L) (hbase : base ≤ w.heap.size) (hg : w.grownBy w' v.ownBlock) (hb : Below base u w) : Below base u w' := hb.grown hg hbase fun _ hk => (h.lt hk).1
end

theorem infoP2X : (Tryz.prog.info? 225).map (fun i => (i.zero, i.size, i.bytes)) = some (some (.agg #[.slice none 0 0, .slice none 0 0]), 2, 48) := by kernel_rfl
/-- The parts L in a row of the call's own. -/
def OwnRX (w : World) (base : Nat) (v : Value) (L : List PrA) : Prop := w.ownsRow base 225 2 v L.length (p2Cs L)
section
variable {w X : World} {base : Nat} {v : Value} {L : List PrA}
theorem OwnRX.nil (w : World) (base : Nat) : OwnRX w base (.slice none 0 0) [] := World.ownsRow_nil _ _ _ _
theorem OwnRX.chg {F : Nat → Prop} (h : OwnRX w base v L) (hc : Chg w X F) (hF : ∀ g, v.ownBlock = some g → F g) : OwnRX X base v L := by
  refine ⟨h.1, ?_⟩
  rcases h.2 with h2 | ⟨g, cap, cur, rfl, hb, hg, r⟩
  · exact .inl h2
  · exact .inr ⟨g, cap, cur, rfl, hb, (hc.block g (World.ownsRow.lt h g rfl).2 (hF g rfl)).trans hg, r⟩
theorem OwnRX.below (h : OwnRX w base v L) (hb : Below w.heap.size w X) : OwnRX X base v L := h.chg (Chg.ofBelow hb fun _ => True) fun _ _ => trivial
theorem OwnRX.lt (h : OwnRX w base v L) {g : Nat} (hg : v.ownBlock = some g) : base ≤ g ∧ g < w.heap.size := World.ownsRow.lt h g hg
/-- A row that holds something: where it lies, its last part. -/
theorem OwnRX.last {x : PrA} (h : OwnRX w base v (L ++ [x])) : ∃ g cap, v = .slice (some ⟨g, 0, none⟩) (L.length + 1) cap ∧ base ≤ g ∧ g < w.heap.size ∧ L.length + 1 ≤ cap ∧ cap ≤ maxLen ∧
    w.cell? ⟨g, L.length * 2, none⟩ = some (.slice x.A x.n x.c) ∧ w.cell? ⟨g, L.length * 2 + 1, none⟩ = some (.slice x.B x.m x.d) ∧ OwnRX w base (.slice (some ⟨g, 0, none⟩) L.length cap) L := by
  have hown := h
  have hlen : (L ++ [x]).length = L.length + 1 := by simp
  rcases h.2 with ⟨_, h0⟩ | ⟨g, cap, cur, hv, hb, hg, hcp, hm, hs, ht⟩
  · omega
  · rw [hlen] at hv hcp ht
    subst hv
    have hlt := (World.ownsRow.lt hown g rfl).2
    have hcell : ∀ i, i < 2 → w.cell? ⟨g, L.length * 2 + i, none⟩ = (p2C x)[i]? := fun i hi => by
      have h5 := p2CsAt (L ++ [x]) L.length (by simp) i hi
      rw [List.getElem_append_right (Nat.le_refl _)] at h5
      simp only [Nat.sub_self, List.getElem_cons_zero] at h5
      have hu : ∃ u, (p2C x)[i]? = some u := ⟨_, List.getElem?_eq_getElem (show i < (p2C x).length from hi)⟩
      obtain ⟨u, hu⟩ := hu
      rw [hu] at h5 ⊢
      have h6 := World.ownsRow.cells hown (g := g) rfl (L.length * 2 + i) u h5
      rw [Addr.add_lit, Nat.zero_add] at h6
      exact h6
    refine ⟨g, cap, rfl, hb, hlt, hcp, hm, hcell 0 (by omega), hcell 1 (by omega), p2CsLen L, .inr ⟨g, cap, cur, rfl, hb, hg, by omega, hm, hs, ?_⟩⟩
    have h7 := congrArg (List.take (L.length * 2)) ht
    rw [List.take_take, Nat.min_eq_left (by omega), p2CsApp, List.take_append_of_le_length (by rw [p2CsLen]; exact Nat.le_refl _), ← p2CsLen L, List.take_length] at h7
    rwa [p2CsLen] at h7
/-- append of a part. -/
theorem OwnRX.push (h : OwnRX w base v L) (hL : L.length ≤ 10000000) (hbase : base ≤ w.heap.size) {i : PrA} {g : Nat} (hg : Blk w g 225 (p2C i).toArray) (ty : TypeId) :
    ∃ v' w', (Builtin.append_ #[226, 226] ty #[v, .slice (some ⟨g, 0, none⟩) 1 1]).run Tryz.prog w = .ok v' w' ∧ OwnRX w' base v' (L ++ [i]) ∧ w.grownBy w' v.ownBlock ∧ (v'.ownBlock = v.ownBlock ∨ v'.ownBlock = some w.heap.size) := by
  obtain ⟨i0, hi, hz0, hz1, hz2⟩ := info_parts infoP2X
  have hnews : ∀ j u, (p2Cs [i])[j]? = some u → w.cell? ((⟨g, 0, none⟩ : Addr).add j) = some u := by
    intro j u hu
    have hj : j < 2 := by have := (List.getElem?_eq_some_iff.1 hu).1; rw [p2CsLen] at this; simpa using this
    have := p2CsAt [i] 0 (by simp) j hj
    rw [Nat.zero_mul, Nat.zero_add] at this
    rw [this] at hu
    rw [Addr.add_lit, Nat.zero_add, hg.cell j]
    rw [List.getElem?_toArray]
    exact hu
  obtain ⟨v', w', hrun, k1, hgr, _, hblk⟩ := run_append_own_at (P := Tryz.prog) w base 226 ty 225 i0 _ 2 48 Tryz.underlying226 hi hz0 hz1 hz2 rfl (by decide) v L.length (p2Cs L) h ⟨g, 0, none⟩ 1 1 (p2Cs [i]) (by rw [p2CsLen]; rfl) hnews (p2CsOne _) (by unfold maxLen; omega) (by omega) hbase
  exact ⟨v', w', hrun, by unfold OwnRX; rw [p2CsApp, List.length_append]; exact k1, hgr, hblk⟩
theorem OwnRX.grown {w' : World} {u : World} (h : OwnRX w base v L) (hbase : base ≤ w.heap.size) (hg : w.grownBy w' v.ownBlock) (hb : Below base u w) : Below base u w' := hb.grown hg hbase fun _ hk => (h.lt hk).1
end
/-- What a stack is after two lists were pushed. -/
def pshA2 (p : PrA) (L : List PrA) : List PrA := if p.n = 0 ∧ p.m = 0 then L else L ++ [p]
/-- append of one part onto the stack in a box: what is behind it. -/
theorem pushR16M {U : World} {z base : Nat} {v : Value} {L : List PrA} (hb : Blk U z 172 #[v]) (ho : OwnRM U base v L) (hzb : v.ownBlock ≠ some z) (hbs : base ≤ U.heap.size) (hl : L.length ≤ 10000000) (p : PrA) (ty : TypeId) :
    ∃ v' w', (Builtin.append_ #[172, 172] ty #[v, .slice (some ⟨U.heap.size, 0, none⟩) 1 1]).run Tryz.prog (U.alloc (.cells #[.slice p.A p.n p.c, .slice p.B p.m p.d] 171)) = .ok v' w' ∧
      w'.frozen? ⟨z, 0, none⟩ = false ∧ w'.cell? ⟨z, 0, none⟩ = some v ∧ Blk (w'.setCell ⟨z, 0, none⟩ v') z 172 #[v'] ∧ OwnRM (w'.setCell ⟨z, 0, none⟩ v') base v' (L ++ [p]) ∧ Chg U (w'.setCell ⟨z, 0, none⟩ v') (fun q => q ≠ z ∧ v.ownBlock ≠ some q) ∧ ∀ g, v'.ownBlock = some g → v.ownBlock = some g ∨ U.heap.size ≤ g := by
  have hA := ho.below (belowAlloc U (.cells (p2C p).toArray 171))
  have hbA := hb.below' (belowAlloc U (.cells (p2C p).toArray 171))
  have hzl := hb.lt
  obtain ⟨v', w', hrun, ho', hg, hblk⟩ := hA.push hl (by simp; omega) (i := p) (g := U.heap.size) (Blk.new _ _ _) ty
  have hc1 : Chg (U.alloc (.cells (p2C p).toArray 171)) w' (fun q => v.ownBlock ≠ some q) := Chg.ofGrown hg fun _ h => h
  have hvz : v.ownBlock ≠ some z := hzb
  have hbw : Blk w' z 172 #[v] := (hc1.block _ hbA.lt hvz).trans hbA
  have hne : ∀ g, v'.ownBlock = some g → g ≠ z := fun g hg2 e => by
    subst e
    rcases hblk with h | h
    · exact hzb (h ▸ hg2)
    · rw [h] at hg2
      injection hg2 with hg2
      simp at hg2
      omega
  have hc2 : Chg w' (w'.setCell ⟨z, 0, none⟩ v') (fun q => q ≠ z) := chgSet16 w' z 0 _
  refine ⟨v', w', hrun, hbw.frozen 0, hbw.cell 0, hbw.set 0 v', ho'.chg hc2 hne, ?_⟩
  have hcU : Chg U (U.alloc (.cells (p2C p).toArray 171)) (fun q => q ≠ z ∧ v.ownBlock ≠ some q) := Chg.ofBelow (belowAlloc U _) _
  refine ⟨(hcU.trans hc1 fun q _ hq => hq.2).trans hc2 fun q _ hq => hq.1, fun g hg9 => ?_⟩
  rcases hblk with h | h
  · exact .inl (h ▸ hg9)
  · rw [h] at hg9
    injection hg9 with hg9
    simp at hg9
    exact .inr (by omega)
theorem slOfRM {w : World} {base : Nat} {v : Value} {L : List PrA} (h : OwnRM w base v L) : ∃ A q c, v = .slice A q c := by
  rcases h.2 with ⟨rfl, _⟩ | ⟨g, cap, cur, rfl, _⟩
  · exact ⟨_, _, _, rfl⟩
  · exact ⟨_, _, _, rfl⟩
set_option maxRecDepth 100000 in
theorem iPushRM (A : Option Addr) (n c : Nat) (B : Option Addr) (m d : Nat) {z base : Nat} {v : Value} {L : List PrA} (w : World) (hb : Blk w z 172 #[v]) (ho : OwnRM w base v L) (hzb : v.ownBlock ≠ some z) (hbs : base ≤ w.heap.size) (hl : L.length ≤ 10000000) :
    Calls Tryz.prog 124 #[.slice A n c, .slice B m d, .pointer (some ⟨z, 0, none⟩)] w fun e w' => e = .returned (.tuple #[]) ∧ ∃ v', Blk w' z 172 #[v'] ∧ OwnRM w' base v' (pshA2 ⟨A, n, c, B, m, d⟩ L) ∧ Chg w w' (fun q => q ≠ z ∧ v.ownBlock ≠ some q) ∧ ∀ g, v'.ownBlock = some g → v.ownBlock = some g ∨ w.heap.size ≤ g := by
  by_cases hn : n = 0 ∧ m = 0
  · have e0 : pshA2 ⟨A, n, c, B, m, d⟩ L = L := if_pos hn
    obtain ⟨rfl, rfl⟩ := hn
    have HB := Lib.hid (show Blk w z 172 #[v] ∧ OwnRM w base v (pshA2 ⟨A, 0, c, B, 0, d⟩ L) from ⟨hb, e0.symm ▸ ho⟩)
    have hz : ¬ ((0 : Int) < ((0 : Nat) : Int)) := by omega
    clear hb ho e0
    go_enter Tryz.func124, Tryz.ntmps124
    go_wp2_with fail
    go_end0
    exact ⟨rfl, v, HB.out.1, HB.out.2, Chg.ofBelow (Below.refl _ _) _, fun g h => .inl h⟩
  · obtain ⟨v', w', hrun, hf, hc, hb2, ho2, hbe, hbk⟩ := pushR16M hb ho hzb hbs hl ⟨A, n, c, B, m, d⟩ 172
    have e0 : pshA2 ⟨A, n, c, B, m, d⟩ L = L ++ [⟨A, n, c, B, m, d⟩] := if_neg hn
    obtain ⟨A0, q0, k0, rfl⟩ := slOfRM ho
    obtain ⟨A1, q1, k1, rfl⟩ := slOfRM ho2
    have c0 : w.cell? ⟨z, 0, none⟩ = some (.slice A0 q0 k0) := hb.cell 0
    dsimp only at hrun
    have HX := Lib.hid (show Blk _ z 172 #[.slice A1 q1 k1] ∧ OwnRM _ base (.slice A1 q1 k1) (pshA2 ⟨A, n, c, B, m, d⟩ L) ∧ Chg w _ (fun q => q ≠ z ∧ (Value.slice A0 q0 k0).ownBlock ≠ some q) ∧ ∀ g, (Value.slice A1 q1 k1).ownBlock = some g → (Value.slice A0 q0 k0).ownBlock = some g ∨ w.heap.size ≤ g from ⟨hb2, e0 ▸ ho2, hbe, hbk⟩)
    clear hb ho hb2 ho2 hbe hbk e0
    by_cases hn1 : n = 0
    · have hm1 : (0 : Int) < (m : Int) := by omega
      subst hn1
      have hz : ¬ ((0 : Int) < ((0 : Nat) : Int)) := by omega
      clear hn
      go_enter Tryz.func124, Tryz.ntmps124
      go_wp2_with (at_builtin; refine Lib.wpList_append_run _ rfl _ _ _ _ rfl _ _ rfl rfl _ _ hrun ?_)
      go_end0
      exact ⟨rfl, _, HX.out⟩
    · have hz : (0 : Int) < (n : Int) := by omega
      clear hn hn1
      go_enter Tryz.func124, Tryz.ntmps124
      go_wp2_with (at_builtin; refine Lib.wpList_append_run _ rfl _ _ _ _ rfl _ _ rfl rfl _ _ hrun ?_)
      go_end0
      exact ⟨rfl, _, HX.out⟩
theorem infoQsM : (Tryz.prog.info? 171).map (·.size) = some 2 := by kernel_rfl
set_option maxRecDepth 100000 in
theorem iPopRM {z base : Nat} {v : Value} {L : List PrA} {x : PrA} (w : World) (hb : Blk w z 172 #[v]) (ho : OwnRM w base v (L ++ [x])) (hzb : v.ownBlock ≠ some z) (hl : L.length ≤ 10000000) :
    Calls Tryz.prog 125 #[.pointer (some ⟨z, 0, none⟩)] w fun e w' => e = .returned (.agg #[.slice x.A x.n x.c, .slice x.B x.m x.d]) ∧ ∃ v', Blk w' z 172 #[v'] ∧ OwnRM w' base v' L ∧ Chg w w' (fun q => q ≠ z) ∧ v'.ownBlock = v.ownBlock := by
  obtain ⟨g, cap, rfl, hgb, hgl, hcp, hcm, e0, e1, ho2⟩ := ho.last
  have hgz : g ≠ z := fun e => hzb (by subst e; rfl)
  obtain ⟨xA, xn, xc, xB, xm, xd⟩ := x
  dsimp only at e0 e1 ⊢
  have hzl := hb.lt
  obtain ⟨q, hq⟩ : ∃ q, L.length = q := ⟨_, rfl⟩
  obtain ⟨q1, hq1⟩ : ∃ q1, q + 1 = q1 := ⟨_, rfl⟩
  rw [hq] at hb hcp e0 e1 ho2
  rw [hq1] at hb hcp
  obtain ⟨W1, hW1⟩ : ∃ W1, w.alloc (.cells #[.slice none 0 0, .slice none 0 0] 171) = W1 := ⟨_, rfl⟩
  have b1 : Below w.heap.size w W1 := by rw [← hW1]; exact belowAlloc _ _
  have B1 : Blk W1 w.heap.size 171 #[.slice none 0 0, .slice none 0 0] := by rw [← hW1]; exact Blk.new _ _ _
  have s1 : W1.heap.size = w.heap.size + 1 := by rw [← hW1]; simp
  obtain ⟨W2, hW2⟩ : ∃ W2, W1.alloc (.cells #[.slice xA xn xc, .slice xB xm xd] 171) = W2 := ⟨_, rfl⟩
  have b2 : Below W1.heap.size W1 W2 := by rw [← hW2]; exact belowAlloc _ _
  have B2 : Blk W2 W1.heap.size 171 #[.slice xA xn xc, .slice xB xm xd] := by rw [← hW2]; exact Blk.new _ _ _
  obtain ⟨W3, hW3⟩ : ∃ W3, W2.setCell ⟨z, 0, none⟩ (.slice (some ⟨g, 0, none⟩) q cap) = W3 := ⟨_, rfl⟩
  have c3 : Chg W2 W3 (fun k => k ≠ z) := by rw [← hW3]; exact chgSet16 _ _ _ _
  have B13 : Blk W3 w.heap.size 171 #[.slice none 0 0, .slice none 0 0] := (c3.block _ (B1.below' b2).lt (by show w.heap.size ≠ z; omega)).trans (B1.below' b2)
  have B23 : Blk W3 W1.heap.size 171 #[.slice xA xn xc, .slice xB xm xd] := (c3.block _ B2.lt (by show W1.heap.size ≠ z; omega)).trans B2
  have BZ3 : Blk W3 z 172 #[.slice (some ⟨g, 0, none⟩) q cap] := by rw [← hW3]; exact ((hb.below' b1).below' b2).set 0 _
  have O3 : OwnRM W3 base (.slice (some ⟨g, 0, none⟩) q cap) L := ((ho2.below b1).below b2).chg c3 fun k hk => by injection hk with hk; subst hk; show g ≠ z; omega
  have C3 : Chg w W3 (fun k => k ≠ z) := ((Chg.ofBelow b1 _).trans (Chg.ofBelow b2 fun k => k ≠ z) fun _ _ h => h).trans c3 fun _ _ h => h
  obtain ⟨W4, hW4⟩ : ∃ W4, (W3.setCell ⟨w.heap.size, 0, none⟩ (.slice xA xn xc)).setCell ⟨w.heap.size, 1, none⟩ (.slice xB xm xd) = W4 := ⟨_, rfl⟩
  have c4 : Chg W3 W4 (fun k => k ≠ w.heap.size) := by rw [← hW4]; exact (chgSet16 _ _ _ _).trans (chgSet16 _ _ _ _) fun _ _ h => h
  have B4 : Blk W4 w.heap.size 171 #[.slice xA xn xc, .slice xB xm xd] := by rw [← hW4]; exact (B13.set 0 _).set 1 _
  have HF := Lib.hid (show Blk W4 z 172 #[.slice (some ⟨g, 0, none⟩) q cap] ∧ OwnRM W4 base (.slice (some ⟨g, 0, none⟩) q cap) L ∧ Chg w W4 (fun k => k ≠ z) from
    ⟨(c4.block _ BZ3.lt (by show z ≠ w.heap.size; omega)).trans BZ3, O3.chg c4 fun k hk => by injection hk with hk; subst hk; show g ≠ w.heap.size; omega, ⟨c4.os.trans C3.os, c4.tape.trans C3.tape, c4.output.trans C3.output, Nat.le_trans C3.size c4.size, fun k hk hz => (c4.block k (Nat.lt_of_lt_of_le hk C3.size) (by show k ≠ w.heap.size; omega)).trans (C3.block k hk hz)⟩⟩)
  have H1 := Lib.hid hW1
  have H2 := Lib.hid hW2
  have H3 := Lib.hid hW3
  have H4 := Lib.hid hW4
  have H41 := Lib.hid B4
  have k0 : W1.cell? ⟨z, 0, none⟩ = some (.slice (some ⟨g, 0, none⟩) q1 cap) := (hb.below' b1).cell 0
  have k1 : W1.cell? ⟨g, q * 2, none⟩ = some (.slice xA xn xc) := (b1.cell hgl).trans e0
  have k2 : W1.cell? ⟨g, q * 2 + 1, none⟩ = some (.slice xB xm xd) := (b1.cell hgl).trans e1
  have k3 : W2.cell? ⟨z, 0, none⟩ = some (.slice (some ⟨g, 0, none⟩) q1 cap) := ((hb.below' b1).below' b2).cell 0
  have k4 : W2.frozen? ⟨z, 0, none⟩ = false := ((hb.below' b1).below' b2).frozen 0
  have k5 : W3.cell? ⟨W1.heap.size, 0, none⟩ = some (.slice xA xn xc) := B23.cell 0
  have k6 : W3.cell? ⟨W1.heap.size, 1, none⟩ = some (.slice xB xm xd) := B23.cell 1
  have k7 : W3.cell? ⟨w.heap.size, 0, none⟩ = some (.slice none 0 0) := B13.cell 0
  have k8 : W3.cell? ⟨w.heap.size, 1, none⟩ = some (.slice none 0 0) := B13.cell 1
  have k9 : W3.frozen? ⟨w.heap.size, 0, none⟩ = false := B13.frozen 0
  have k10 : W3.frozen? ⟨w.heap.size, 1, none⟩ = false := B13.frozen 1
  have hq0 : (0 : Int) ≤ q := by omega
  have hqq : (q : Int) < q1 := by omega
  have hqc : (q : Int) ≤ cap := by omega
  have hw1 : IntKind.i64.wrap ((q1 : Int) - 1) = (q : Int) := by rw [IntKind.wrap_i64]; omega
  clear hW1 hW2 hW3 hW4 b1 b2 B1 B2 c3 B13 B23 BZ3 O3 C3 c4 B4 s1 e0 e1 ho ho2 hb
  go_enter Tryz.func125, Tryz.ntmps125
  go_upto_region 1 with fail
  rw [H1.out]
  go_upto_region 3 with fail
  rw [H2.out]
  go_upto_region 4 with fail
  rw [H3.out]
  go_wp2_with fail
  rw [H4.out]
  refine bodyPost_ret (H41.out.res rfl _ rfl Tryz.underlying171 rfl infoQsM) rfl ?_
  exact ⟨rfl, _, HF.out.1, HF.out.2.1, HF.out.2.2, rfl⟩


/-- append of one part onto the stack in a box: what is behind it. -/
theorem pushR16X {U : World} {z base : Nat} {v : Value} {L : List PrA} (hb : Blk U z 226 #[v]) (ho : OwnRX U base v L) (hzb : v.ownBlock ≠ some z) (hbs : base ≤ U.heap.size) (hl : L.length ≤ 10000000) (p : PrA) (ty : TypeId) :
    ∃ v' w', (Builtin.append_ #[226, 226] ty #[v, .slice (some ⟨U.heap.size, 0, none⟩) 1 1]).run Tryz.prog (U.alloc (.cells #[.slice p.A p.n p.c, .slice p.B p.m p.d] 225)) = .ok v' w' ∧
      w'.frozen? ⟨z, 0, none⟩ = false ∧ w'.cell? ⟨z, 0, none⟩ = some v ∧ Blk (w'.setCell ⟨z, 0, none⟩ v') z 226 #[v'] ∧ OwnRX (w'.setCell ⟨z, 0, none⟩ v') base v' (L ++ [p]) ∧ Chg U (w'.setCell ⟨z, 0, none⟩ v') (fun q => q ≠ z ∧ v.ownBlock ≠ some q) ∧ ∀ g, v'.ownBlock = some g → v.ownBlock = some g ∨ U.heap.size ≤ g := by
  have hA := ho.below (belowAlloc U (.cells (p2C p).toArray 225))
  have hbA := hb.below' (belowAlloc U (.cells (p2C p).toArray 225))
  have hzl := hb.lt
  obtain ⟨v', w', hrun, ho', hg, hblk⟩ := hA.push hl (by simp; omega) (i := p) (g := U.heap.size) (Blk.new _ _ _) ty
  have hc1 : Chg (U.alloc (.cells (p2C p).toArray 225)) w' (fun q => v.ownBlock ≠ some q) := Chg.ofGrown hg fun _ h => h
  have hvz : v.ownBlock ≠ some z := hzb
  have hbw : Blk w' z 226 #[v] := (hc1.block _ hbA.lt hvz).trans hbA
  have hne : ∀ g, v'.ownBlock = some g → g ≠ z := fun g hg2 e => by
    subst e
    rcases hblk with h | h
    · exact hzb (h ▸ hg2)
    · rw [h] at hg2
      injection hg2 with hg2
      simp at hg2
      omega
  have hc2 : Chg w' (w'.setCell ⟨z, 0, none⟩ v') (fun q => q ≠ z) := chgSet16 w' z 0 _
  refine ⟨v', w', hrun, hbw.frozen 0, hbw.cell 0, hbw.set 0 v', ho'.chg hc2 hne, ?_⟩
  have hcU : Chg U (U.alloc (.cells (p2C p).toArray 225)) (fun q => q ≠ z ∧ v.ownBlock ≠ some q) := Chg.ofBelow (belowAlloc U _) _
  refine ⟨(hcU.trans hc1 fun q _ hq => hq.2).trans hc2 fun q _ hq => hq.1, fun g hg9 => ?_⟩
  rcases hblk with h | h
  · exact .inl (h ▸ hg9)
  · rw [h] at hg9
    injection hg9 with hg9
    simp at hg9
    exact .inr (by omega)
theorem slOfRX {w : World} {base : Nat} {v : Value} {L : List PrA} (h : OwnRX w base v L) : ∃ A q c, v = .slice A q c := by
  rcases h.2 with ⟨rfl, _⟩ | ⟨g, cap, cur, rfl, _⟩
  · exact ⟨_, _, _, rfl⟩
  · exact ⟨_, _, _, rfl⟩
set_option maxRecDepth 100000 in
theorem iPushRX (A : Option Addr) (n c : Nat) (B : Option Addr) (m d : Nat) {z base : Nat} {v : Value} {L : List PrA} (w : World) (hb : Blk w z 226 #[v]) (ho : OwnRX w base v L) (hzb : v.ownBlock ≠ some z) (hbs : base ≤ w.heap.size) (hl : L.length ≤ 10000000) :
    Calls Tryz.prog 176 #[.slice A n c, .slice B m d, .pointer (some ⟨z, 0, none⟩)] w fun e w' => e = .returned (.tuple #[]) ∧ ∃ v', Blk w' z 226 #[v'] ∧ OwnRX w' base v' (pshA2 ⟨A, n, c, B, m, d⟩ L) ∧ Chg w w' (fun q => q ≠ z ∧ v.ownBlock ≠ some q) ∧ ∀ g, v'.ownBlock = some g → v.ownBlock = some g ∨ w.heap.size ≤ g := by
  by_cases hn : n = 0 ∧ m = 0
  · have e0 : pshA2 ⟨A, n, c, B, m, d⟩ L = L := if_pos hn
    obtain ⟨rfl, rfl⟩ := hn
    have HB := Lib.hid (show Blk w z 226 #[v] ∧ OwnRX w base v (pshA2 ⟨A, 0, c, B, 0, d⟩ L) from ⟨hb, e0.symm ▸ ho⟩)
    have hz : ¬ ((0 : Int) < ((0 : Nat) : Int)) := by omega
    clear hb ho e0
    go_enter Tryz.func176, Tryz.ntmps176
    go_wp2_with fail
    go_end0
    exact ⟨rfl, v, HB.out.1, HB.out.2, Chg.ofBelow (Below.refl _ _) _, fun g h => .inl h⟩
  · obtain ⟨v', w', hrun, hf, hc, hb2, ho2, hbe, hbk⟩ := pushR16X hb ho hzb hbs hl ⟨A, n, c, B, m, d⟩ 226
    have e0 : pshA2 ⟨A, n, c, B, m, d⟩ L = L ++ [⟨A, n, c, B, m, d⟩] := if_neg hn
    obtain ⟨A0, q0, k0, rfl⟩ := slOfRX ho
    obtain ⟨A1, q1, k1, rfl⟩ := slOfRX ho2
    have c0 : w.cell? ⟨z, 0, none⟩ = some (.slice A0 q0 k0) := hb.cell 0
    dsimp only at hrun
    have HX := Lib.hid (show Blk _ z 226 #[.slice A1 q1 k1] ∧ OwnRX _ base (.slice A1 q1 k1) (pshA2 ⟨A, n, c, B, m, d⟩ L) ∧ Chg w _ (fun q => q ≠ z ∧ (Value.slice A0 q0 k0).ownBlock ≠ some q) ∧ ∀ g, (Value.slice A1 q1 k1).ownBlock = some g → (Value.slice A0 q0 k0).ownBlock = some g ∨ w.heap.size ≤ g from ⟨hb2, e0 ▸ ho2, hbe, hbk⟩)
    clear hb ho hb2 ho2 hbe hbk e0
    by_cases hn1 : n = 0
    · have hm1 : (0 : Int) < (m : Int) := by omega
      subst hn1
      have hz : ¬ ((0 : Int) < ((0 : Nat) : Int)) := by omega
      clear hn
      go_enter Tryz.func176, Tryz.ntmps176
      go_wp2_with (at_builtin; refine Lib.wpList_append_run _ rfl _ _ _ _ rfl _ _ rfl rfl _ _ hrun ?_)
      go_end0
      exact ⟨rfl, _, HX.out⟩
    · have hz : (0 : Int) < (n : Int) := by omega
      clear hn hn1
      go_enter Tryz.func176, Tryz.ntmps176
      go_wp2_with (at_builtin; refine Lib.wpList_append_run _ rfl _ _ _ _ rfl _ _ rfl rfl _ _ hrun ?_)
      go_end0
      exact ⟨rfl, _, HX.out⟩
theorem infoQsX : (Tryz.prog.info? 225).map (·.size) = some 2 := by kernel_rfl
set_option maxRecDepth 100000 in
theorem iPopRX {z base : Nat} {v : Value} {L : List PrA} {x : PrA} (w : World) (hb : Blk w z 226 #[v]) (ho : OwnRX w base v (L ++ [x])) (hzb : v.ownBlock ≠ some z) (hl : L.length ≤ 10000000) :
    Calls Tryz.prog 177 #[.pointer (some ⟨z, 0, none⟩)] w fun e w' => e = .returned (.agg #[.slice x.A x.n x.c, .slice x.B x.m x.d]) ∧ ∃ v', Blk w' z 226 #[v'] ∧ OwnRX w' base v' L ∧ Chg w w' (fun q => q ≠ z) ∧ v'.ownBlock = v.ownBlock := by
  obtain ⟨g, cap, rfl, hgb, hgl, hcp, hcm, e0, e1, ho2⟩ := ho.last
  have hgz : g ≠ z := fun e => hzb (by subst e; rfl)
  obtain ⟨xA, xn, xc, xB, xm, xd⟩ := x
  dsimp only at e0 e1 ⊢
  have hzl := hb.lt
  obtain ⟨q, hq⟩ : ∃ q, L.length = q := ⟨_, rfl⟩
  obtain ⟨q1, hq1⟩ : ∃ q1, q + 1 = q1 := ⟨_, rfl⟩
  rw [hq] at hb hcp e0 e1 ho2
  rw [hq1] at hb hcp
  obtain ⟨W1, hW1⟩ : ∃ W1, w.alloc (.cells #[.slice none 0 0, .slice none 0 0] 225) = W1 := ⟨_, rfl⟩
  have b1 : Below w.heap.size w W1 := by rw [← hW1]; exact belowAlloc _ _
  have B1 : Blk W1 w.heap.size 225 #[.slice none 0 0, .slice none 0 0] := by rw [← hW1]; exact Blk.new _ _ _
  have s1 : W1.heap.size = w.heap.size + 1 := by rw [← hW1]; simp
  obtain ⟨W2, hW2⟩ : ∃ W2, W1.alloc (.cells #[.slice xA xn xc, .slice xB xm xd] 225) = W2 := ⟨_, rfl⟩
  have b2 : Below W1.heap.size W1 W2 := by rw [← hW2]; exact belowAlloc _ _
  have B2 : Blk W2 W1.heap.size 225 #[.slice xA xn xc, .slice xB xm xd] := by rw [← hW2]; exact Blk.new _ _ _
  obtain ⟨W3, hW3⟩ : ∃ W3, W2.setCell ⟨z, 0, none⟩ (.slice (some ⟨g, 0, none⟩) q cap) = W3 := ⟨_, rfl⟩
  have c3 : Chg W2 W3 (fun k => k ≠ z) := by rw [← hW3]; exact chgSet16 _ _ _ _
  have B13 : Blk W3 w.heap.size 225 #[.slice none 0 0, .slice none 0 0] := (c3.block _ (B1.below' b2).lt (by show w.heap.size ≠ z; omega)).trans (B1.below' b2)
  have B23 : Blk W3 W1.heap.size 225 #[.slice xA xn xc, .slice xB xm xd] := (c3.block _ B2.lt (by show W1.heap.size ≠ z; omega)).trans B2
  have BZ3 : Blk W3 z 226 #[.slice (some ⟨g, 0, none⟩) q cap] := by rw [← hW3]; exact ((hb.below' b1).below' b2).set 0 _
  have O3 : OwnRX W3 base (.slice (some ⟨g, 0, none⟩) q cap) L := ((ho2.below b1).below b2).chg c3 fun k hk => by injection hk with hk; subst hk; show g ≠ z; omega
  have C3 : Chg w W3 (fun k => k ≠ z) := ((Chg.ofBelow b1 _).trans (Chg.ofBelow b2 fun k => k ≠ z) fun _ _ h => h).trans c3 fun _ _ h => h
  obtain ⟨W4, hW4⟩ : ∃ W4, (W3.setCell ⟨w.heap.size, 0, none⟩ (.slice xA xn xc)).setCell ⟨w.heap.size, 1, none⟩ (.slice xB xm xd) = W4 := ⟨_, rfl⟩
  have c4 : Chg W3 W4 (fun k => k ≠ w.heap.size) := by rw [← hW4]; exact (chgSet16 _ _ _ _).trans (chgSet16 _ _ _ _) fun _ _ h => h
  have B4 : Blk W4 w.heap.size 225 #[.slice xA xn xc, .slice xB xm xd] := by rw [← hW4]; exact (B13.set 0 _).set 1 _
  have HF := Lib.hid (show Blk W4 z 226 #[.slice (some ⟨g, 0, none⟩) q cap] ∧ OwnRX W4 base (.slice (some ⟨g, 0, none⟩) q cap) L ∧ Chg w W4 (fun k => k ≠ z) from
    ⟨(c4.block _ BZ3.lt (by show z ≠ w.heap.size; omega)).trans BZ3, O3.chg c4 fun k hk => by injection hk with hk; subst hk; show g ≠ w.heap.size; omega, ⟨c4.os.trans C3.os, c4.tape.trans C3.tape, c4.output.trans C3.output, Nat.le_trans C3.size c4.size, fun k hk hz => (c4.block k (Nat.lt_of_lt_of_le hk C3.size) (by show k ≠ w.heap.size; omega)).trans (C3.block k hk hz)⟩⟩)
  have H1 := Lib.hid hW1
  have H2 := Lib.hid hW2
  have H3 := Lib.hid hW3
  have H4 := Lib.hid hW4
  have H41 := Lib.hid B4
  have k0 : W1.cell? ⟨z, 0, none⟩ = some (.slice (some ⟨g, 0, none⟩) q1 cap) := (hb.below' b1).cell 0
  have k1 : W1.cell? ⟨g, q * 2, none⟩ = some (.slice xA xn xc) := (b1.cell hgl).trans e0
  have k2 : W1.cell? ⟨g, q * 2 + 1, none⟩ = some (.slice xB xm xd) := (b1.cell hgl).trans e1
  have k3 : W2.cell? ⟨z, 0, none⟩ = some (.slice (some ⟨g, 0, none⟩) q1 cap) := ((hb.below' b1).below' b2).cell 0
  have k4 : W2.frozen? ⟨z, 0, none⟩ = false := ((hb.below' b1).below' b2).frozen 0
  have k5 : W3.cell? ⟨W1.heap.size, 0, none⟩ = some (.slice xA xn xc) := B23.cell 0
  have k6 : W3.cell? ⟨W1.heap.size, 1, none⟩ = some (.slice xB xm xd) := B23.cell 1
  have k7 : W3.cell? ⟨w.heap.size, 0, none⟩ = some (.slice none 0 0) := B13.cell 0
  have k8 : W3.cell? ⟨w.heap.size, 1, none⟩ = some (.slice none 0 0) := B13.cell 1
  have k9 : W3.frozen? ⟨w.heap.size, 0, none⟩ = false := B13.frozen 0
  have k10 : W3.frozen? ⟨w.heap.size, 1, none⟩ = false := B13.frozen 1
  have hq0 : (0 : Int) ≤ q := by omega
  have hqq : (q : Int) < q1 := by omega
  have hqc : (q : Int) ≤ cap := by omega
  have hw1 : IntKind.i64.wrap ((q1 : Int) - 1) = (q : Int) := by rw [IntKind.wrap_i64]; omega
  clear hW1 hW2 hW3 hW4 b1 b2 B1 B2 c3 B13 B23 BZ3 O3 C3 c4 B4 s1 e0 e1 ho ho2 hb
  go_enter Tryz.func177, Tryz.ntmps177
  go_upto_region 1 with fail
  rw [H1.out]
  go_upto_region 3 with fail
  rw [H2.out]
  go_upto_region 4 with fail
  rw [H3.out]
  go_wp2_with fail
  rw [H4.out]
  refine bodyPost_ret (H41.out.res rfl _ rfl Tryz.underlying225 rfl infoQsX) rfl ?_
  exact ⟨rfl, _, HF.out.1, HF.out.2.1, HF.out.2.2, rfl⟩

end Go.Proofs.YtiaendggmamnkaaGreatDoor

namespace Go.Proofs.YtiaendggmamnkaaGreatDoor
open Go Go.RowKit

/-- A slice: address, length and capacity. -/
structure SlA where
  A : Option Addr
  n : Nat
  c : Nat
def slC (p : SlA) : List Value := [.slice p.A p.n p.c]
def slCs : List SlA → List Value
  | [] => []
  | p :: l => .slice p.A p.n p.c :: slCs l
theorem slCsLen : ∀ l, (slCs l).length = l.length * 1
  | [] => rfl
  | p :: l => by
    have := slCsLen l
    simp only [slCs, List.length_cons]
    omega
theorem slCsApp : ∀ a b, slCs (a ++ b) = slCs a ++ slCs b
  | [], b => rfl
  | p :: a, b => by simp only [List.cons_append, slCs, slCsApp a b]
theorem slCsAt : ∀ (l : List SlA) (j : Nat) (h : j < l.length), (slCs l)[j]? = some (.slice l[j].A l[j].n l[j].c)
  | p :: l, 0, _ => rfl
  | p :: l, j + 1, h => by
    have := slCsAt l j (by simpa using h)
    rw [slCs]
    simp only [List.getElem?_cons_succ, List.getElem_cons_succ]
    exact this
theorem slCsOne : ∀ l : List SlA, ∀ u ∈ slCs l, u.oneCell' = true
  | [], u, h => by cases h
  | p :: l, u, h => by
    rw [slCs] at h
    simp only [List.mem_cons] at h
    rcases h with rfl | h
    all_goals first
      | rfl
      | exact slCsOne l u h
/-- What a stack is after a list was pushed. -/
def pshA1 (p : SlA) (L : List SlA) : List SlA := if p.n = 0 then L else L ++ [p]
theorem infoLsX : (Tryz.prog.info? 35).map (fun i => (i.zero, i.size, i.bytes)) = some (some (.slice none 0 0), 1, 24) := by kernel_rfl
/-- The slices L in a row of the call's own. -/
def OwnSX (w : World) (base : Nat) (v : Value) (L : List SlA) : Prop := w.ownsRow base 35 1 v L.length (slCs L)
section
variable {w X : World} {base : Nat} {v : Value} {L : List SlA}
theorem OwnSX.nil (w : World) (base : Nat) : OwnSX w base (.slice none 0 0) [] := World.ownsRow_nil _ _ _ _
theorem OwnSX.chg {F : Nat → Prop} (h : OwnSX w base v L) (hc : Chg w X F) (hF : ∀ g, v.ownBlock = some g → F g) : OwnSX X base v L := by
  refine ⟨h.1, ?_⟩
  rcases h.2 with h2 | ⟨g, cap, cur, rfl, hb, hg, r⟩
  · exact .inl h2
  · exact .inr ⟨g, cap, cur, rfl, hb, (hc.block g (World.ownsRow.lt h g rfl).2 (hF g rfl)).trans hg, r⟩
theorem OwnSX.below (h : OwnSX w base v L) (hb : Below w.heap.size w X) : OwnSX X base v L := h.chg (Chg.ofBelow hb fun _ => True) fun _ _ => trivial
theorem OwnSX.lt (h : OwnSX w base v L) {g : Nat} (hg : v.ownBlock = some g) : base ≤ g ∧ g < w.heap.size := World.ownsRow.lt h g hg
/-- Its block holds slices. -/
theorem OwnSX.ty (h : OwnSX w base v L) {g : Nat} (hg : v.ownBlock = some g) : ∃ cur, w.heap[g]? = some (.cells cur 35 (0, 0)) := by
  rcases h.2 with ⟨rfl, _⟩ | ⟨k, cap, cur, rfl, _, hk, _⟩
  · simp [Value.ownBlock] at hg
  · have e1 : k = g := by simpa [Value.ownBlock] using hg
    subst e1
    exact ⟨cur, hk⟩
/-- A row that holds something: where it lies, its last slice. -/
theorem OwnSX.last {x : SlA} (h : OwnSX w base v (L ++ [x])) : ∃ g cap, v = .slice (some ⟨g, 0, none⟩) (L.length + 1) cap ∧ base ≤ g ∧ g < w.heap.size ∧ L.length + 1 ≤ cap ∧ cap ≤ maxLen ∧
    w.cell? ⟨g, L.length, none⟩ = some (.slice x.A x.n x.c) ∧ OwnSX w base (.slice (some ⟨g, 0, none⟩) L.length cap) L := by
  have hown := h
  have hlen : (L ++ [x]).length = L.length + 1 := by simp
  rcases h.2 with ⟨_, h0⟩ | ⟨g, cap, cur, hv, hb, hg, hcp, hm, hs, ht⟩
  · omega
  · rw [hlen] at hv hcp ht
    subst hv
    have hlt := (World.ownsRow.lt hown g rfl).2
    have hcell : w.cell? ⟨g, L.length, none⟩ = some (.slice x.A x.n x.c) := by
      have h5 := slCsAt (L ++ [x]) L.length (by simp)
      rw [List.getElem_append_right (Nat.le_refl _)] at h5
      simp only [Nat.sub_self, List.getElem_cons_zero] at h5
      have h6 := World.ownsRow.cells hown (g := g) rfl L.length _ h5
      rw [Addr.add_lit, Nat.zero_add] at h6
      exact h6
    refine ⟨g, cap, rfl, hb, hlt, hcp, hm, hcell, slCsLen L, .inr ⟨g, cap, cur, rfl, hb, hg, by omega, hm, hs, ?_⟩⟩
    have h7 := congrArg (List.take (L.length * 1)) ht
    rw [List.take_take, Nat.min_eq_left (by omega), slCsApp, List.take_append_of_le_length (by rw [slCsLen]; exact Nat.le_refl _), ← slCsLen L, List.take_length] at h7
    rwa [slCsLen] at h7
/-- append of a slice. -/
theorem OwnSX.push (h : OwnSX w base v L) (hL : L.length ≤ 10000000) (hbase : base ≤ w.heap.size) {i : SlA} {g : Nat} (hg : Blk w g 35 (slC i).toArray) (ty : TypeId) :
    ∃ v' w', (Builtin.append_ #[220, 220] ty #[v, .slice (some ⟨g, 0, none⟩) 1 1]).run Tryz.prog w = .ok v' w' ∧ OwnSX w' base v' (L ++ [i]) ∧ w.grownBy w' v.ownBlock ∧ (v'.ownBlock = v.ownBlock ∨ v'.ownBlock = some w.heap.size) := by
  obtain ⟨i0, hi, hz0, hz1, hz2⟩ := info_parts infoLsX
  have hnews : ∀ j u, (slCs [i])[j]? = some u → w.cell? ((⟨g, 0, none⟩ : Addr).add j) = some u := by
    intro j u hu
    have hj : j < 1 := by have := (List.getElem?_eq_some_iff.1 hu).1; rw [slCsLen] at this; simpa using this
    have hj0 : j = 0 := by omega
    subst hj0
    rw [Addr.add_lit, Nat.zero_add, hg.cell 0, List.getElem?_toArray]
    exact hu
  obtain ⟨v', w', hrun, k1, hgr, _, hblk⟩ := run_append_own_at (P := Tryz.prog) w base 220 ty 35 i0 _ 1 24 Tryz.underlying220 hi hz0 hz1 hz2 rfl (by decide) v L.length (slCs L) h ⟨g, 0, none⟩ 1 1 (slCs [i]) (by rw [slCsLen]; rfl) hnews (slCsOne _) (by unfold maxLen; omega) (by omega) hbase
  exact ⟨v', w', hrun, by unfold OwnSX; rw [slCsApp, List.length_append]; exact k1, hgr, hblk⟩
end
/-- append of one slice onto the stack in a box: what is behind it. -/
theorem pushS16X {U : World} {z base : Nat} {v : Value} {L : List SlA} (hb : Blk U z 220 #[v]) (ho : OwnSX U base v L) (hzb : v.ownBlock ≠ some z) (hbs : base ≤ U.heap.size) (hl : L.length ≤ 10000000) (p : SlA) (ty : TypeId) :
    ∃ v' w', (Builtin.append_ #[220, 220] ty #[v, .slice (some ⟨U.heap.size, 0, none⟩) 1 1]).run Tryz.prog (U.alloc (.cells #[.slice p.A p.n p.c] 35)) = .ok v' w' ∧
      w'.frozen? ⟨z, 0, none⟩ = false ∧ w'.cell? ⟨z, 0, none⟩ = some v ∧ Blk (w'.setCell ⟨z, 0, none⟩ v') z 220 #[v'] ∧ OwnSX (w'.setCell ⟨z, 0, none⟩ v') base v' (L ++ [p]) ∧ Chg U (w'.setCell ⟨z, 0, none⟩ v') (fun q => q ≠ z ∧ v.ownBlock ≠ some q) ∧ ∀ g, v'.ownBlock = some g → v.ownBlock = some g ∨ U.heap.size ≤ g := by
  have hA := ho.below (belowAlloc U (.cells (slC p).toArray 35))
  have hbA := hb.below' (belowAlloc U (.cells (slC p).toArray 35))
  have hzl := hb.lt
  obtain ⟨v', w', hrun, ho', hg, hblk⟩ := hA.push hl (by simp; omega) (i := p) (g := U.heap.size) (Blk.new _ _ _) ty
  have hc1 : Chg (U.alloc (.cells (slC p).toArray 35)) w' (fun q => v.ownBlock ≠ some q) := Chg.ofGrown hg fun _ h => h
  have hvz : v.ownBlock ≠ some z := hzb
  have hbw : Blk w' z 220 #[v] := (hc1.block _ hbA.lt hvz).trans hbA
  have hne : ∀ g, v'.ownBlock = some g → g ≠ z := fun g hg2 e => by
    subst e
    rcases hblk with h | h
    · exact hzb (h ▸ hg2)
    · rw [h] at hg2
      injection hg2 with hg2
      simp at hg2
      omega
  have hc2 : Chg w' (w'.setCell ⟨z, 0, none⟩ v') (fun q => q ≠ z) := chgSet16 w' z 0 _
  refine ⟨v', w', hrun, hbw.frozen 0, hbw.cell 0, hbw.set 0 v', ho'.chg hc2 hne, ?_⟩
  have hcU : Chg U (U.alloc (.cells (slC p).toArray 35)) (fun q => q ≠ z ∧ v.ownBlock ≠ some q) := Chg.ofBelow (belowAlloc U _) _
  refine ⟨(hcU.trans hc1 fun q _ hq => hq.2).trans hc2 fun q _ hq => hq.1, fun g hg9 => ?_⟩
  rcases hblk with h | h
  · exact .inl (h ▸ hg9)
  · rw [h] at hg9
    injection hg9 with hg9
    simp at hg9
    exact .inr (by omega)
theorem slOfSX {w : World} {base : Nat} {v : Value} {L : List SlA} (h : OwnSX w base v L) : ∃ A c, v = .slice A L.length c := by
  rcases h.2 with ⟨rfl, h2⟩ | ⟨g, cap, cur, rfl, _⟩
  · exact ⟨none, 0, by rw [h2]⟩
  · exact ⟨_, _, rfl⟩
set_option maxRecDepth 100000 in
theorem iPopSX {z base : Nat} {v : Value} {L : List SlA} {x : SlA} (w : World) (hb : Blk w z 220 #[v]) (ho : OwnSX w base v (L ++ [x])) (hzb : v.ownBlock ≠ some z) (hl : L.length ≤ 10000000) :
    Calls Tryz.prog 175 #[.pointer (some ⟨z, 0, none⟩)] w fun e w' => e = .returned (.slice x.A x.n x.c) ∧ ∃ v', Blk w' z 220 #[v'] ∧ OwnSX w' base v' L ∧ Chg w w' (fun q => q ≠ z) ∧ v'.ownBlock = v.ownBlock := by
  obtain ⟨g, cap, rfl, hgb, hgl, hcp, hcm, e0, ho2⟩ := ho.last
  have hgz : g ≠ z := fun e => hzb (by subst e; rfl)
  obtain ⟨xA, xn, xc⟩ := x
  dsimp only at e0 ⊢
  have hzl := hb.lt
  obtain ⟨q, hq⟩ : ∃ q, L.length = q := ⟨_, rfl⟩
  obtain ⟨q1, hq1⟩ : ∃ q1, q + 1 = q1 := ⟨_, rfl⟩
  rw [hq] at hb hcp e0 ho2
  rw [hq1] at hb hcp
  obtain ⟨W3, hW3⟩ : ∃ W3, w.setCell ⟨z, 0, none⟩ (.slice (some ⟨g, 0, none⟩) q cap) = W3 := ⟨_, rfl⟩
  have c3 : Chg w W3 (fun k => k ≠ z) := by rw [← hW3]; exact chgSet16 _ _ _ _
  have HF := Lib.hid (show Blk W3 z 220 #[.slice (some ⟨g, 0, none⟩) q cap] ∧ OwnSX W3 base (.slice (some ⟨g, 0, none⟩) q cap) L ∧ Chg w W3 (fun k => k ≠ z) from
    ⟨by rw [← hW3]; exact hb.set 0 _, ho2.chg c3 fun k hk => by injection hk with hk; subst hk; exact hgz, c3⟩)
  have H3 := Lib.hid hW3
  have k0 : w.cell? ⟨z, 0, none⟩ = some (.slice (some ⟨g, 0, none⟩) q1 cap) := hb.cell 0
  have k4 : w.frozen? ⟨z, 0, none⟩ = false := hb.frozen 0
  have hq0 : (0 : Int) ≤ q := by omega
  have hqq : (q : Int) < q1 := by omega
  have hqc : (q : Int) ≤ cap := by omega
  have hw1 : IntKind.i64.wrap ((q1 : Int) - 1) = (q : Int) := by rw [IntKind.wrap_i64]; omega
  clear hW3 c3 ho ho2 hb
  go_enter Tryz.func175, Tryz.ntmps175
  go_wp2_with fail
  rw [H3.out]
  go_ret
  exact ⟨rfl, _, HF.out.1, HF.out.2.1, HF.out.2.2, rfl⟩
theorem infoLsM : (Tryz.prog.info? 42).map (fun i => (i.zero, i.size, i.bytes)) = some (some (.slice none 0 0), 1, 24) := by kernel_rfl
/-- The slices L in a row of the call's own. -/
def OwnSM (w : World) (base : Nat) (v : Value) (L : List SlA) : Prop := w.ownsRow base 42 1 v L.length (slCs L)
section
variable {w X : World} {base : Nat} {v : Value} {L : List SlA}
theorem OwnSM.nil (w : World) (base : Nat) : OwnSM w base (.slice none 0 0) [] := World.ownsRow_nil _ _ _ _
theorem OwnSM.chg {F : Nat → Prop} (h : OwnSM w base v L) (hc : Chg w X F) (hF : ∀ g, v.ownBlock = some g → F g) : OwnSM X base v L := by
  refine ⟨h.1, ?_⟩
  rcases h.2 with h2 | ⟨g, cap, cur, rfl, hb, hg, r⟩
  · exact .inl h2
  · exact .inr ⟨g, cap, cur, rfl, hb, (hc.block g (World.ownsRow.lt h g rfl).2 (hF g rfl)).trans hg, r⟩
theorem OwnSM.below (h : OwnSM w base v L) (hb : Below w.heap.size w X) : OwnSM X base v L := h.chg (Chg.ofBelow hb fun _ => True) fun _ _ => trivial
theorem OwnSM.lt (h : OwnSM w base v L) {g : Nat} (hg : v.ownBlock = some g) : base ≤ g ∧ g < w.heap.size := World.ownsRow.lt h g hg
/-- Its block holds slices. -/
theorem OwnSM.ty (h : OwnSM w base v L) {g : Nat} (hg : v.ownBlock = some g) : ∃ cur, w.heap[g]? = some (.cells cur 42 (0, 0)) := by
  rcases h.2 with ⟨rfl, _⟩ | ⟨k, cap, cur, rfl, _, hk, _⟩
  · simp [Value.ownBlock] at hg
  · have e1 : k = g := by simpa [Value.ownBlock] using hg
    subst e1
    exact ⟨cur, hk⟩
/-- A row that holds something: where it lies, its last slice. -/
theorem OwnSM.last {x : SlA} (h : OwnSM w base v (L ++ [x])) : ∃ g cap, v = .slice (some ⟨g, 0, none⟩) (L.length + 1) cap ∧ base ≤ g ∧ g < w.heap.size ∧ L.length + 1 ≤ cap ∧ cap ≤ maxLen ∧
    w.cell? ⟨g, L.length, none⟩ = some (.slice x.A x.n x.c) ∧ OwnSM w base (.slice (some ⟨g, 0, none⟩) L.length cap) L := by
  have hown := h
  have hlen : (L ++ [x]).length = L.length + 1 := by simp
  rcases h.2 with ⟨_, h0⟩ | ⟨g, cap, cur, hv, hb, hg, hcp, hm, hs, ht⟩
  · omega
  · rw [hlen] at hv hcp ht
    subst hv
    have hlt := (World.ownsRow.lt hown g rfl).2
    have hcell : w.cell? ⟨g, L.length, none⟩ = some (.slice x.A x.n x.c) := by
      have h5 := slCsAt (L ++ [x]) L.length (by simp)
      rw [List.getElem_append_right (Nat.le_refl _)] at h5
      simp only [Nat.sub_self, List.getElem_cons_zero] at h5
      have h6 := World.ownsRow.cells hown (g := g) rfl L.length _ h5
      rw [Addr.add_lit, Nat.zero_add] at h6
      exact h6
    refine ⟨g, cap, rfl, hb, hlt, hcp, hm, hcell, slCsLen L, .inr ⟨g, cap, cur, rfl, hb, hg, by omega, hm, hs, ?_⟩⟩
    have h7 := congrArg (List.take (L.length * 1)) ht
    rw [List.take_take, Nat.min_eq_left (by omega), slCsApp, List.take_append_of_le_length (by rw [slCsLen]; exact Nat.le_refl _), ← slCsLen L, List.take_length] at h7
    rwa [slCsLen] at h7
/-- append of a slice. -/
theorem OwnSM.push (h : OwnSM w base v L) (hL : L.length ≤ 10000000) (hbase : base ≤ w.heap.size) {i : SlA} {g : Nat} (hg : Blk w g 42 (slC i).toArray) (ty : TypeId) :
    ∃ v' w', (Builtin.append_ #[162, 162] ty #[v, .slice (some ⟨g, 0, none⟩) 1 1]).run Tryz.prog w = .ok v' w' ∧ OwnSM w' base v' (L ++ [i]) ∧ w.grownBy w' v.ownBlock ∧ (v'.ownBlock = v.ownBlock ∨ v'.ownBlock = some w.heap.size) := by
  obtain ⟨i0, hi, hz0, hz1, hz2⟩ := info_parts infoLsM
  have hnews : ∀ j u, (slCs [i])[j]? = some u → w.cell? ((⟨g, 0, none⟩ : Addr).add j) = some u := by
    intro j u hu
    have hj : j < 1 := by have := (List.getElem?_eq_some_iff.1 hu).1; rw [slCsLen] at this; simpa using this
    have hj0 : j = 0 := by omega
    subst hj0
    rw [Addr.add_lit, Nat.zero_add, hg.cell 0, List.getElem?_toArray]
    exact hu
  obtain ⟨v', w', hrun, k1, hgr, _, hblk⟩ := run_append_own_at (P := Tryz.prog) w base 162 ty 42 i0 _ 1 24 Tryz.underlying162 hi hz0 hz1 hz2 rfl (by decide) v L.length (slCs L) h ⟨g, 0, none⟩ 1 1 (slCs [i]) (by rw [slCsLen]; rfl) hnews (slCsOne _) (by unfold maxLen; omega) (by omega) hbase
  exact ⟨v', w', hrun, by unfold OwnSM; rw [slCsApp, List.length_append]; exact k1, hgr, hblk⟩
end
/-- append of one slice onto the stack in a box: what is behind it. -/
theorem pushS16M {U : World} {z base : Nat} {v : Value} {L : List SlA} (hb : Blk U z 162 #[v]) (ho : OwnSM U base v L) (hzb : v.ownBlock ≠ some z) (hbs : base ≤ U.heap.size) (hl : L.length ≤ 10000000) (p : SlA) (ty : TypeId) :
    ∃ v' w', (Builtin.append_ #[162, 162] ty #[v, .slice (some ⟨U.heap.size, 0, none⟩) 1 1]).run Tryz.prog (U.alloc (.cells #[.slice p.A p.n p.c] 42)) = .ok v' w' ∧
      w'.frozen? ⟨z, 0, none⟩ = false ∧ w'.cell? ⟨z, 0, none⟩ = some v ∧ Blk (w'.setCell ⟨z, 0, none⟩ v') z 162 #[v'] ∧ OwnSM (w'.setCell ⟨z, 0, none⟩ v') base v' (L ++ [p]) ∧ Chg U (w'.setCell ⟨z, 0, none⟩ v') (fun q => q ≠ z ∧ v.ownBlock ≠ some q) ∧ ∀ g, v'.ownBlock = some g → v.ownBlock = some g ∨ U.heap.size ≤ g := by
  have hA := ho.below (belowAlloc U (.cells (slC p).toArray 42))
  have hbA := hb.below' (belowAlloc U (.cells (slC p).toArray 42))
  have hzl := hb.lt
  obtain ⟨v', w', hrun, ho', hg, hblk⟩ := hA.push hl (by simp; omega) (i := p) (g := U.heap.size) (Blk.new _ _ _) ty
  have hc1 : Chg (U.alloc (.cells (slC p).toArray 42)) w' (fun q => v.ownBlock ≠ some q) := Chg.ofGrown hg fun _ h => h
  have hvz : v.ownBlock ≠ some z := hzb
  have hbw : Blk w' z 162 #[v] := (hc1.block _ hbA.lt hvz).trans hbA
  have hne : ∀ g, v'.ownBlock = some g → g ≠ z := fun g hg2 e => by
    subst e
    rcases hblk with h | h
    · exact hzb (h ▸ hg2)
    · rw [h] at hg2
      injection hg2 with hg2
      simp at hg2
      omega
  have hc2 : Chg w' (w'.setCell ⟨z, 0, none⟩ v') (fun q => q ≠ z) := chgSet16 w' z 0 _
  refine ⟨v', w', hrun, hbw.frozen 0, hbw.cell 0, hbw.set 0 v', ho'.chg hc2 hne, ?_⟩
  have hcU : Chg U (U.alloc (.cells (slC p).toArray 42)) (fun q => q ≠ z ∧ v.ownBlock ≠ some q) := Chg.ofBelow (belowAlloc U _) _
  refine ⟨(hcU.trans hc1 fun q _ hq => hq.2).trans hc2 fun q _ hq => hq.1, fun g hg9 => ?_⟩
  rcases hblk with h | h
  · exact .inl (h ▸ hg9)
  · rw [h] at hg9
    injection hg9 with hg9
    simp at hg9
    exact .inr (by omega)
theorem slOfSM {w : World} {base : Nat} {v : Value} {L : List SlA} (h : OwnSM w base v L) : ∃ A c, v = .slice A L.length c := by
  rcases h.2 with ⟨rfl, h2⟩ | ⟨g, cap, cur, rfl, _⟩
  · exact ⟨none, 0, by rw [h2]⟩
  · exact ⟨_, _, rfl⟩
set_option maxRecDepth 100000 in
theorem iPopSM {z base : Nat} {v : Value} {L : List SlA} {x : SlA} (w : World) (hb : Blk w z 162 #[v]) (ho : OwnSM w base v (L ++ [x])) (hzb : v.ownBlock ≠ some z) (hl : L.length ≤ 10000000) :
    Calls Tryz.prog 120 #[.pointer (some ⟨z, 0, none⟩)] w fun e w' => e = .returned (.slice x.A x.n x.c) ∧ ∃ v', Blk w' z 162 #[v'] ∧ OwnSM w' base v' L ∧ Chg w w' (fun q => q ≠ z) ∧ v'.ownBlock = v.ownBlock := by
  obtain ⟨g, cap, rfl, hgb, hgl, hcp, hcm, e0, ho2⟩ := ho.last
  have hgz : g ≠ z := fun e => hzb (by subst e; rfl)
  obtain ⟨xA, xn, xc⟩ := x
  dsimp only at e0 ⊢
  have hzl := hb.lt
  obtain ⟨q, hq⟩ : ∃ q, L.length = q := ⟨_, rfl⟩
  obtain ⟨q1, hq1⟩ : ∃ q1, q + 1 = q1 := ⟨_, rfl⟩
  rw [hq] at hb hcp e0 ho2
  rw [hq1] at hb hcp
  obtain ⟨W3, hW3⟩ : ∃ W3, w.setCell ⟨z, 0, none⟩ (.slice (some ⟨g, 0, none⟩) q cap) = W3 := ⟨_, rfl⟩
  have c3 : Chg w W3 (fun k => k ≠ z) := by rw [← hW3]; exact chgSet16 _ _ _ _
  have HF := Lib.hid (show Blk W3 z 162 #[.slice (some ⟨g, 0, none⟩) q cap] ∧ OwnSM W3 base (.slice (some ⟨g, 0, none⟩) q cap) L ∧ Chg w W3 (fun k => k ≠ z) from
    ⟨by rw [← hW3]; exact hb.set 0 _, ho2.chg c3 fun k hk => by injection hk with hk; subst hk; exact hgz, c3⟩)
  have H3 := Lib.hid hW3
  have k0 : w.cell? ⟨z, 0, none⟩ = some (.slice (some ⟨g, 0, none⟩) q1 cap) := hb.cell 0
  have k4 : w.frozen? ⟨z, 0, none⟩ = false := hb.frozen 0
  have hq0 : (0 : Int) ≤ q := by omega
  have hqq : (q : Int) < q1 := by omega
  have hqc : (q : Int) ≤ cap := by omega
  have hw1 : IntKind.i64.wrap ((q1 : Int) - 1) = (q : Int) := by rw [IntKind.wrap_i64]; omega
  clear hW3 c3 ho ho2 hb
  go_enter Tryz.func120, Tryz.ntmps120
  go_wp2_with fail
  rw [H3.out]
  go_ret
  exact ⟨rfl, _, HF.out.1, HF.out.2.1, HF.out.2.2, rfl⟩
end Go.Proofs.YtiaendggmamnkaaGreatDoor
