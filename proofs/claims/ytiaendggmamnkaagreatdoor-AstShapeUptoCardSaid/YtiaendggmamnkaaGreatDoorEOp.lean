/-
  Rows of the parts of a visit (what is left of a list, with its level), of the call's own: they grow and shrink at their end.
-/
import Derived.Test.YtiaendggmamnkaaGreatDoorEAsW
import Derived.Test.YtiaendggmamnkaaGreatDoorEOw
import Derived.Test.YtiaendggmamnkaaGreatDoorProg
import Derived.KernelRfl
import Derived.OwnWalk
import Derived.ProofKit
import Derived.Lib.Hide
import Derived.BigQuiet
import Derived.Deep.QuietTactic
import Derived.Deep.Cut
import Derived.Lib.AppendZeros
namespace Go.Proofs.YtiaendggmamnkaaGreatDoor
open Go Go.RowKit

/-- A part of a visit: a slice's address, length and capacity, and the level. -/
structure PtA where
  A : Option Addr
  n : Nat
  c : Nat
  l : Nat
def ptC (p : PtA) : List Value := [.slice p.A p.n p.c, .int .i64 (p.l : Int)]
def ptCs : List PtA → List Value
  | [] => []
  | p :: l => .slice p.A p.n p.c :: .int .i64 (p.l : Int) :: ptCs l
theorem ptCsLen : ∀ l, (ptCs l).length = l.length * 2
  | [] => rfl
  | p :: l => by
    have := ptCsLen l
    simp only [ptCs, List.length_cons]
    omega
theorem ptCsApp : ∀ a b, ptCs (a ++ b) = ptCs a ++ ptCs b
  | [], b => rfl
  | p :: a, b => by simp only [List.cons_append, ptCs, ptCsApp a b]
theorem ptCsAt : ∀ (l : List PtA) (j : Nat) (h : j < l.length) (i : Nat), i < 2 → (ptCs l)[j * 2 + i]? = (ptC l[j])[i]?
  | p :: l, 0, _, i, hi => by
    have : i = 0 ∨ i = 1 := by omega
    rcases this with rfl | rfl <;> rfl
  | p :: l, j + 1, h, i, hi => by
    have := ptCsAt l j (by simpa using h) i hi
    rw [ptCs, show (j + 1) * 2 + i = j * 2 + i + 1 + 1 by omega]
    simp only [List.getElem?_cons_succ, List.getElem_cons_succ]
    exact this
theorem ptCsOne : ∀ l : List PtA, ∀ u ∈ ptCs l, u.oneCell' = true
  | [], u, h => by cases h
  | p :: l, u, h => by
    rw [ptCs] at h
    simp only [List.mem_cons] at h
    rcases h with rfl | rfl | h
    all_goals first
      | rfl
      | exact ptCsOne l u h

theorem infoPtM : (Tryz.prog.info? 215).map (fun i => (i.zero, i.size, i.bytes)) = some (some (.agg #[.slice none 0 0, .int .i64 0]), 2, 32) := by kernel_rfl
/-- The parts L in a row of the call's own. -/
def OwnPM (w : World) (base : Nat) (v : Value) (L : List PtA) : Prop := w.ownsRow base 215 2 v L.length (ptCs L)
section
variable {w X : World} {base : Nat} {v : Value} {L : List PtA}
theorem OwnPM.nil (w : World) (base : Nat) : OwnPM w base (.slice none 0 0) [] := World.ownsRow_nil _ _ _ _
theorem OwnPM.chg {F : Nat → Prop} (h : OwnPM w base v L) (hc : Chg w X F) (hF : ∀ g, v.ownBlock = some g → F g) : OwnPM X base v L := by
  refine ⟨h.1, ?_⟩
  rcases h.2 with h2 | ⟨g, cap, cur, rfl, hb, hg, r⟩
  · exact .inl h2
  · exact .inr ⟨g, cap, cur, rfl, hb, (hc.block g (World.ownsRow.lt h g rfl).2 (hF g rfl)).trans hg, r⟩
theorem OwnPM.below (h : OwnPM w base v L) (hb : Below w.heap.size w X) : OwnPM X base v L := h.chg (Chg.ofBelow hb fun _ => True) fun _ _ => trivial
theorem OwnPM.lt (h : OwnPM w base v L) {g : Nat} (hg : v.ownBlock = some g) : base ≤ g ∧ g < w.heap.size := World.ownsRow.lt h g hg
/-- A row that holds something: where it lies, its last part. -/
theorem OwnPM.last {x : PtA} (h : OwnPM w base v (L ++ [x])) : ∃ g cap, v = .slice (some ⟨g, 0, none⟩) (L.length + 1) cap ∧ base ≤ g ∧ g < w.heap.size ∧ L.length + 1 ≤ cap ∧ cap ≤ maxLen ∧
    w.cell? ⟨g, L.length * 2, none⟩ = some (.slice x.A x.n x.c) ∧ w.cell? ⟨g, L.length * 2 + 1, none⟩ = some (.int .i64 (x.l : Int)) ∧ OwnPM w base (.slice (some ⟨g, 0, none⟩) L.length cap) L := by
  have hown := h
  have hlen : (L ++ [x]).length = L.length + 1 := by simp
  rcases h.2 with ⟨_, h0⟩ | ⟨g, cap, cur, hv, hb, hg, hcp, hm, hs, ht⟩
  · omega
  · rw [hlen] at hv hcp ht
    subst hv
    have hlt := (World.ownsRow.lt hown g rfl).2
    have hcell : ∀ i, i < 2 → w.cell? ⟨g, L.length * 2 + i, none⟩ = (ptC x)[i]? := fun i hi => by
      have h5 := ptCsAt (L ++ [x]) L.length (by simp) i hi
      rw [List.getElem_append_right (Nat.le_refl _)] at h5
      simp only [Nat.sub_self, List.getElem_cons_zero] at h5
      have hu : ∃ u, (ptC x)[i]? = some u := ⟨_, List.getElem?_eq_getElem (show i < (ptC x).length from hi)⟩
      obtain ⟨u, hu⟩ := hu
      rw [hu] at h5 ⊢
      have h6 := World.ownsRow.cells hown (g := g) rfl (L.length * 2 + i) u h5
      rw [Addr.add_lit, Nat.zero_add] at h6
      exact h6
    refine ⟨g, cap, rfl, hb, hlt, hcp, hm, hcell 0 (by omega), hcell 1 (by omega), ptCsLen L, .inr ⟨g, cap, cur, rfl, hb, hg, by omega, hm, hs, ?_⟩⟩
    have h7 := congrArg (List.take (L.length * 2)) ht
    rw [List.take_take, Nat.min_eq_left (by omega), ptCsApp, List.take_append_of_le_length (by rw [ptCsLen]; exact Nat.le_refl _), ← ptCsLen L, List.take_length] at h7
    rwa [ptCsLen] at h7
/-- append of a part. -/
theorem OwnPM.push (h : OwnPM w base v L) (hL : L.length ≤ 10000000) (hbase : base ≤ w.heap.size) {i : PtA} {g : Nat} (hg : Blk w g 215 (ptC i).toArray) (ty : TypeId) :
    ∃ v' w', (Builtin.append_ #[213, 213] ty #[v, .slice (some ⟨g, 0, none⟩) 1 1]).run Tryz.prog w = .ok v' w' ∧ OwnPM w' base v' (L ++ [i]) ∧ w.grownBy w' v.ownBlock ∧ (v'.ownBlock = v.ownBlock ∨ v'.ownBlock = some w.heap.size) := by
  obtain ⟨i0, hi, hz0, hz1, hz2⟩ := info_parts infoPtM
  have hnews : ∀ j u, (ptCs [i])[j]? = some u → w.cell? ((⟨g, 0, none⟩ : Addr).add j) = some u := by
    intro j u hu
    have hj : j < 2 := by have := (List.getElem?_eq_some_iff.1 hu).1; rw [ptCsLen] at this; simpa using this
    have := ptCsAt [i] 0 (by simp) j hj
    rw [Nat.zero_mul, Nat.zero_add] at this
    rw [this] at hu
    rw [Addr.add_lit, Nat.zero_add, hg.cell j]
    rw [List.getElem?_toArray]
    exact hu
  obtain ⟨v', w', hrun, k1, hgr, _, hblk⟩ := run_append_own_at (P := Tryz.prog) w base 213 ty 215 i0 _ 2 32 Tryz.underlying213 hi hz0 hz1 hz2 rfl (by decide) v L.length (ptCs L) h ⟨g, 0, none⟩ 1 1 (ptCs [i]) (by rw [ptCsLen]; rfl) hnews (ptCsOne _) (by unfold maxLen; omega) (by omega) hbase
  exact ⟨v', w', hrun, by unfold OwnPM; rw [ptCsApp, List.length_append]; exact k1, hgr, hblk⟩
theorem OwnPM.grown {w' : World} {u : World} (h : OwnPM w base v L) (hbase : base ≤ w.heap.size) (hg : w.grownBy w' v.ownBlock) (hb : Below base u w) : Below base u w' := hb.grown hg hbase fun _ hk => (h.lt hk).1
end

theorem infoPtX : (Tryz.prog.info? 206).map (fun i => (i.zero, i.size, i.bytes)) = some (some (.agg #[.slice none 0 0, .int .i64 0]), 2, 32) := by kernel_rfl
/-- The parts L in a row of the call's own. -/
def OwnPX (w : World) (base : Nat) (v : Value) (L : List PtA) : Prop := w.ownsRow base 206 2 v L.length (ptCs L)
section
variable {w X : World} {base : Nat} {v : Value} {L : List PtA}
theorem OwnPX.nil (w : World) (base : Nat) : OwnPX w base (.slice none 0 0) [] := World.ownsRow_nil _ _ _ _
theorem OwnPX.chg {F : Nat → Prop} (h : OwnPX w base v L) (hc : Chg w X F) (hF : ∀ g, v.ownBlock = some g → F g) : OwnPX X base v L := by
  refine ⟨h.1, ?_⟩
  rcases h.2 with h2 | ⟨g, cap, cur, rfl, hb, hg, r⟩
  · exact .inl h2
  · exact .inr ⟨g, cap, cur, rfl, hb, (hc.block g (World.ownsRow.lt h g rfl).2 (hF g rfl)).trans hg, r⟩
theorem OwnPX.below (h : OwnPX w base v L) (hb : Below w.heap.size w X) : OwnPX X base v L := h.chg (Chg.ofBelow hb fun _ => True) fun _ _ => trivial
theorem OwnPX.lt (h : OwnPX w base v L) {g : Nat} (hg : v.ownBlock = some g) : base ≤ g ∧ g < w.heap.size := World.ownsRow.lt h g hg
/-- A row that holds something: where it lies, its last part. -/
theorem OwnPX.last {x : PtA} (h : OwnPX w base v (L ++ [x])) : ∃ g cap, v = .slice (some ⟨g, 0, none⟩) (L.length + 1) cap ∧ base ≤ g ∧ g < w.heap.size ∧ L.length + 1 ≤ cap ∧ cap ≤ maxLen ∧
    w.cell? ⟨g, L.length * 2, none⟩ = some (.slice x.A x.n x.c) ∧ w.cell? ⟨g, L.length * 2 + 1, none⟩ = some (.int .i64 (x.l : Int)) ∧ OwnPX w base (.slice (some ⟨g, 0, none⟩) L.length cap) L := by
  have hown := h
  have hlen : (L ++ [x]).length = L.length + 1 := by simp
  rcases h.2 with ⟨_, h0⟩ | ⟨g, cap, cur, hv, hb, hg, hcp, hm, hs, ht⟩
  · omega
  · rw [hlen] at hv hcp ht
    subst hv
    have hlt := (World.ownsRow.lt hown g rfl).2
    have hcell : ∀ i, i < 2 → w.cell? ⟨g, L.length * 2 + i, none⟩ = (ptC x)[i]? := fun i hi => by
      have h5 := ptCsAt (L ++ [x]) L.length (by simp) i hi
      rw [List.getElem_append_right (Nat.le_refl _)] at h5
      simp only [Nat.sub_self, List.getElem_cons_zero] at h5
      have hu : ∃ u, (ptC x)[i]? = some u := ⟨_, List.getElem?_eq_getElem (show i < (ptC x).length from hi)⟩
      obtain ⟨u, hu⟩ := hu
      rw [hu] at h5 ⊢
      have h6 := World.ownsRow.cells hown (g := g) rfl (L.length * 2 + i) u h5
      rw [Addr.add_lit, Nat.zero_add] at h6
      exact h6
    refine ⟨g, cap, rfl, hb, hlt, hcp, hm, hcell 0 (by omega), hcell 1 (by omega), ptCsLen L, .inr ⟨g, cap, cur, rfl, hb, hg, by omega, hm, hs, ?_⟩⟩
    have h7 := congrArg (List.take (L.length * 2)) ht
    rw [List.take_take, Nat.min_eq_left (by omega), ptCsApp, List.take_append_of_le_length (by rw [ptCsLen]; exact Nat.le_refl _), ← ptCsLen L, List.take_length] at h7
    rwa [ptCsLen] at h7
/-- append of a part. -/
theorem OwnPX.push (h : OwnPX w base v L) (hL : L.length ≤ 10000000) (hbase : base ≤ w.heap.size) {i : PtA} {g : Nat} (hg : Blk w g 206 (ptC i).toArray) (ty : TypeId) :
    ∃ v' w', (Builtin.append_ #[204, 204] ty #[v, .slice (some ⟨g, 0, none⟩) 1 1]).run Tryz.prog w = .ok v' w' ∧ OwnPX w' base v' (L ++ [i]) ∧ w.grownBy w' v.ownBlock ∧ (v'.ownBlock = v.ownBlock ∨ v'.ownBlock = some w.heap.size) := by
  obtain ⟨i0, hi, hz0, hz1, hz2⟩ := info_parts infoPtX
  have hnews : ∀ j u, (ptCs [i])[j]? = some u → w.cell? ((⟨g, 0, none⟩ : Addr).add j) = some u := by
    intro j u hu
    have hj : j < 2 := by have := (List.getElem?_eq_some_iff.1 hu).1; rw [ptCsLen] at this; simpa using this
    have := ptCsAt [i] 0 (by simp) j hj
    rw [Nat.zero_mul, Nat.zero_add] at this
    rw [this] at hu
    rw [Addr.add_lit, Nat.zero_add, hg.cell j]
    rw [List.getElem?_toArray]
    exact hu
  obtain ⟨v', w', hrun, k1, hgr, _, hblk⟩ := run_append_own_at (P := Tryz.prog) w base 204 ty 206 i0 _ 2 32 Tryz.underlying204 hi hz0 hz1 hz2 rfl (by decide) v L.length (ptCs L) h ⟨g, 0, none⟩ 1 1 (ptCs [i]) (by rw [ptCsLen]; rfl) hnews (ptCsOne _) (by unfold maxLen; omega) (by omega) hbase
  exact ⟨v', w', hrun, by unfold OwnPX; rw [ptCsApp, List.length_append]; exact k1, hgr, hblk⟩
theorem OwnPX.grown {w' : World} {u : World} (h : OwnPX w base v L) (hbase : base ≤ w.heap.size) (hg : w.grownBy w' v.ownBlock) (hb : Below base u w) : Below base u w' := hb.grown hg hbase fun _ hk => (h.lt hk).1
end
end Go.Proofs.YtiaendggmamnkaaGreatDoor

namespace Go.Proofs.YtiaendggmamnkaaGreatDoor
open Go Go.RowKit

theorem chgSet16 (W : World) (b k : Nat) (v : Value) : Chg W (W.setCell ⟨b, k, none⟩ v) (fun q => q ≠ b) := ⟨rfl, rfl, rfl, by simp, fun q _ hq => heap_setCell_other W ⟨b, k, none⟩ q v hq⟩
/-- What a stack is after a list was pushed. -/
def pshA (p : PtA) (L : List PtA) : List PtA := if p.n = 0 then L else L ++ [p]


/-- append of one part onto the stack in a box: what is behind it. -/
theorem push16M {U : World} {z base : Nat} {v : Value} {L : List PtA} (hb : Blk U z 213 #[v]) (ho : OwnPM U base v L) (hzb : z < base) (hbs : base ≤ U.heap.size) (hl : L.length ≤ 10000000) (p : PtA) (ty : TypeId) :
    ∃ v' w', (Builtin.append_ #[213, 213] ty #[v, .slice (some ⟨U.heap.size, 0, none⟩) 1 1]).run Tryz.prog (U.alloc (.cells #[.slice p.A p.n p.c, .int .i64 (p.l : Int)] 215)) = .ok v' w' ∧
      w'.frozen? ⟨z, 0, none⟩ = false ∧ w'.cell? ⟨z, 0, none⟩ = some v ∧ Blk (w'.setCell ⟨z, 0, none⟩ v') z 213 #[v'] ∧ OwnPM (w'.setCell ⟨z, 0, none⟩ v') base v' (L ++ [p]) ∧ Chg U (w'.setCell ⟨z, 0, none⟩ v') (fun q => q ≠ z ∧ v.ownBlock ≠ some q) ∧ ∀ g, v'.ownBlock = some g → v.ownBlock = some g ∨ U.heap.size ≤ g := by
  have hA := ho.below (belowAlloc U (.cells (ptC p).toArray 215))
  have hbA := hb.below' (belowAlloc U (.cells (ptC p).toArray 215))
  have hzl := hb.lt
  obtain ⟨v', w', hrun, ho', hg, hblk⟩ := hA.push hl (by simp; omega) (i := p) (g := U.heap.size) (Blk.new _ _ _) ty
  have hc1 : Chg (U.alloc (.cells (ptC p).toArray 215)) w' (fun q => v.ownBlock ≠ some q) := Chg.ofGrown hg fun _ h => h
  have hvz : v.ownBlock ≠ some z := fun e => by have := (ho.lt e).1; omega
  have hbw : Blk w' z 213 #[v] := (hc1.block _ hbA.lt hvz).trans hbA
  have hne : ∀ g, v'.ownBlock = some g → g ≠ z := fun g hg2 e => by have := (ho'.lt hg2).1; omega
  have hc2 : Chg w' (w'.setCell ⟨z, 0, none⟩ v') (fun q => q ≠ z) := chgSet16 w' z 0 _
  refine ⟨v', w', hrun, hbw.frozen 0, hbw.cell 0, hbw.set 0 v', ho'.chg hc2 hne, ?_⟩
  have hcU : Chg U (U.alloc (.cells (ptC p).toArray 215)) (fun q => q ≠ z ∧ v.ownBlock ≠ some q) := Chg.ofBelow (belowAlloc U _) _
  refine ⟨(hcU.trans hc1 fun q _ hq => hq.2).trans hc2 fun q _ hq => hq.1, fun g hg9 => ?_⟩
  rcases hblk with h | h
  · exact .inl (h ▸ hg9)
  · rw [h] at hg9
    injection hg9 with hg9
    simp at hg9
    exact .inr (by omega)
theorem slOfM {w : World} {base : Nat} {v : Value} {L : List PtA} (h : OwnPM w base v L) : ∃ A q c, v = .slice A q c := by
  rcases h.2 with ⟨rfl, _⟩ | ⟨g, cap, cur, rfl, _⟩
  · exact ⟨_, _, _, rfl⟩
  · exact ⟨_, _, _, rfl⟩
set_option maxRecDepth 100000 in
theorem iPushM (A : Option Addr) (n c l : Nat) {z base : Nat} {v : Value} {L : List PtA} (w : World) (hb : Blk w z 213 #[v]) (ho : OwnPM w base v L) (hzb : z < base) (hbs : base ≤ w.heap.size) (hl : L.length ≤ 10000000) :
    Calls Tryz.prog 171 #[.slice A n c, .int .i64 (l : Int), .pointer (some ⟨z, 0, none⟩)] w fun e w' => e = .returned (.tuple #[]) ∧ ∃ v', Blk w' z 213 #[v'] ∧ OwnPM w' base v' (pshA ⟨A, n, c, l⟩ L) ∧ Chg w w' (fun q => q ≠ z ∧ v.ownBlock ≠ some q) ∧ ∀ g, v'.ownBlock = some g → v.ownBlock = some g ∨ w.heap.size ≤ g := by
  by_cases hn : n = 0
  · subst hn
    have hz : ¬ ((0 : Int) < ((0 : Nat) : Int)) := by omega
    have HB := Lib.hid hb
    have HO := Lib.hid ho
    clear hb ho
    go_enter Tryz.func171, Tryz.ntmps171
    go_wp2_with fail
    go_end0
    exact ⟨rfl, v, HB.out, HO.out, Chg.ofBelow (Below.refl _ _) _, fun g h => .inl h⟩
  · have hz : (0 : Int) < (n : Int) := by omega
    obtain ⟨v', w', hrun, hf, hc, hb2, ho2, hbe, hbk⟩ := push16M hb ho hzb hbs hl ⟨A, n, c, l⟩ 213
    have e0 : pshA ⟨A, n, c, l⟩ L = L ++ [⟨A, n, c, l⟩] := if_neg hn
    obtain ⟨A0, q0, k0, rfl⟩ := slOfM ho
    obtain ⟨A1, q1, k1, rfl⟩ := slOfM ho2
    have c0 : w.cell? ⟨z, 0, none⟩ = some (.slice A0 q0 k0) := hb.cell 0
    dsimp only at hrun
    have HX := Lib.hid (show Blk _ z 213 #[.slice A1 q1 k1] ∧ OwnPM _ base (.slice A1 q1 k1) (pshA ⟨A, n, c, l⟩ L) ∧ Chg w _ (fun q => q ≠ z ∧ (Value.slice A0 q0 k0).ownBlock ≠ some q) ∧ ∀ g, (Value.slice A1 q1 k1).ownBlock = some g → (Value.slice A0 q0 k0).ownBlock = some g ∨ w.heap.size ≤ g from ⟨hb2, e0 ▸ ho2, hbe, hbk⟩)
    clear hb ho hb2 ho2 hbe hbk e0 hn
    go_enter Tryz.func171, Tryz.ntmps171
    go_wp2_with (at_builtin; refine Lib.wpList_append_run _ rfl _ _ _ _ rfl _ _ rfl rfl _ _ hrun ?_)
    go_end0
    exact ⟨rfl, _, HX.out⟩
theorem infoPsM : (Tryz.prog.info? 215).map (·.size) = some 2 := by kernel_rfl
set_option maxRecDepth 100000 in
theorem iPopM {z base : Nat} {v : Value} {L : List PtA} {x : PtA} (w : World) (hb : Blk w z 213 #[v]) (ho : OwnPM w base v (L ++ [x])) (hzb : z < base) (hl : L.length ≤ 10000000) :
    Calls Tryz.prog 172 #[.pointer (some ⟨z, 0, none⟩)] w fun e w' => e = .returned (.agg #[.slice x.A x.n x.c, .int .i64 (x.l : Int)]) ∧ ∃ v', Blk w' z 213 #[v'] ∧ OwnPM w' base v' L ∧ Chg w w' (fun q => q ≠ z) ∧ v'.ownBlock = v.ownBlock := by
  obtain ⟨g, cap, rfl, hgb, hgl, hcp, hcm, e0, e1, ho2⟩ := ho.last
  obtain ⟨xA, xn, xc, xl⟩ := x
  dsimp only at e0 e1 ⊢
  have hzl := hb.lt
  obtain ⟨q, hq⟩ : ∃ q, L.length = q := ⟨_, rfl⟩
  obtain ⟨q1, hq1⟩ : ∃ q1, q + 1 = q1 := ⟨_, rfl⟩
  rw [hq] at hb hcp e0 e1 ho2
  rw [hq1] at hb hcp
  obtain ⟨W1, hW1⟩ : ∃ W1, w.alloc (.cells #[.slice none 0 0, .int .i64 0] 215) = W1 := ⟨_, rfl⟩
  have b1 : Below w.heap.size w W1 := by rw [← hW1]; exact belowAlloc _ _
  have B1 : Blk W1 w.heap.size 215 #[.slice none 0 0, .int .i64 0] := by rw [← hW1]; exact Blk.new _ _ _
  have s1 : W1.heap.size = w.heap.size + 1 := by rw [← hW1]; simp
  obtain ⟨W2, hW2⟩ : ∃ W2, W1.alloc (.cells #[.slice xA xn xc, .int .i64 (xl : Int)] 215) = W2 := ⟨_, rfl⟩
  have b2 : Below W1.heap.size W1 W2 := by rw [← hW2]; exact belowAlloc _ _
  have B2 : Blk W2 W1.heap.size 215 #[.slice xA xn xc, .int .i64 (xl : Int)] := by rw [← hW2]; exact Blk.new _ _ _
  obtain ⟨W3, hW3⟩ : ∃ W3, W2.setCell ⟨z, 0, none⟩ (.slice (some ⟨g, 0, none⟩) q cap) = W3 := ⟨_, rfl⟩
  have c3 : Chg W2 W3 (fun k => k ≠ z) := by rw [← hW3]; exact chgSet16 _ _ _ _
  have B13 : Blk W3 w.heap.size 215 #[.slice none 0 0, .int .i64 0] := (c3.block _ (B1.below' b2).lt (by show w.heap.size ≠ z; omega)).trans (B1.below' b2)
  have B23 : Blk W3 W1.heap.size 215 #[.slice xA xn xc, .int .i64 (xl : Int)] := (c3.block _ B2.lt (by show W1.heap.size ≠ z; omega)).trans B2
  have BZ3 : Blk W3 z 213 #[.slice (some ⟨g, 0, none⟩) q cap] := by rw [← hW3]; exact ((hb.below' b1).below' b2).set 0 _
  have O3 : OwnPM W3 base (.slice (some ⟨g, 0, none⟩) q cap) L := ((ho2.below b1).below b2).chg c3 fun k hk => by injection hk with hk; subst hk; show g ≠ z; omega
  have C3 : Chg w W3 (fun k => k ≠ z) := ((Chg.ofBelow b1 _).trans (Chg.ofBelow b2 fun k => k ≠ z) fun _ _ h => h).trans c3 fun _ _ h => h
  obtain ⟨W4, hW4⟩ : ∃ W4, (W3.setCell ⟨w.heap.size, 0, none⟩ (.slice xA xn xc)).setCell ⟨w.heap.size, 1, none⟩ (.int .i64 (xl : Int)) = W4 := ⟨_, rfl⟩
  have c4 : Chg W3 W4 (fun k => k ≠ w.heap.size) := by rw [← hW4]; exact (chgSet16 _ _ _ _).trans (chgSet16 _ _ _ _) fun _ _ h => h
  have B4 : Blk W4 w.heap.size 215 #[.slice xA xn xc, .int .i64 (xl : Int)] := by rw [← hW4]; exact (B13.set 0 _).set 1 _
  have HF := Lib.hid (show Blk W4 z 213 #[.slice (some ⟨g, 0, none⟩) q cap] ∧ OwnPM W4 base (.slice (some ⟨g, 0, none⟩) q cap) L ∧ Chg w W4 (fun k => k ≠ z) from
    ⟨(c4.block _ BZ3.lt (by show z ≠ w.heap.size; omega)).trans BZ3, O3.chg c4 fun k hk => by injection hk with hk; subst hk; show g ≠ w.heap.size; omega, ⟨c4.os.trans C3.os, c4.tape.trans C3.tape, c4.output.trans C3.output, Nat.le_trans C3.size c4.size, fun k hk hz => (c4.block k (Nat.lt_of_lt_of_le hk C3.size) (by show k ≠ w.heap.size; omega)).trans (C3.block k hk hz)⟩⟩)
  have H1 := Lib.hid hW1
  have H2 := Lib.hid hW2
  have H3 := Lib.hid hW3
  have H4 := Lib.hid hW4
  have H41 := Lib.hid B4
  have k0 : W1.cell? ⟨z, 0, none⟩ = some (.slice (some ⟨g, 0, none⟩) q1 cap) := (hb.below' b1).cell 0
  have k1 : W1.cell? ⟨g, q * 2, none⟩ = some (.slice xA xn xc) := (b1.cell hgl).trans e0
  have k2 : W1.cell? ⟨g, q * 2 + 1, none⟩ = some (.int .i64 (xl : Int)) := (b1.cell hgl).trans e1
  have k3 : W2.cell? ⟨z, 0, none⟩ = some (.slice (some ⟨g, 0, none⟩) q1 cap) := ((hb.below' b1).below' b2).cell 0
  have k4 : W2.frozen? ⟨z, 0, none⟩ = false := ((hb.below' b1).below' b2).frozen 0
  have k5 : W3.cell? ⟨W1.heap.size, 0, none⟩ = some (.slice xA xn xc) := B23.cell 0
  have k6 : W3.cell? ⟨W1.heap.size, 1, none⟩ = some (.int .i64 (xl : Int)) := B23.cell 1
  have k7 : W3.cell? ⟨w.heap.size, 0, none⟩ = some (.slice none 0 0) := B13.cell 0
  have k8 : W3.cell? ⟨w.heap.size, 1, none⟩ = some (.int .i64 0) := B13.cell 1
  have k9 : W3.frozen? ⟨w.heap.size, 0, none⟩ = false := B13.frozen 0
  have k10 : W3.frozen? ⟨w.heap.size, 1, none⟩ = false := B13.frozen 1
  have hq0 : (0 : Int) ≤ q := by omega
  have hqq : (q : Int) < q1 := by omega
  have hqc : (q : Int) ≤ cap := by omega
  have hw1 : IntKind.i64.wrap ((q1 : Int) - 1) = (q : Int) := by rw [IntKind.wrap_i64]; omega
  clear hW1 hW2 hW3 hW4 b1 b2 B1 B2 c3 B13 B23 BZ3 O3 C3 c4 B4 s1 e0 e1 ho ho2 hb
  go_enter Tryz.func172, Tryz.ntmps172
  go_upto_region 1 with fail
  rw [H1.out]
  go_upto_region 3 with fail
  rw [H2.out]
  go_upto_region 4 with fail
  rw [H3.out]
  go_wp2_with fail
  rw [H4.out]
  refine bodyPost_ret (H41.out.res rfl _ rfl Tryz.underlying215 rfl infoPsM) rfl ?_
  exact ⟨rfl, _, HF.out.1, HF.out.2.1, HF.out.2.2, rfl⟩


/-- append of one part onto the stack in a box: what is behind it. -/
theorem push16X {U : World} {z base : Nat} {v : Value} {L : List PtA} (hb : Blk U z 204 #[v]) (ho : OwnPX U base v L) (hzb : z < base) (hbs : base ≤ U.heap.size) (hl : L.length ≤ 10000000) (p : PtA) (ty : TypeId) :
    ∃ v' w', (Builtin.append_ #[204, 204] ty #[v, .slice (some ⟨U.heap.size, 0, none⟩) 1 1]).run Tryz.prog (U.alloc (.cells #[.slice p.A p.n p.c, .int .i64 (p.l : Int)] 206)) = .ok v' w' ∧
      w'.frozen? ⟨z, 0, none⟩ = false ∧ w'.cell? ⟨z, 0, none⟩ = some v ∧ Blk (w'.setCell ⟨z, 0, none⟩ v') z 204 #[v'] ∧ OwnPX (w'.setCell ⟨z, 0, none⟩ v') base v' (L ++ [p]) ∧ Chg U (w'.setCell ⟨z, 0, none⟩ v') (fun q => q ≠ z ∧ v.ownBlock ≠ some q) ∧ ∀ g, v'.ownBlock = some g → v.ownBlock = some g ∨ U.heap.size ≤ g := by
  have hA := ho.below (belowAlloc U (.cells (ptC p).toArray 206))
  have hbA := hb.below' (belowAlloc U (.cells (ptC p).toArray 206))
  have hzl := hb.lt
  obtain ⟨v', w', hrun, ho', hg, hblk⟩ := hA.push hl (by simp; omega) (i := p) (g := U.heap.size) (Blk.new _ _ _) ty
  have hc1 : Chg (U.alloc (.cells (ptC p).toArray 206)) w' (fun q => v.ownBlock ≠ some q) := Chg.ofGrown hg fun _ h => h
  have hvz : v.ownBlock ≠ some z := fun e => by have := (ho.lt e).1; omega
  have hbw : Blk w' z 204 #[v] := (hc1.block _ hbA.lt hvz).trans hbA
  have hne : ∀ g, v'.ownBlock = some g → g ≠ z := fun g hg2 e => by have := (ho'.lt hg2).1; omega
  have hc2 : Chg w' (w'.setCell ⟨z, 0, none⟩ v') (fun q => q ≠ z) := chgSet16 w' z 0 _
  refine ⟨v', w', hrun, hbw.frozen 0, hbw.cell 0, hbw.set 0 v', ho'.chg hc2 hne, ?_⟩
  have hcU : Chg U (U.alloc (.cells (ptC p).toArray 206)) (fun q => q ≠ z ∧ v.ownBlock ≠ some q) := Chg.ofBelow (belowAlloc U _) _
  refine ⟨(hcU.trans hc1 fun q _ hq => hq.2).trans hc2 fun q _ hq => hq.1, fun g hg9 => ?_⟩
  rcases hblk with h | h
  · exact .inl (h ▸ hg9)
  · rw [h] at hg9
    injection hg9 with hg9
    simp at hg9
    exact .inr (by omega)
theorem slOfX {w : World} {base : Nat} {v : Value} {L : List PtA} (h : OwnPX w base v L) : ∃ A q c, v = .slice A q c := by
  rcases h.2 with ⟨rfl, _⟩ | ⟨g, cap, cur, rfl, _⟩
  · exact ⟨_, _, _, rfl⟩
  · exact ⟨_, _, _, rfl⟩
set_option maxRecDepth 100000 in
theorem iPushX (A : Option Addr) (n c l : Nat) {z base : Nat} {v : Value} {L : List PtA} (w : World) (hb : Blk w z 204 #[v]) (ho : OwnPX w base v L) (hzb : z < base) (hbs : base ≤ w.heap.size) (hl : L.length ≤ 10000000) :
    Calls Tryz.prog 165 #[.slice A n c, .int .i64 (l : Int), .pointer (some ⟨z, 0, none⟩)] w fun e w' => e = .returned (.tuple #[]) ∧ ∃ v', Blk w' z 204 #[v'] ∧ OwnPX w' base v' (pshA ⟨A, n, c, l⟩ L) ∧ Chg w w' (fun q => q ≠ z ∧ v.ownBlock ≠ some q) ∧ ∀ g, v'.ownBlock = some g → v.ownBlock = some g ∨ w.heap.size ≤ g := by
  by_cases hn : n = 0
  · subst hn
    have hz : ¬ ((0 : Int) < ((0 : Nat) : Int)) := by omega
    have HB := Lib.hid hb
    have HO := Lib.hid ho
    clear hb ho
    go_enter Tryz.func165, Tryz.ntmps165
    go_wp2_with fail
    go_end0
    exact ⟨rfl, v, HB.out, HO.out, Chg.ofBelow (Below.refl _ _) _, fun g h => .inl h⟩
  · have hz : (0 : Int) < (n : Int) := by omega
    obtain ⟨v', w', hrun, hf, hc, hb2, ho2, hbe, hbk⟩ := push16X hb ho hzb hbs hl ⟨A, n, c, l⟩ 204
    have e0 : pshA ⟨A, n, c, l⟩ L = L ++ [⟨A, n, c, l⟩] := if_neg hn
    obtain ⟨A0, q0, k0, rfl⟩ := slOfX ho
    obtain ⟨A1, q1, k1, rfl⟩ := slOfX ho2
    have c0 : w.cell? ⟨z, 0, none⟩ = some (.slice A0 q0 k0) := hb.cell 0
    dsimp only at hrun
    have HX := Lib.hid (show Blk _ z 204 #[.slice A1 q1 k1] ∧ OwnPX _ base (.slice A1 q1 k1) (pshA ⟨A, n, c, l⟩ L) ∧ Chg w _ (fun q => q ≠ z ∧ (Value.slice A0 q0 k0).ownBlock ≠ some q) ∧ ∀ g, (Value.slice A1 q1 k1).ownBlock = some g → (Value.slice A0 q0 k0).ownBlock = some g ∨ w.heap.size ≤ g from ⟨hb2, e0 ▸ ho2, hbe, hbk⟩)
    clear hb ho hb2 ho2 hbe hbk e0 hn
    go_enter Tryz.func165, Tryz.ntmps165
    go_wp2_with (at_builtin; refine Lib.wpList_append_run _ rfl _ _ _ _ rfl _ _ rfl rfl _ _ hrun ?_)
    go_end0
    exact ⟨rfl, _, HX.out⟩
theorem infoPsX : (Tryz.prog.info? 206).map (·.size) = some 2 := by kernel_rfl
set_option maxRecDepth 100000 in
theorem iPopX {z base : Nat} {v : Value} {L : List PtA} {x : PtA} (w : World) (hb : Blk w z 204 #[v]) (ho : OwnPX w base v (L ++ [x])) (hzb : z < base) (hl : L.length ≤ 10000000) :
    Calls Tryz.prog 166 #[.pointer (some ⟨z, 0, none⟩)] w fun e w' => e = .returned (.agg #[.slice x.A x.n x.c, .int .i64 (x.l : Int)]) ∧ ∃ v', Blk w' z 204 #[v'] ∧ OwnPX w' base v' L ∧ Chg w w' (fun q => q ≠ z) ∧ v'.ownBlock = v.ownBlock := by
  obtain ⟨g, cap, rfl, hgb, hgl, hcp, hcm, e0, e1, ho2⟩ := ho.last
  obtain ⟨xA, xn, xc, xl⟩ := x
  dsimp only at e0 e1 ⊢
  have hzl := hb.lt
  obtain ⟨q, hq⟩ : ∃ q, L.length = q := ⟨_, rfl⟩
  obtain ⟨q1, hq1⟩ : ∃ q1, q + 1 = q1 := ⟨_, rfl⟩
  rw [hq] at hb hcp e0 e1 ho2
  rw [hq1] at hb hcp
  obtain ⟨W1, hW1⟩ : ∃ W1, w.alloc (.cells #[.slice none 0 0, .int .i64 0] 206) = W1 := ⟨_, rfl⟩
  have b1 : Below w.heap.size w W1 := by rw [← hW1]; exact belowAlloc _ _
  have B1 : Blk W1 w.heap.size 206 #[.slice none 0 0, .int .i64 0] := by rw [← hW1]; exact Blk.new _ _ _
  have s1 : W1.heap.size = w.heap.size + 1 := by rw [← hW1]; simp
  obtain ⟨W2, hW2⟩ : ∃ W2, W1.alloc (.cells #[.slice xA xn xc, .int .i64 (xl : Int)] 206) = W2 := ⟨_, rfl⟩
  have b2 : Below W1.heap.size W1 W2 := by rw [← hW2]; exact belowAlloc _ _
  have B2 : Blk W2 W1.heap.size 206 #[.slice xA xn xc, .int .i64 (xl : Int)] := by rw [← hW2]; exact Blk.new _ _ _
  obtain ⟨W3, hW3⟩ : ∃ W3, W2.setCell ⟨z, 0, none⟩ (.slice (some ⟨g, 0, none⟩) q cap) = W3 := ⟨_, rfl⟩
  have c3 : Chg W2 W3 (fun k => k ≠ z) := by rw [← hW3]; exact chgSet16 _ _ _ _
  have B13 : Blk W3 w.heap.size 206 #[.slice none 0 0, .int .i64 0] := (c3.block _ (B1.below' b2).lt (by show w.heap.size ≠ z; omega)).trans (B1.below' b2)
  have B23 : Blk W3 W1.heap.size 206 #[.slice xA xn xc, .int .i64 (xl : Int)] := (c3.block _ B2.lt (by show W1.heap.size ≠ z; omega)).trans B2
  have BZ3 : Blk W3 z 204 #[.slice (some ⟨g, 0, none⟩) q cap] := by rw [← hW3]; exact ((hb.below' b1).below' b2).set 0 _
  have O3 : OwnPX W3 base (.slice (some ⟨g, 0, none⟩) q cap) L := ((ho2.below b1).below b2).chg c3 fun k hk => by injection hk with hk; subst hk; show g ≠ z; omega
  have C3 : Chg w W3 (fun k => k ≠ z) := ((Chg.ofBelow b1 _).trans (Chg.ofBelow b2 fun k => k ≠ z) fun _ _ h => h).trans c3 fun _ _ h => h
  obtain ⟨W4, hW4⟩ : ∃ W4, (W3.setCell ⟨w.heap.size, 0, none⟩ (.slice xA xn xc)).setCell ⟨w.heap.size, 1, none⟩ (.int .i64 (xl : Int)) = W4 := ⟨_, rfl⟩
  have c4 : Chg W3 W4 (fun k => k ≠ w.heap.size) := by rw [← hW4]; exact (chgSet16 _ _ _ _).trans (chgSet16 _ _ _ _) fun _ _ h => h
  have B4 : Blk W4 w.heap.size 206 #[.slice xA xn xc, .int .i64 (xl : Int)] := by rw [← hW4]; exact (B13.set 0 _).set 1 _
  have HF := Lib.hid (show Blk W4 z 204 #[.slice (some ⟨g, 0, none⟩) q cap] ∧ OwnPX W4 base (.slice (some ⟨g, 0, none⟩) q cap) L ∧ Chg w W4 (fun k => k ≠ z) from
    ⟨(c4.block _ BZ3.lt (by show z ≠ w.heap.size; omega)).trans BZ3, O3.chg c4 fun k hk => by injection hk with hk; subst hk; show g ≠ w.heap.size; omega, ⟨c4.os.trans C3.os, c4.tape.trans C3.tape, c4.output.trans C3.output, Nat.le_trans C3.size c4.size, fun k hk hz => (c4.block k (Nat.lt_of_lt_of_le hk C3.size) (by show k ≠ w.heap.size; omega)).trans (C3.block k hk hz)⟩⟩)
  have H1 := Lib.hid hW1
  have H2 := Lib.hid hW2
  have H3 := Lib.hid hW3
  have H4 := Lib.hid hW4
  have H41 := Lib.hid B4
  have k0 : W1.cell? ⟨z, 0, none⟩ = some (.slice (some ⟨g, 0, none⟩) q1 cap) := (hb.below' b1).cell 0
  have k1 : W1.cell? ⟨g, q * 2, none⟩ = some (.slice xA xn xc) := (b1.cell hgl).trans e0
  have k2 : W1.cell? ⟨g, q * 2 + 1, none⟩ = some (.int .i64 (xl : Int)) := (b1.cell hgl).trans e1
  have k3 : W2.cell? ⟨z, 0, none⟩ = some (.slice (some ⟨g, 0, none⟩) q1 cap) := ((hb.below' b1).below' b2).cell 0
  have k4 : W2.frozen? ⟨z, 0, none⟩ = false := ((hb.below' b1).below' b2).frozen 0
  have k5 : W3.cell? ⟨W1.heap.size, 0, none⟩ = some (.slice xA xn xc) := B23.cell 0
  have k6 : W3.cell? ⟨W1.heap.size, 1, none⟩ = some (.int .i64 (xl : Int)) := B23.cell 1
  have k7 : W3.cell? ⟨w.heap.size, 0, none⟩ = some (.slice none 0 0) := B13.cell 0
  have k8 : W3.cell? ⟨w.heap.size, 1, none⟩ = some (.int .i64 0) := B13.cell 1
  have k9 : W3.frozen? ⟨w.heap.size, 0, none⟩ = false := B13.frozen 0
  have k10 : W3.frozen? ⟨w.heap.size, 1, none⟩ = false := B13.frozen 1
  have hq0 : (0 : Int) ≤ q := by omega
  have hqq : (q : Int) < q1 := by omega
  have hqc : (q : Int) ≤ cap := by omega
  have hw1 : IntKind.i64.wrap ((q1 : Int) - 1) = (q : Int) := by rw [IntKind.wrap_i64]; omega
  clear hW1 hW2 hW3 hW4 b1 b2 B1 B2 c3 B13 B23 BZ3 O3 C3 c4 B4 s1 e0 e1 ho ho2 hb
  go_enter Tryz.func166, Tryz.ntmps166
  go_upto_region 1 with fail
  rw [H1.out]
  go_upto_region 3 with fail
  rw [H2.out]
  go_upto_region 4 with fail
  rw [H3.out]
  go_wp2_with fail
  rw [H4.out]
  refine bodyPost_ret (H41.out.res rfl _ rfl Tryz.underlying206 rfl infoPsX) rfl ?_
  exact ⟨rfl, _, HF.out.1, HF.out.2.1, HF.out.2.2, rfl⟩

end Go.Proofs.YtiaendggmamnkaaGreatDoor
