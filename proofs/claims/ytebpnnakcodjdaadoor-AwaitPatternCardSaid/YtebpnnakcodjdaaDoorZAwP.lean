/-
  A row of spin loops of the call's own, that grows at its end.
-/
import Derived.Test.YtebpnnakcodjdaaDoorZAwM
import Derived.Test.YtebpnnakcodjdaaDoorZOwn
import Derived.OwnWalk
import Derived.Test.YtebpnnakcodjdaaDoorZIU
import Derived.Deep.QuietTactic
import Derived.BigQuiet
import Derived.LoopTactic
import Derived.Deep.RegionHeld3
import Derived.Deep.CutRange
import Derived.Deep.DeepCutAuto
namespace Go.Proofs.YtebpnnakcodjdaaDoor
open Go Go.RowKit

def snC (s : Nat × Nat) : List Value := [.int .i64 (s.1 : Int), .int .i64 (s.2 : Int), .int .i64 ((s.2 : Int) + 2)]
/-- The cells of a spin loop. -/
structure ESn (w : World) (b o : Nat) (s : Nat × Nat) : Prop where
  c0 : w.cell? ⟨b, o, none⟩ = some (.int .i64 (s.1 : Int))
  c1 : w.cell? ⟨b, o + 1, none⟩ = some (.int .i64 (s.2 : Int))
  c2 : w.cell? ⟨b, o + 2, none⟩ = some (.int .i64 ((s.2 : Int) + 2))
theorem stabSn : StabE ESn := fun _ _ _ _ _ hl hb h => ⟨(hb.cell hl).trans h.c0, (hb.cell hl).trans h.c1, (hb.cell hl).trans h.c2⟩
def snCs : List (Nat × Nat) → List Value
  | [] => []
  | p :: l => .int .i64 (p.1 : Int) :: .int .i64 (p.2 : Int) :: .int .i64 ((p.2 : Int) + 2) :: snCs l
theorem snCsLen : ∀ l, (snCs l).length = l.length * 3
  | [] => rfl
  | p :: l => by
    have := snCsLen l
    simp only [snCs, List.length_cons]
    omega
theorem snCsApp : ∀ a b, snCs (a ++ b) = snCs a ++ snCs b
  | [], b => rfl
  | p :: a, b => by simp only [List.cons_append, snCs, snCsApp a b]
theorem snCsAt : ∀ (l : List (Nat × Nat)) (j : Nat) (h : j < l.length) (i : Nat), i < 3 → (snCs l)[j * 3 + i]? = (snC l[j])[i]?
  | p :: l, 0, _, i, hi => by
    have : i = 0 ∨ i = 1 ∨ i = 2 := by omega
    rcases this with rfl | rfl | rfl <;> rfl
  | p :: l, j + 1, h, i, hi => by
    have := snCsAt l j (by simpa using h) i hi
    rw [snCs, show (j + 1) * 3 + i = j * 3 + i + 1 + 1 + 1 by omega]
    simp only [List.getElem?_cons_succ, List.getElem_cons_succ]
    exact this
theorem snCsOne : ∀ l : List (Nat × Nat), ∀ u ∈ snCs l, u.oneCell' = true
  | [], u, h => by cases h
  | p :: l, u, h => by
    rw [snCs] at h
    simp only [List.mem_cons] at h
    rcases h with rfl | rfl | rfl | h
    all_goals first
      | rfl
      | exact snCsOne l u h
theorem infoSn : (Tryd.prog.info? 39).map (fun i => (i.zero, i.size, i.bytes)) = some (some (.agg #[.int .i64 0, .int .i64 0, .int .i64 0]), 3, 24) := by kernel_rfl
/-- The spin loops L in a row of the call's own. -/
def OwnN (w : World) (base : Nat) (v : Value) (L : List (Nat × Nat)) : Prop := w.ownsRow base 39 3 v L.length (snCs L)
section
variable {w X : World} {base : Nat} {v : Value} {L : List (Nat × Nat)}
theorem OwnN.nil (w : World) (base : Nat) : OwnN w base (.slice none 0 0) [] := World.ownsRow_nil _ _ _ _
theorem OwnN.chg {F : Nat → Prop} (h : OwnN w base v L) (hc : Chg w X F) (hF : ∀ g, v.ownBlock = some g → F g) : OwnN X base v L := by
  refine ⟨h.1, ?_⟩
  rcases h.2 with h2 | ⟨g, cap, cur, rfl, hb, hg, r⟩
  · exact .inl h2
  · exact .inr ⟨g, cap, cur, rfl, hb, (hc.block g (World.ownsRow.lt h g rfl).2 (hF g rfl)).trans hg, r⟩
theorem OwnN.below (h : OwnN w base v L) (hb : Below w.heap.size w X) : OwnN X base v L := h.chg (Chg.ofBelow hb fun _ => True) fun _ _ => trivial
theorem OwnN.lt (h : OwnN w base v L) {g : Nat} (hg : v.ownBlock = some g) : base ≤ g ∧ g < w.heap.size := World.ownsRow.lt h g hg
theorem OwnN.rd (h : OwnN w base v L) : ∃ A c, v = .slice A L.length c ∧ RdE 3 ESn w A c L := by
  have hown := h
  rcases h.2 with ⟨rfl, h0⟩ | ⟨g, cap, cur, rfl, hb, hg, hcp, hm, hs, ht⟩
  · have : L = [] := List.eq_nil_of_length_eq_zero h0
    subst this
    exact ⟨none, 0, rfl, RdE.nil⟩
  · refine ⟨some ⟨g, 0, none⟩, cap, rfl, hcp, hm, fun _ => ⟨g, 0, rfl, (World.ownsRow.lt hown g rfl).2, fun j hj => ?_⟩⟩
    have hcell : ∀ i, i < 3 → w.cell? ⟨g, 0 + j * 3 + i, none⟩ = (snC L[j])[i]? := fun i hi => by
      have h5 := snCsAt L j hj i hi
      have hu : ∃ u, (snC L[j])[i]? = some u := ⟨_, List.getElem?_eq_getElem (show i < (snC L[j]).length from hi)⟩
      obtain ⟨u, hu⟩ := hu
      rw [hu] at h5 ⊢
      have h6 := World.ownsRow.cells hown (g := g) rfl (j * 3 + i) u h5
      rw [Addr.add_lit] at h6
      rw [show 0 + j * 3 + i = 0 + (j * 3 + i) by omega]
      exact h6
    exact ⟨hcell 0 (by omega), hcell 1 (by omega), hcell 2 (by omega)⟩
/-- append of a spin loop. -/
theorem OwnN.push (h : OwnN w base v L) (hL : L.length ≤ 100000) (hbase : base ≤ w.heap.size) {i : Nat × Nat} {g : Nat} (hg : Blk w g 39 (snC i).toArray) (ty : TypeId) :
    ∃ v' w', (Builtin.append_ #[32, 32] ty #[v, .slice (some ⟨g, 0, none⟩) 1 1]).run Tryd.prog w = .ok v' w' ∧ OwnN w' base v' (L ++ [i]) ∧ w.grownBy w' v.ownBlock ∧ (v'.ownBlock = v.ownBlock ∨ v'.ownBlock = some w.heap.size) := by
  obtain ⟨i0, hi, hz0, hz1, hz2⟩ := info_parts infoSn
  have hnews : ∀ j u, (snCs [i])[j]? = some u → w.cell? ((⟨g, 0, none⟩ : Addr).add j) = some u := by
    intro j u hu
    have hj : j < 3 := by have := (List.getElem?_eq_some_iff.1 hu).1; rw [snCsLen] at this; simpa using this
    have := snCsAt [i] 0 (by simp) j hj
    rw [Nat.zero_mul, Nat.zero_add] at this
    rw [this] at hu
    rw [Addr.add_lit, Nat.zero_add, hg.cell j]
    rw [List.getElem?_toArray]
    exact hu
  obtain ⟨v', w', hrun, k1, hgr, _, hblk⟩ := run_append_own_at (P := Tryd.prog) w base 32 ty 39 i0 _ 3 24 Tryd.underlying32 hi hz0 hz1 hz2 rfl (by decide) v L.length (snCs L) h ⟨g, 0, none⟩ 1 1 (snCs [i]) (by rw [snCsLen]; rfl) hnews (snCsOne _) (by unfold maxLen; omega) (by omega) hbase
  exact ⟨v', w', hrun, by unfold OwnN; rw [snCsApp, List.length_append]; exact k1, hgr, hblk⟩
/-- What has grown leaves what is older. -/
theorem OwnN.grown {w' : World} {u : World} (h : OwnN w base v L) (hbase : base ≤ w.heap.size) (hg : w.grownBy w' v.ownBlock) (hb : Below base u w) : Below base u w' := hb.grown hg hbase fun _ hk => (h.lt hk).1
theorem OwnN.mono {base' : Nat} (h : OwnN w base v L) (hb : base' ≤ base) : OwnN w base' v L := by
  refine ⟨h.1, ?_⟩
  rcases h.2 with h2 | ⟨g, cap, cur, rfl, hg, r⟩
  · exact .inl h2
  · exact .inr ⟨g, cap, cur, rfl, Nat.le_trans hb hg, r⟩
end
end Go.Proofs.YtebpnnakcodjdaaDoor

namespace Go.Proofs.YtebpnnakcodjdaaDoor
open Go Go.RowKit

theorem bel2 (w : World) (o p : Obj) : Below w.heap.size w ((w.alloc o).alloc p) := belowThen (belowAlloc w o) (belowAlloc _ p)
theorem iCompared (l c : I8) (w : World) : Calls Tryd.prog 36 #[l.val, c.val] w fun e w' => e = .returned (.int .i64 (awCmp l c)) ∧ Below w.heap.size w w' := by
  obtain ⟨x0, x1, x2, x3, x4, x5, x6, x7⟩ := l
  obtain ⟨y0, y1, y2, y3, y4, y5, y6, y7⟩ := c
  unfold I8.val awCmp
  simp only
  have hb := bel2 w (.cells #[.int .i64 x0, .int .i64 x1, .int .i64 x2, .int .i64 x3, .int .i64 x4, .int .i64 x5, .int .i64 x6, .int .i64 x7] 47) (.cells #[.int .i64 y0, .int .i64 y1, .int .i64 y2, .int .i64 y3, .int .i64 y4, .int .i64 y5, .int .i64 y6, .int .i64 y7] 47)
  by_cases h : y2 = x1
  · rw [if_pos h]
    have hq : (y2 == x1) = true := beq_iff_eq.2 h
    clear h
    go_enter Tryd.func36, Tryd.ntmps36
    go_wp2
    go_ret
    exact ⟨rfl, hb⟩
  · rw [if_neg h]
    have hq : (y2 == x1) = false := beq_eq_false_iff_ne.2 h
    clear h
    go_enter Tryd.func36, Tryd.ntmps36
    go_wp2
    go_ret
    exact ⟨rfl, hb⟩
/-- Is there a function for the condition? -/
def awOk (l c : I8) : Bool := awFn l c != 0
theorem iCondition (l c : I8) (w : World) : Calls Tryd.prog 35 #[l.val, c.val] w fun e w' => e = .returned (.tuple #[.int .i64 (awFn l c), .bool (awOk l c)]) ∧ Below w.heap.size w w' := by
  obtain ⟨x0, x1, x2, x3, x4, x5, x6, x7⟩ := l
  obtain ⟨y0, y1, y2, y3, y4, y5, y6, y7⟩ := c
  have hb := bel2 w (.cells #[.int .i64 x0, .int .i64 x1, .int .i64 x2, .int .i64 x3, .int .i64 x4, .int .i64 x5, .int .i64 x6, .int .i64 x7] 47) (.cells #[.int .i64 y0, .int .i64 y1, .int .i64 y2, .int .i64 y3, .int .i64 y4, .int .i64 y5, .int .i64 y6, .int .i64 y7] 47)
  unfold awOk awFn I8.val
  simp only
  by_cases g7 : y6 = 7
  · subst g7
    rw [if_pos rfl]
    go_enter Tryd.func35, Tryd.ntmps35
    go_wp2
    go_ret2
    exact ⟨rfl, hb⟩
  rw [if_neg g7]
  have d7 : (y6 == 7) = false := beq_eq_false_iff_ne.2 g7
  by_cases g8 : y6 = 8
  · subst g8
    rw [if_pos rfl]
    go_enter Tryd.func35, Tryd.ntmps35
    go_wp2
    go_ret2
    exact ⟨rfl, hb⟩
  rw [if_neg g8]
  have d8 : (y6 == 8) = false := beq_eq_false_iff_ne.2 g8
  by_cases g9 : y6 = 9
  · subst g9
    clear g7 g8 d7 d8
    by_cases hq : y3 = x1
    rotate_left
    · have dq : (y3 == x1) = false := beq_eq_false_iff_ne.2 hq
      rw [if_neg (fun h => hq h.2), if_neg (by simp)]
      clear hq
      go_enter Tryd.func35, Tryd.ntmps35
      go_wp2
      go_ret2
      exact ⟨rfl, hb⟩
    · have dq : (y3 == x1) = true := beq_iff_eq.2 hq
      rw [if_pos ⟨rfl, hq⟩]
      clear hq
      go_enter Tryd.func35, Tryd.ntmps35
      go_wp2
      go_ret2
      exact ⟨rfl, hb⟩
  rw [if_neg (fun h => g9 h.1)]
  have d9 : (y6 == 9) = false := beq_eq_false_iff_ne.2 g9
  by_cases g10 : y6 = 10
  · subst g10
    clear g7 g8 d7 d8 g9 d9
    by_cases hq : y3 = x1
    rotate_left
    · have dq : (y3 == x1) = false := beq_eq_false_iff_ne.2 hq
      rw [if_neg (fun h => hq h.2)]
      clear hq
      go_enter Tryd.func35, Tryd.ntmps35
      go_wp2
      go_ret2
      exact ⟨rfl, hb⟩
    · have dq : (y3 == x1) = true := beq_iff_eq.2 hq
      rw [if_pos ⟨rfl, hq⟩]
      clear hq
      go_enter Tryd.func35, Tryd.ntmps35
      go_wp2
      go_ret2
      exact ⟨rfl, hb⟩
  rw [if_neg (fun h => g10 h.1)]
  have d10 : (y6 == 10) = false := beq_eq_false_iff_ne.2 g10
  clear g7 g8 g9 g10
  go_enter Tryd.func35, Tryd.ntmps35
  go_wp2
  go_ret2
  exact ⟨rfl, hb⟩
/-! ### Targets -/
def entAw (n : Int) (i : I8) : Bool := (i.op == 4 || i.op == 5) && i.n == n
theorem entTo (i : I8) (n : Int) (b : Nat) (w : World) (hq : w.cell? ⟨b, 0, none⟩ = some (.int .i64 n)) : Calls Tryd.prog 70 #[i.val, .pointer (some ⟨b, 0, none⟩)] w fun e w' => e = .returned (.bool (entAw n i)) ∧ Below w.heap.size w w' := by
  obtain ⟨x0, x1, x2, x3, x4, x5, x6, x7⟩ := i
  have hb := belowAlloc w (.cells #[.int .i64 x0, .int .i64 x1, .int .i64 x2, .int .i64 x3, .int .i64 x4, .int .i64 x5, .int .i64 x6, .int .i64 x7] 47)
  have hlt := World.block_lt_of_cell? _ _ hq
  unfold I8.val entAw
  simp only
  by_cases g4 : x0 = 4
  · subst g4
    go_enter Tryd.func70, Tryd.ntmps70
    go_wp2
    go_ret
    exact ⟨by simp, hb⟩
  by_cases g5 : x0 = 5
  · subst g5
    go_enter Tryd.func70, Tryd.ntmps70
    go_wp2
    go_ret
    exact ⟨by simp, hb⟩
  have d4 : (x0 == 4) = false := beq_eq_false_iff_ne.2 g4
  have d5 : (x0 == 5) = false := beq_eq_false_iff_ne.2 g5
  clear g4 g5
  go_enter Tryd.func70, Tryd.ntmps70
  go_wp2
  go_ret
  exact ⟨by simp, hb⟩
def NoTo (C : List I8) (n : Int) (k : Nat) : Prop := ∀ j (h : j < C.length), j < k → entAw n C[j] = false
theorem NoTo.next {C : List I8} {n : Int} {k : Nat} (h : NoTo C n k) (hk : k < C.length) (e : entAw n C[k] = false) : NoTo C n (k + 1) := fun j hj hlt => by
  rcases (by omega : j < k ∨ j = k) with g | g
  · exact h j hj g
  · subst g; exact e
theorem NoTo.all {C : List I8} {n : Int} {k : Nat} (h : NoTo C n k) (hk : C.length ≤ k) : entB C n = false := by
  unfold entB
  rw [List.any_eq_false]
  intro x hx
  obtain ⟨j, hj, rfl⟩ := List.getElem_of_mem hx
  have := h j hj (by omega)
  unfold entAw at this
  simp [this]
theorem entHit {C : List I8} {n : Int} {k : Nat} (hk : k < C.length) (e : entAw n C[k] = true) : entB C n = true := List.any_eq_true.2 ⟨_, List.getElem_mem hk, e⟩
/-- What IndexFunc gives. -/
def IdxB (r : Bool) (w : World) (e : Ending) (w' : World) : Prop := (∃ x : Int, e = .returned (.int .i64 x) ∧ decide (0 ≤ x) = r) ∧ Below w.heap.size w w'
set_option maxHeartbeats 2000000 in
theorem iIdxTo (C : List I8) (m : Nat) (hm : C.length = m) (n : Int) (A : Option Addr) (c b : Nat) (w : World) (hr : RdE 8 EI w A c C) (hq : w.cell? ⟨b, 0, none⟩ = some (.int .i64 n)) :
    Calls Tryd.prog 80 #[.slice A m c, .func (.func 70) #[] #[.pointer (some ⟨b, 0, none⟩)]] w (IdxB (entB C n) w) := by
  have HF := Lib.hid (fun X (hX : Below w.heap.size w X) => (hr.below stabI hX).at_)
  have HC := Lib.hid (fun i X (hX : Below w.heap.size w X) => entTo i n b X ((hX.cell (World.block_lt_of_cell? _ _ hq)).trans hq))
  have HM := Lib.hid hm
  have hle := hr.le
  have hmx := hr.max
  rw [hm] at hle
  unfold maxLen at hmx
  obtain ⟨r, hR⟩ : ∃ r, entB C n = r := ⟨_, rfl⟩
  rw [hR]
  have HR := Lib.hid hR
  have hb0 := Below.refl w.heap.size w
  clear hr hq hR hm
  go_enter Tryd.func80, Tryd.ntmps80
  go_wp2
  go_loopw [8] (fun i wr => ∃ k : Nat, k ≤ m ∧ i = .int .i64 k ∧ Below w.heap.size w wr ∧ Hid (NoTo C n k)) (fun i _ => m - (intOf i).toNat)
  case atStart => exact ⟨0, Nat.zero_le _, rfl, hb0, Lib.hid fun j _ h => by omega⟩
  case round =>
    obtain ⟨k, hk, rfl, hb, HE⟩ := hrel
    by_cases hlt : k < m
    · have hkl : k < C.length := by rw [HM.out]; exact hlt
      obtain ⟨q, off, rfl, _, hx⟩ := HF.out wr hb (by omega)
      have hx := hx k hkl
      have hk0 : (0 : Int) ≤ k := by omega
      have hk1 : (k : Int) < m := by omega
      have HCK := Lib.hid (HC.out C[k] wr hb)
      have HNX := Lib.hid (fun e => HE.out.next hkl e)
      have HHT := Lib.hid (fun e => entHit (n := n) hkl e)
      obtain ⟨⟨x0, x1, x2, x3, x4, x5, x6, x7⟩, hi⟩ : ∃ i, C[k] = i := ⟨_, rfl⟩
      rw [hi] at hx HCK HNX HHT
      clear hi
      have c0 := hx.c0
      have c1 := hx.c1
      have c2 := hx.c2
      have c3 := hx.c3
      have c4 := hx.c4
      have c5 := hx.c5
      have c6 := hx.c6
      have c7 := hx.c7
      simp only at c0 c1 c2 c3 c4 c5 c6 c7
      unfold I8.val at HCK
      simp only at HCK
      obtain ⟨t, ht⟩ : ∃ t, entAw n ⟨x0, x1, x2, x3, x4, x5, x6, x7⟩ = t := ⟨_, rfl⟩
      rw [ht] at HCK HNX HHT
      clear hx ht
      cases t
      · have HX := Lib.hid (HNX.out rfl)
        clear HNX HHT
        go_wp2_with (go_at_call 70; refine HCK.out.mono ?_; rintro e w' ⟨rfl, bk⟩)
        go_roundw
        case rel => exact ⟨k + 1, by omega, by go_num, belowThen hb bk, HX⟩
        case measure => simp [intOf]; omega
      · have HX := Lib.hid (HHT.out rfl)
        clear HNX HHT
        go_wp2_with (go_at_call 70; refine HCK.out.mono ?_; rintro e w' ⟨rfl, bk⟩)
        go_ret
        exact ⟨⟨_, rfl, by rw [← HR.out, HX.out]; simp⟩, belowThen hb bk⟩
    · have HX := Lib.hid (HE.out.all (by rw [HM.out]; omega))
      go_wp2
      go_ret
      exact ⟨⟨_, rfl, by rw [← HR.out, HX.out]; simp⟩, hb⟩
theorem iHasTo (C : List I8) (m : Nat) (hm : C.length = m) (n : Int) (A : Option Addr) (c b : Nat) (w : World) (hr : RdE 8 EI w A c C) (hq : w.cell? ⟨b, 0, none⟩ = some (.int .i64 n)) :
    Calls Tryd.prog 69 #[.slice A m c, .func (.func 70) #[] #[.pointer (some ⟨b, 0, none⟩)]] w fun e w' => e = .returned (.bool (entB C n)) ∧ Below w.heap.size w w' := by
  have HC := Lib.hid (iIdxTo C m hm n A c b w hr hq)
  clear hr hq hm
  go_enter Tryd.func69, Tryd.ntmps69
  go_wp2_with fail
  refine HC.out.mono ?_
  rintro e w1 ⟨⟨x, rfl, hx⟩, b1⟩
  go_wp2
  go_ret
  exact ⟨by rw [← hx]; rfl, b1⟩
theorem iIsTo (C : List I8) (m : Nat) (hm : C.length = m) (n : Int) (A : Option Addr) (c : Nat) (w : World) (hr : RdE 8 EI w A c C) :
    Calls Tryd.prog 61 #[.slice A m c, .int .i64 n] w fun e w' => e = .returned (.bool (entB C n)) ∧ Below w.heap.size w w' := by
  obtain ⟨W, hW⟩ : ∃ W, w.alloc (.cells #[.int .i64 n] 3) = W := ⟨_, rfl⟩
  have hbW : Below w.heap.size w W := by rw [← hW]; exact belowAlloc w _
  have hB : Blk W w.heap.size 3 #[.int .i64 n] := by rw [← hW]; exact Blk.new w _ _
  have HC := Lib.hid (iHasTo C m hm n A c w.heap.size W (hr.below stabI hbW) (hB.cell 0))
  have HW := Lib.hid hW
  have HBW := Lib.hid hbW
  clear hr hm hW hbW hB
  go_enter Tryd.func61, Tryd.ntmps61
  go_wp2_with fail
  rw [HW.out]
  go_wp2_with fail
  refine HC.out.mono ?_
  rintro e w1 ⟨rfl, b1⟩
  go_wp2
  go_ret
  exact ⟨rfl, belowThen HBW.out b1⟩
end Go.Proofs.YtebpnnakcodjdaaDoor
