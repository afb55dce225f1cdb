/-
  A region that draws its order, by an invariant: what holds after any of its operations that may have been carried out, in whatever order. Without any program.
-/
import Derived.OrdersHeld
import Derived.Deep.RegionHeld
import Derived.Lib.Hide
import Derived.Test.YtiaendggmamnkaaGreatDoorEAsUb
import Derived.Test.YtiaendggmamnkaaGreatDoorEAsRa
import Derived.BigQuiet
import Derived.Deep.QuietTactic
namespace Go.Proofs.YtiaendggmamnkaaGreatDoor
open Go

/-- Has operation i come up? -/
def Lst (L : Array Bool) (i : Nat) : Prop := L.getD i true = true
theorem Lst.set {L : Array Bool} {i j : Nat} (h : Lst L j) : Lst (L.setIfInBounds i true) j := by
  unfold Lst at *
  by_cases hij : i = j
  · subst hij
    rcases Nat.lt_or_ge i L.size with h' | h'
    · simp [h']
    · simp [h']
  · rw [getD_set_ne true hij]; exact h
theorem Lst.self {L : Array Bool} {i : Nat} : Lst (L.setIfInBounds i true) i := by
  unfold Lst
  rcases Nat.lt_or_ge i L.size with h' | h'
  · simp [h']
  · simp [h']
theorem Lst.of {L : Array Bool} {i j : Nat} (h : Lst (L.setIfInBounds i true) j) (hij : i ≠ j) : Lst L j := by
  unfold Lst at *
  rwa [getD_set_ne true hij] at h
section
variable {P : Program} {ops : Array Oper} {Q : Exit → Act → World → Prop}
/-- Every edge leads to an operation ahead of it in the text. -/
def lowB (ops : Array Oper) : Bool := (List.range ops.size).all fun i => ((ops[i]?).map fun o => o.after.all fun e => decide (e.on < i)).getD true
theorem lowSpec (h : lowB ops = true) {i : Nat} {o : Oper} (ho : ops[i]? = some o) : ∀ e ∈ o.after, e.on < i := by
  have hi : i < ops.size := (Array.getElem?_eq_some_iff.1 ho).1
  unfold lowB at h
  rw [List.all_eq_true] at h
  have := h i (List.mem_range.2 hi)
  rw [ho] at this
  simp only [Option.map_some, Option.getD_some] at this
  intro e he
  rw [Array.all_eq_true_iff_forall_mem] at this
  exact of_decide_eq_true (this e he)
theorem allListed {md : Region.Mode} (h : lowB ops = true) {L : Array Bool} (hr : Region.ready md ops L = []) (hs : L.size = ops.size) : ∀ i, i < ops.size → Lst L i := by
  intro i
  induction i using Nat.strongRecOn with
  | ind i ih =>
    intro hi
    cases hL : L.getD i true with
    | true => exact hL
    | false =>
      exfalso
      have hm : i ∈ Region.ready md ops L := mem_ready.2 ⟨hL, ops[i], Array.getElem?_eq_getElem hi, fun e he _ => by
        have h1 := lowSpec h (Array.getElem?_eq_getElem hi) e he
        have h2 := ih e.on h1 (by omega)
        unfold Lst at h2
        have h3 : e.on < L.size := by omega
        simp [h3] at h2 ⊢
        exact h2⟩
      rw [hr] at hm
      cases hm
/-- The region by an invariant I: each operation that has not come up and whose edges lead to such as have come up keeps it. -/
theorem anyInv {md : Region.Mode} (hlow : lowB ops = true) (I : Array Bool → Act → World → Prop)
    (hstep : ∀ (L : Array Bool) (a : Act) (w : World) (i : Nat) (o : Oper), ops[i]? = some o → I L a w → ¬ Lst L i → (∀ e ∈ o.after, Region.binds md e = true → Lst L e.on) →
      ∀ K : Act → World → Prop, (∀ a' w', I (L.setIfInBounds i true) a' w' → K a' w') → if Region.wanted o (yielded ops a.tmps) = true then Oper.wp P o a w K Q else K (a.put o.dst undef) w)
    (hend : ∀ (L : Array Bool) (a : Act) (w : World), (∀ i, i < ops.size → Lst L i) → I L a w → Q .normal a w) :
    ∀ (fuel : Nat) (L : Array Bool) (a : Act) (w : World), L.size = ops.size → L.toList.count false ≤ fuel → I L a w → wpAny P md ops Q fuel L a w := by
  have hcount : ∀ (L : Array Bool) (i : Nat), L.getD i true = false → (L.setIfInBounds i true).toList.count false + 1 = L.toList.count false := by
    intro L i h
    have hi : i < L.size := by
      rcases Nat.lt_or_ge i L.size with h' | h'
      · exact h'
      · simp [h'] at h
    have hv : L.toList[i]'(by simpa using hi) = false := by simpa [hi] using h
    rw [Array.toList_setIfInBounds, List.count_set (by simpa using hi), hv]
    have hpos : 0 < L.toList.count false := List.count_pos_iff.2 (hv ▸ List.getElem_mem _)
    have e1 : (if ((false : Bool) == false) = true then 1 else 0 : Nat) = 1 := rfl
    have e2 : (if ((true : Bool) == false) = true then 1 else 0 : Nat) = 0 := rfl
    rw [e1, e2]
    omega
  intro fuel
  induction fuel with
  | zero =>
    intro L a w hs hc hI
    have hr : Region.ready md ops L = [] := by
      rcases h : Region.ready md ops L with _ | ⟨i, r⟩
      · rfl
      · exfalso
        have hm : i ∈ Region.ready md ops L := by rw [h]; simp
        have := hcount L i (mem_ready.1 hm).1
        omega
    exact ⟨hr, hend L a w (allListed hlow hr hs) hI⟩
  | succ fuel ih =>
    intro L a w hs hc hI
    refine ⟨fun hr => hend L a w (allListed hlow hr hs) hI, fun i hm => ?_⟩
    obtain ⟨h1, o, ho, h2⟩ := mem_ready.1 hm
    refine wpOp_step ho fun K hK => hstep L a w i o ho hI (by unfold Lst; rw [h1]; decide) (fun e he hb => ?_) K fun a' w' hI' => hK a' w' (ih _ a' w' (by simpa using hs) ?_ hI')
    · have := h2 e he hb
      unfold Lst
      rcases Nat.lt_or_ge e.on L.size with h' | h'
      · simp [h'] at this ⊢; exact this
      · simp [h']
    · have := hcount L i h1
      omega
/-- The beginning. -/
theorem regionInv {id : Nat} {a : Act} {w : World} (hm : P.follows .mixedOrders = true) (hlow : lowB ops = true) (I : Array Bool → Act → World → Prop) (h0 : I (Array.replicate ops.size false) a w.drew)
    (hstep : ∀ (L : Array Bool) (a : Act) (w : World) (i : Nat) (o : Oper), ops[i]? = some o → I L a w → ¬ Lst L i → (∀ e ∈ o.after, Region.binds .any e = true → Lst L e.on) →
      ∀ K : Act → World → Prop, (∀ a' w', I (L.setIfInBounds i true) a' w' → K a' w') → if Region.wanted o (yielded ops a.tmps) = true then Oper.wp P o a w K Q else K (a.put o.dst undef) w)
    (hend : ∀ (L : Array Bool) (a : Act) (w : World), (∀ i, i < ops.size → Lst L i) → I L a w → Q .normal a w) : (Code.region id ops true).wp P Q a w :=
  wp_region_any hm (anyInv hlow I hstep hend ops.size _ a _ (by simp) (by
    have : (Array.replicate ops.size false).toList.count false = ops.size := by simp
    omega) h0)
end
end Go.Proofs.YtiaendggmamnkaaGreatDoor

namespace Go.Proofs.YtiaendggmamnkaaGreatDoor
open Go Go.RowKit

abbrev sA : ByteArray := ⟨#[97]⟩
abbrev sB : ByteArray := ⟨#[98]⟩
abbrev sC : ByteArray := ⟨#[99]⟩
abbrev sP : ByteArray := ⟨#[112]⟩
abbrev sI : ByteArray := ⟨#[105, 102]⟩
abbrev s0 : ByteArray := ⟨#[]⟩
abbrev xN1 : Ex := .mk ⟨1, 1, s0, 0⟩ [] []
abbrev xL (s : ByteArray) : Ex := .mk ⟨2, 0, s, 0⟩ [] []
abbrev xS (a b : Ex) : Ex := .mk ⟨3, 0, s0, 1⟩ [a, b] []
abbrev mLet (nm : ByteArray) (e : Ex) : Sm := .mk ⟨1, nm, s0, s0, 0, 0, [e]⟩ [] []
abbrev mIf (e : Ex) (b : List Sm) : Sm := .mk ⟨18, s0, s0, s0, 0, 0, [e]⟩ b []
abbrev pcW (nm : ByteArray) : Pc := ⟨sP, sA, [mLet sB xN1, mIf (xL sA) [mLet nm (xL sB)]]⟩
abbrev unA (nm : ByteArray) : Un := ⟨[], [], [], [pcW nm], [(sP, 0)]⟩
abbrev xDeep : Ex := xS (xS (xS (xL sA) (xL sA)) (xL sA)) (xL sA)
theorem unA0 : unE (unA sC) = (0, -1, -1) := by decide +kernel
theorem unA6 : unE (unA sI) = (6, 0, 2) := by decide +kernel
theorem lcA : lcP (pcW sC) = [sA, sB, sC] := by decide +kernel
theorem ctA : Tr.szL (pcW sC).body = 3 := by decide +kernel
theorem chA : chX [sA] (xS (xL sA) (xL sB)) = 11 := by decide +kernel
theorem chD : chX [sA] xDeep = 4 := by decide +kernel
theorem dpD : Tr.dp xDeep = 4 := by decide +kernel
end Go.Proofs.YtiaendggmamnkaaGreatDoor

namespace Go.Proofs.YtiaendggmamnkaaGreatDoor
open Go Go.RowKit

set_option maxRecDepth 100000 in
set_option maxHeartbeats 2000000 in
theorem rStrings16 (l m : List ByteArray) (n k : Nat) (hn : l.length = n) (hm : m.length = k) (A B : Option Addr) (c d : Nat) (w : World) (ha : RdE 1 ES w A c l) (hb : RdE 1 ES w B d m) :
    Calls Tryz.prog 23 #[.slice A n c, .slice B k d] w fun e w' => e = .returned (.bool (decide (l = m))) ∧ Below w.heap.size w w' := by
  obtain ⟨r, hr⟩ : ∃ r, decide (l = m) = r := ⟨_, rfl⟩
  rw [hr]
  have HR := Lib.hid hr
  have HA := Lib.hid (fun X (hX : Below w.heap.size w X) j (hj : j < l.length) => (ha.below stabS hX).one hj)
  have HB := Lib.hid (fun X (hX : Below w.heap.size w X) j (hj : j < m.length) => (hb.below stabS hX).one hj)
  have HN := Lib.hid hn
  have HM := Lib.hid hm
  have g1 := ha.le
  have g2 := ha.max
  have g3 := hb.le
  have g4 := hb.max
  rw [hn] at g1
  rw [hm] at g3
  unfold maxLen at g2 g4
  clear hr ha hb hn hm
  by_cases hnk : n = k
  rotate_left
  · have HX := Lib.hid ((listLen (l := l) (m := m) (by rw [HN.out, HM.out]; exact hnk)).trans HR.out)
    have hne : ((n : Int) != (k : Int)) = true := by simp; omega
    have hne2 : decide (n = k) = false := by simpa using hnk
    have hb0 := Below.refl w.heap.size w
    go_enter Tryz.func23, Tryz.ntmps23
    go_wp2
    all_goals first
      | (exfalso; omega)
      | (go_ret; exact ⟨retBl HX.out, hb0⟩)
  subst hnk
  go_enter Tryz.func23, Tryz.ntmps23
  go_wp2
  go_loopw [5] (fun i wr => ∃ j : Nat, j ≤ n ∧ i = .int .i64 j ∧ Below w.heap.size w wr ∧ Hid (UpTo l m j)) (fun i _ => n - (intOf i).toNat)
  case atStart => exact ⟨0, Nat.zero_le _, rfl, Below.refl _ _, Lib.hid UpTo.zero⟩
  case round =>
    obtain ⟨j, hj, rfl, hb, HU⟩ := hrel
    by_cases hlt : j < n
    · have h1 : j < l.length := by rw [HN.out]; exact hlt
      have h2 : j < m.length := by rw [HM.out]; exact hlt
      obtain ⟨q, o, hA, _, hc⟩ := HA.out wr hb j h1
      obtain ⟨q', o', hB, _, hd⟩ := HB.out wr hb j h2
      subst hA hB
      have hj0 : (0 : Int) ≤ j := by omega
      have hj1 : (j : Int) < n := by omega
      have HN2 := Lib.hid (fun nq => belowDrewN hb nq)
      obtain ⟨s, hx⟩ : ∃ x, l[j] = x := ⟨_, rfl⟩
      obtain ⟨t, hy⟩ : ∃ y, m[j] = y := ⟨_, rfl⟩
      rw [hx] at hc
      rw [hy] at hd
      unfold ES at hc hd
      rw [Nat.mul_one] at hc hd
      cases he : sEq s t
      · have HX := Lib.hid ((listNo (l := l) (m := m) h1 h2 (by
          rw [hx, hy]
          intro e
          subst e
          rw [sEqIff] at he
          simp at he)).trans HR.out)
        unfold sEq at he
        clear hx hy h1 h2 HU
        go_wp2_with fail
        go_quiet (fail)
        go_wp2
        go_ret
        exact ⟨retBl HX.out, HN2.out _⟩
      · have HX := Lib.hid (HU.out.succ h1 h2 (by
          rw [hx, hy, sEqTo he]))
        unfold sEq at he
        clear hx hy h1 h2 HU
        go_wp2_with fail
        go_quiet (fail)
        go_wp2
        go_roundw
        case rel => exact ⟨j + 1, by omega, by go_num, HN2.out _, HX⟩
        case measure => simp [intOf]; omega
    · have HX := Lib.hid ((listYes HU.out (by rw [HN.out, HM.out]) (by rw [HN.out]; omega)).trans HR.out)
      go_wp2
      go_ret
      exact ⟨retBl HX.out, hb⟩
/-- A new row reads as its cells say. -/
theorem litRow {α : Type} {k n : Nat} {E : World → Nat → Nat → α → Prop} {X : World} {T : TypeId} {cs : Array Value} {b : Nat} {l : List α} (hB : Blk X b T cs) (hn : l.length = n) (hm : n ≤ maxLen) (h : ∀ j (hj : j < l.length), E X b (j * k) l[j]) : RdE k E X (some ⟨b, 0, none⟩) n l :=
  ⟨by omega, hm, fun _ => ⟨b, 0, rfl, hB.lt, fun j hj => by rw [Nat.zero_add]; exact h j hj⟩⟩
theorem litX1 {X : World} {b : Nat} {k n f : Int} {nm : ByteArray} {v : Value} {d : Nat} {a : List Ex} (hB : Blk X b 37 (exC k n nm f v)) (hv : SlE 5 (EX d) X v a) : RdE 5 (EX (d + 1)) X (some ⟨b, 0, none⟩) 1 [.mk ⟨k, n, nm, f⟩ a []] :=
  litRow hB rfl (by decide) fun j hj => by
    have : j = 0 := by simpa using hj
    subst this
    exact ⟨hB.cell 0, hB.cell 1, hB.cell 2, hB.cell 3, rfl, v, hB.cell 4, hv⟩
theorem nilX (d : Nat) (X : World) : SlE 5 (EX d) X (.slice none 0 0) [] := ⟨none, 0, rfl, RdE.nil⟩
theorem nilM (dx d : Nat) (X : World) : SlE 9 (EM dx d) X (.slice none 0 0) [] := ⟨none, 0, rfl, RdE.nil⟩
theorem litX2 {X : World} {b : Nat} {d : Nat} {k1 n1 f1 k2 n2 f2 : Int} {m1 m2 : ByteArray} {v1 v2 : Value} {a1 a2 : List Ex} (hB : Blk X b 37 #[.int .i64 k1, .int .i64 n1, .string m1, .int .i64 f1, v1, .int .i64 k2, .int .i64 n2, .string m2, .int .i64 f2, v2]) (h1 : SlE 5 (EX d) X v1 a1) (h2 : SlE 5 (EX d) X v2 a2) : RdE 5 (EX (d + 1)) X (some ⟨b, 0, none⟩) 2 [.mk ⟨k1, n1, m1, f1⟩ a1 [], .mk ⟨k2, n2, m2, f2⟩ a2 []] :=
  litRow hB rfl (by decide) fun j hj => by
    have : j = 0 ∨ j = 1 := by simp at hj; omega
    rcases this with rfl | rfl
    · exact ⟨hB.cell 0, hB.cell 1, hB.cell 2, hB.cell 3, rfl, v1, hB.cell 4, h1⟩
    · exact ⟨hB.cell 5, hB.cell 6, hB.cell 7, hB.cell 8, rfl, v2, hB.cell 9, h2⟩
theorem infoEx5 : (Tryz.prog.info? 37).map (·.size) = some 5 := by kernel_rfl
/-- local: an expression that is a local variable. -/
theorem iLocal16 (s : ByteArray) (w : World) : Calls Tryz.prog 43 #[.string s] w fun e w' => e = .returned (.agg (exC 2 0 s 0 (.slice none 0 0))) ∧ Below w.heap.size w w' := by
  obtain ⟨W, hW⟩ : ∃ W, w.alloc (.cells #[.int .i64 2, .int .i64 0, .string s, .int .i64 0, .slice none 0 0] 37) = W := ⟨_, rfl⟩
  have HB := Lib.hid (show Blk W w.heap.size 37 #[.int .i64 2, .int .i64 0, .string s, .int .i64 0, .slice none 0 0] by rw [← hW]; exact Blk.new _ _ _)
  have HL := Lib.hid (show Below w.heap.size w W by rw [← hW]; exact belowAlloc _ _)
  have HW := Lib.hid hW
  clear hW
  unfold exC
  go_enter Tryz.func43, Tryz.ntmps43
  go_wp2_with fail
  rw [HW.out]
  refine bodyPost_ret (HB.out.res rfl _ rfl Tryz.underlying37 rfl infoEx5) rfl ?_
  exact ⟨rfl, HL.out⟩
/-- sum: the expression that adds two expressions. -/
theorem iSum16 (d : Nat) (a b : Ex) (hsa : a.snd = []) (hsb : b.snd = []) (A4 B4 : Option Addr) (n4 c4 m4 d4 : Nat) (hn : a.fst.length = n4) (hm : b.fst.length = m4) (w : World) (ha : RdE 5 (EX d) w A4 c4 a.fst) (hb : RdE 5 (EX d) w B4 d4 b.fst) :
    Calls Tryz.prog 44 #[.agg (exC a.val.kind a.val.n a.val.name a.val.fn (.slice A4 n4 c4)), .agg (exC b.val.kind b.val.n b.val.name b.val.fn (.slice B4 m4 d4))] w fun e w' => ∃ A c, e = .returned (.agg (exC 3 0 s0 1 (.slice A 2 c))) ∧ RdE 5 (EX (d + 1)) w' A c [a, b] ∧ Below w.heap.size w w' := by
  obtain ⟨W0, hW0⟩ : ∃ W0, ((w.alloc (.cells (exC a.val.kind a.val.n a.val.name a.val.fn (.slice A4 n4 c4)) 37)).alloc (.cells (exC b.val.kind b.val.n b.val.name b.val.fn (.slice B4 m4 d4)) 37)) = W0 := ⟨_, rfl⟩
  have e0 : W0.heap.size = w.heap.size + 1 + 1 := by rw [← hW0]; simp
  obtain ⟨W3, hW3⟩ : ∃ W3, (W0.alloc (.cells #[.int .i64 3, .int .i64 0, .string s0, .int .i64 1, .slice (some ⟨w.heap.size + 1 + 1 + 1, 0, none⟩) 2 2] 37)).alloc (.cells #[.int .i64 a.val.kind, .int .i64 a.val.n, .string a.val.name, .int .i64 a.val.fn, .slice A4 n4 c4, .int .i64 b.val.kind, .int .i64 b.val.n, .string b.val.name, .int .i64 b.val.fn, .slice B4 m4 d4] 37) = W3 := ⟨_, rfl⟩
  have b0 : Below w.heap.size w W0 := by rw [← hW0]; exact belowThen (belowAlloc _ _) (belowAlloc _ _)
  have b3 : Below W0.heap.size W0 W3 := by rw [← hW3]; exact belowThen (belowAlloc _ _) (belowAlloc _ _)
  have G3 : Blk W3 (w.heap.size + 1 + 1) 37 #[.int .i64 3, .int .i64 0, .string s0, .int .i64 1, .slice (some ⟨w.heap.size + 1 + 1 + 1, 0, none⟩) 2 2] := by rw [← hW3, ← e0]; exact (Blk.new _ _ _).alloc _
  have R4 : Blk W3 (w.heap.size + 1 + 1 + 1) 37 #[.int .i64 a.val.kind, .int .i64 a.val.n, .string a.val.name, .int .i64 a.val.fn, .slice A4 n4 c4, .int .i64 b.val.kind, .int .i64 b.val.n, .string b.val.name, .int .i64 b.val.fn, .slice B4 m4 d4] := by rw [← hW3, ← e0]; exact Blk.new1 _ _ _ _
  have bw3 : Below w.heap.size w W3 := belowThen b0 b3
  unfold exC at hW0 ⊢
  have hrd : RdE 5 (EX (d + 1)) W3 (some ⟨w.heap.size + 1 + 1 + 1, 0, none⟩) 2 [a, b] := by
    have h := litX2 (d := d) (a1 := a.fst) (a2 := b.fst) R4 ⟨A4, c4, by rw [hn], ha.below (stabX d) bw3⟩ ⟨B4, d4, by rw [hm], hb.below (stabX d) bw3⟩
    have ea : a = .mk ⟨a.val.kind, a.val.n, a.val.name, a.val.fn⟩ a.fst [] := by
      obtain ⟨⟨_, _, _, _⟩, _, _⟩ := a
      simp only [Tr.snd] at hsa
      subst hsa
      rfl
    have eb : b = .mk ⟨b.val.kind, b.val.n, b.val.name, b.val.fn⟩ b.fst [] := by
      obtain ⟨⟨_, _, _, _⟩, _, _⟩ := b
      simp only [Tr.snd] at hsb
      subst hsb
      rfl
    rw [← ea, ← eb] at h
    exact h
  have H0 := Lib.hid hW0
  have H3 := Lib.hid hW3
  have HF := Lib.hid (And.intro G3 (And.intro hrd bw3))
  have B1 : Blk W0 w.heap.size 37 #[.int .i64 a.val.kind, .int .i64 a.val.n, .string a.val.name, .int .i64 a.val.fn, .slice A4 n4 c4] := by rw [← hW0]; exact (Blk.new w _ _).alloc _
  have B2 : Blk W0 (w.heap.size + 1) 37 #[.int .i64 b.val.kind, .int .i64 b.val.n, .string b.val.name, .int .i64 b.val.fn, .slice B4 m4 d4] := by rw [← hW0]; exact Blk.new1 w _ _ _
  have C1 := B1.alloc (.cells #[.int .i64 0, .int .i64 0, .string s0, .int .i64 0, .slice none 0 0] 37)
  have C2 := B2.alloc (.cells #[.int .i64 0, .int .i64 0, .string s0, .int .i64 0, .slice none 0 0] 37)
  have p0 := C1.cell 0
  have p1 := C1.cell 1
  have p2 := C1.cell 2
  have p3 := C1.cell 3
  have p4 := C1.cell 4
  have q0 := C2.cell 0
  have q1 := C2.cell 1
  have q2 := C2.cell 2
  have q3 := C2.cell 3
  have q4 := C2.cell 4
  clear hW0 hW3 b0 b3 B1 B2 C1 C2 G3 bw3 R4 hrd ha hb hn hm hsa hsb e0
  go_enter Tryz.func44, Tryz.ntmps44
  go_wp2_with fail
  rw [H0.out]
  rw [H3.out]
  refine bodyPost_ret (HF.out.1.res rfl _ rfl Tryz.underlying37 rfl infoEx5) rfl ?_
  exact ⟨some ⟨w.heap.size + 1 + 1 + 1, 0, none⟩, 2, rfl, HF.out.2.1, HF.out.2.2⟩
end Go.Proofs.YtiaendggmamnkaaGreatDoor
