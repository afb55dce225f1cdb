/-
  slices.Backward over the steps of a code.
-/
import Derived.Test.YtkanamdfjegcbaaDoorCLf2
import Derived.Test.YtkanamdfjegcbaaDoorCC7
import Derived.Test.YtkanamdfjegcbaaDoorCRg
namespace Go.Proofs.YtkanamdfjegcbaaDoor
open Go Go.RowKit Go.Shelf

theorem Keep2.cellAt {b1 b2 : Nat} {X Y : World} (h : Keep2 b1 b2 X Y) {q o : Nat} (hq : q = b1 ∨ q = b2) {v : Value} (hv : X.cell? ⟨q, o, none⟩ = some v) : Y.cell? ⟨q, o, none⟩ = some v := by
  obtain ⟨ob, h1, h2⟩ := cellHeap hv
  have e : Y.cell? ⟨q, o, none⟩ = X.cell? ⟨q, o, none⟩ := World.cell?_of_block (by rw [h.2 q hq ob h1 h2]; exact h1.symm)
  rw [e, hv]
def blkS : Option Addr → Nat
  | some ad => ad.block
  | none => 0
/-- The cells of the steps. -/
def StF (w : World) (A : Option Addr) (n : Nat) (C : List I8) (us : Nat → Value) : Prop := 0 < n → ∃ q off, A = some ⟨q, off, none⟩ ∧ q < w.heap.size ∧ ∀ k, k < n → EI w q (off + k * 9) (C.getD k I8.zero) ∧ w.cell? ⟨q, off + k * 9 + 8, none⟩ = some (us k)
theorem StF.of {w : World} {A : Option Addr} {c n : Nat} {C : List I8} (h : RdE 9 EStep w A c (stL C n)) : ∃ us, StF w A n C us := by
  rcases Nat.eq_zero_or_pos n with h0 | h0
  · exact ⟨fun _ => .bool false, fun hn => by omega⟩
  obtain ⟨q, off, hA, hq, h1⟩ := h.at_ (by rw [stLLen]; exact h0)
  refine ⟨fun k => (w.cell? ⟨q, off + k * 9 + 8, none⟩).getD (.bool false), fun _ => ⟨q, off, hA, hq, fun k hk => ?_⟩⟩
  obtain ⟨h2, A8, c8, h3, _⟩ := h1 k (by rw [stLLen]; exact hk)
  rw [stLAt] at h2
  exact ⟨h2, by simp [h3]⟩
theorem StF.below {w w' : World} {A : Option Addr} {n : Nat} {C : List I8} {us : Nat → Value} (h : StF w A n C us) (hb : Below w.heap.size w w') : StF w' A n C us := fun hn => by
  obtain ⟨q, off, hA, hq, h1⟩ := h hn
  refine ⟨q, off, hA, Nat.lt_of_lt_of_le hq hb.size, fun k hk => ?_⟩
  obtain ⟨h2, h3⟩ := h1 k hk
  exact ⟨stabI w w' q _ _ hq hb h2, (hb.cell hq).trans h3⟩
theorem StF.keep {w w' : World} {A : Option Addr} {n b : Nat} {C : List I8} {us : Nat → Value} (h : StF w A n C us) (hk : Keep2 b (blkS A) w w') : StF w' A n C us := fun hn => by
  obtain ⟨q, off, rfl, hq, h1⟩ := h hn
  refine ⟨q, off, rfl, Nat.lt_of_lt_of_le hq hk.1, fun k hk' => ?_⟩
  obtain ⟨⟨i0, i1, i2, i3, i4, i5, i6, i7⟩, h3⟩ := h1 k hk'
  have hc : ∀ {o : Nat} {v : Value}, w.cell? ⟨q, o, none⟩ = some v → w'.cell? ⟨q, o, none⟩ = some v := fun hv => hk.cellAt (.inr rfl) hv
  exact ⟨⟨hc i0, hc i1, hc i2, hc i3, hc i4, hc i5, hc i6, hc i7⟩, hc h3⟩
def encB (C : List I8) (us : Nat → Value) (j : Nat) : Array Value := #[.int .i64 (j : Int), .agg (stC (C.getD j I8.zero) (us j)).toArray]
theorem backTake {n i : Nat} (h : i + 1 ≤ n) : (List.range n).reverse.take (n - i) = (List.range n).reverse.take (n - (i + 1)) ++ [i] ∧ (List.range n).reverse = (List.range n).reverse.take (n - (i + 1)) ++ i :: (List.range n).reverse.drop (n - i) := by
  have hl : n - (i + 1) < (List.range n).reverse.length := by simp; omega
  have hx : (List.range n).reverse[n - (i + 1)] = i := by
    simp only [List.getElem_reverse, List.length_range, List.getElem_range]; omega
  have e : n - i = n - (i + 1) + 1 := by omega
  refine ⟨by rw [e, List.take_succ_eq_append_getElem hl, hx], ?_⟩
  have : (List.range n).reverse.drop (n - (i + 1)) = i :: (List.range n).reverse.drop (n - i) := by rw [List.drop_eq_getElem_cons hl, hx, e]
  rw [← this, List.take_append_drop]
set_option maxRecDepth 100000 in
set_option maxHeartbeats 4000000 in
theorem backSeq (C : List I8) (n : Nat) (A : Option Addr) (c b : Nat) (us : Nat → Value) (w : World) (hf : StF w A n C us) (hle : n ≤ c) (hmx : c ≤ maxLen) (hb : w.cell? ⟨b, 0, none⟩ = some (.slice A n c)) :
    ∀ m, 3 ≤ m → SeqQ Fence.wide m Tryd.prog 105 #[.pointer (some ⟨b, 0, none⟩)] (encB C us) (Keep2 b (blkS A)) (List.range n).reverse w := fun mm hmm l J Jx W hW hY h0 => by
  unfold maxLen at hmx
  have hbl : b < w.heap.size := World.block_lt_of_cell? w _ hb
  have hbW := (hW.cell (p := ⟨b, 0, none⟩) hbl).trans hb
  have HB0 := Lib.hid hbW
  have HF0 := Lib.hid (hf.below hW)
  have HY := Lib.hid hY
  have h0 : J ((List.range n).reverse.take (n - n)) W := by rw [Nat.sub_self]; exact h0
  have HL : Hid ((List.range n).reverse.take (n - 0) = (List.range n).reverse) := Lib.hid (List.take_of_length_le (by simp))
  have hen := @encB
  clear hf hY hen
  refine callsIn_of_wp Tryd.func105 rfl trivial ?_ rfl
  simp only [Tryd.ntmps105, List.size_toArray, List.length_cons, List.length_nil, Nat.reduceAdd, Nat.reduceSub, Array.replicate_succ, Array.replicate_zero, List.push_toArray, List.append_toArray, List.nil_append, List.cons_append]
  gi_wp2_with fail
  gi_loopw [3] (fun v wr => ∃ i : Nat, i ≤ n ∧ v = .int .i64 ((i : Int) - 1) ∧ J ((List.range n).reverse.take (n - i)) wr ∧ Hid (wr.cell? ⟨b, 0, none⟩ = some (.slice A n c)) ∧ Hid (StF wr A n C us)) (fun v _ => (intOf v + 1).toNat)
  case atStart => exact ⟨n, Nat.le_refl _, by go_num, h0, HB0, HF0⟩
  case round =>
    clear hbW h0
    obtain ⟨i, hi, rfl, hJs, HB, HF⟩ := hrel
    have hbc := HB.out
    by_cases hi0 : i = 0
    · subst hi0
      rw [HL.out] at hJs
      gi_wp2
      go_end0
      exact ⟨⟨_, rfl⟩, .inl hJs⟩
    · obtain ⟨k, rfl⟩ : ∃ k, i = k + 1 := ⟨i - 1, by omega⟩
      have ek : ((k + 1 : Nat) : Int) - 1 = (k : Int) := by omega
      rw [ek]
      obtain ⟨q, off, hA, _, h1⟩ := HF.out (by omega)
      subst hA
      obtain ⟨⟨i0, i1, i2, i3, i4, i5, i6, i7⟩, i8⟩ := h1 k (by omega)
      obtain ⟨ht, hsp⟩ := backTake (n := n) (i := k) hi
      obtain ⟨fn, tmps, assign, body, hy, hR⟩ := HY.out _ k _ wr hsp hJs
      have HTK := Lib.hid ht
      unfold encB at hy
      obtain ⟨ii, hii⟩ : ∃ ii, C.getD k I8.zero = ii := ⟨_, rfl⟩
      rw [hii] at i0 i1 i2 i3 i4 i5 i6 i7 hy
      obtain ⟨op, ra, rb, rc, obj, m, fn9, ord⟩ := ii
      simp only [stC] at i0 i1 i2 i3 i4 i5 i6 i7 hy
      have hk0 : (0 : Int) ≤ k := by omega
      have hk1 : (k : Int) < n := by omega
      clear h1 ht hsp hii ek
      gi_wp2_with fail
      refine ⟨fun _ => by omega, hR.mono ?_⟩
      rintro e W3 (⟨rfl, hJ3, hk3⟩ | ⟨rfl, hJx3⟩)
      · have HK3 := Lib.hid (HF.out.keep hk3)
        have HB3 := Lib.hid (hk3.cellAt (.inl rfl) hbc)
        rw [← HTK.out] at hJ3
        clear hk3
        gi_wp2_with fail
        go_roundw
        case rel => exact ⟨k, by omega, by go_num, hJ3, HB3, HK3⟩
        case measure => simp [intOf]
      · gi_wp2_with fail
        refine bodyPost_ret (results_none rfl _ _ _) rfl ?_
        exact ⟨⟨_, rfl⟩, .inr ⟨_, hJx3⟩⟩
theorem iBack (n : Nat) (A : Option Addr) (c : Nat) (w : World) :
    Calls Tryd.prog 67 #[.slice A n c] w fun e Y => e = .returned (.func (.func 105) #[] #[.pointer (some ⟨w.heap.size, 0, none⟩)]) ∧
      Y = w.alloc (.cells #[.slice A n c] 73) := by
  go_enter Tryd.func67, Tryd.ntmps67
  go_wp2
  go_ret
  exact ⟨rfl, rfl⟩
end Go.Proofs.YtkanamdfjegcbaaDoor

namespace Go.Proofs.YtkanamdfjegcbaaDoor
open Go Go.RowKit Go.Shelf

theorem cellsOf {X : World} {base n : Nat} {g : Nat} {vs : List Value} {T : TypeId} {m : Nat} (h : X.ownsRow base T 1 (.slice (some ⟨g, 0, none⟩) n m) n vs) : ∃ o, X.heap[g]? = some o ∧ o.isCells = true := by
  rcases h.2 with ⟨h2, _⟩ | ⟨g', cap, cur, e, _, hg, _⟩
  · simp at h2
  · injection e with e
    injection e with e
    injection e with e
    subst e
    exact ⟨_, hg, rfl⟩
theorem SetM.obj {w : World} {b n : Nat} {S : Int → Bool} (h : SetM w b n S) : ∃ o, w.heap[b]? = some o ∧ o.isCells = false ∧ o.isWalk = true := by
  obtain ⟨T, ⟨es, clock, hb, r⟩, hat⟩ := h
  exact ⟨_, hb, rfl, rfl⟩
theorem SetV.chgBy {X Y : World} {v : Value} {S : Int → Bool} {F : Nat → Prop} (h : SetV X v S) (hc : Chg X Y F) (hF : ∀ q o, X.heap[q]? = some o → o.isCells = false → o.isWalk = true → F q) : SetV Y v S := by
  rcases h with h | ⟨b, n, e, hn, h⟩
  · exact .inl h
  · obtain ⟨o, h1, h2, h3⟩ := h.obj
    exact .inr ⟨b, n, e, hn, h.chg hc (hF b o h1 h2 h3)⟩
/-- The table T of sets in block gb, behind the box b5; the steps in the box b2. -/
structure LbSt (C : List I8) (ex : Bool) (n : Nat) (w : World) (A : Option Addr) (c : Nat) (T : Nat → Int → Bool) (X : World) : Prop where
  row : ∃ vs : List Value, vs.length = n + 1 ∧ X.ownsRow 0 79 1 (.slice (some ⟨w.heap.size + 1, 0, none⟩) (n + 1) (n + 1)) (n + 1) vs ∧ ∀ j, j < n + 1 → ∃ v, vs[j]? = some v ∧ SetV X v (T j)
  b2 : Boxed X w.heap.size 73 (.slice A n c)
  b5 : Boxed X (w.heap.size + 2) 76 (.slice (some ⟨w.heap.size + 1, 0, none⟩) (n + 1) (n + 1))
  tb : LfT C ex T
  bel : Below w.heap.size w X
section
variable {C : List I8} {ex : Bool} {n : Nat} {w X Y : World} {A : Option Addr} {c : Nat} {T : Nat → Int → Bool}
theorem LbSt.sz (h : LbSt C ex n w A c T X) : w.heap.size + 2 < X.heap.size := h.b5.lt
theorem LbSt.chg {F : Nat → Prop} (h : LbSt C ex n w A c T X) (hc : Chg X Y F) (hlo : ∀ q, q < w.heap.size + 3 → F q) (hF : ∀ q o, X.heap[q]? = some o → o.isCells = false → o.isWalk = true → F q) : LbSt C ex n w A c T Y := by
  obtain ⟨⟨vs, h1, h2, h3⟩, h4, h5, h6, h7⟩ := h
  refine ⟨⟨vs, h1, ownChg h2 hc fun g hg => ?_, fun j hj => ?_⟩, (hc.block _ h4.lt (hlo _ (by omega))).trans h4, (hc.block _ h5.lt (hlo _ (by omega))).trans h5, h6, ⟨hc.os.trans h7.os, hc.tape.trans h7.tape, hc.output.trans h7.output, Nat.le_trans h7.size hc.size, fun q hq => (hc.block q (Nat.lt_of_lt_of_le hq h7.size) (hlo q (by omega))).trans (h7.block q hq)⟩⟩
  · have : w.heap.size + 1 = g := by simpa [Value.ownBlock] using hg
    exact hlo g (by omega)
  · obtain ⟨v, hv, hs⟩ := h3 j hj
    exact ⟨v, hv, hs.chgBy hc hF⟩
theorem LbSt.below (h : LbSt C ex n w A c T X) (hb : Below X.heap.size X Y) : LbSt C ex n w A c T Y := h.chg (Chg.ofBelow hb fun _ => True) (fun _ _ => trivial) fun _ _ _ _ _ => trivial
theorem LbSt.grow (h : LbSt C ex n w A c T X) {row : Option Nat} (hg : X.grownBy Y row) (hr : ∀ q, row = some q → w.heap.size ≤ q ∧ ∃ o : Obj, X.heap[q]? = some o ∧ o.isCells = false ∧ o.isWalk = false) : LbSt C ex n w A c T Y := by
  have hcell : ∀ q, (∃ o, X.heap[q]? = some o ∧ o.isCells = true) → row ≠ some q := fun q ⟨o, h1, h2⟩ e => by
    obtain ⟨_, o', h3, h4, _⟩ := hr q e
    rw [h1] at h3
    injection h3 with h3
    subst h3
    rw [h2] at h4; cases h4
  obtain ⟨⟨vs, h1, h2, h3⟩, h4, h5, h6, h7⟩ := h
  have hc : Chg X Y (fun q => row ≠ some q) := Chg.ofGrown hg fun _ h => h
  refine ⟨⟨vs, h1, ownChg h2 hc fun g hg => ?_, fun j hj => ?_⟩, (hc.block _ h4.lt (hcell _ ⟨_, h4, rfl⟩)).trans h4, (hc.block _ h5.lt (hcell _ ⟨_, h5, rfl⟩)).trans h5, h6, ⟨hc.os.trans h7.os, hc.tape.trans h7.tape, hc.output.trans h7.output, Nat.le_trans h7.size hc.size, fun q hq => (hc.block q (Nat.lt_of_lt_of_le hq h7.size) (fun e => by have := (hr q e).1; omega)).trans (h7.block q hq)⟩⟩
  · have e : w.heap.size + 1 = g := by simpa [Value.ownBlock] using hg
    subst e
    exact hcell _ (cellsOf h2)
  · obtain ⟨v, hv, hs⟩ := h3 j hj
    exact ⟨v, hv, hs.chgBy hc fun q o h8 _ h10 e => by
      obtain ⟨_, o', h11, _, h12⟩ := hr q e
      rw [h8] at h11
      injection h11 with h11
      subst h11
      rw [h10] at h12; cases h12⟩
theorem chgSet (X : World) (a : Addr) (u : Value) : Chg X (X.setCell a u) (fun q => q ≠ a.block) := ⟨rfl, rfl, rfl, by simp, fun k _ hk => heap_setCell_other _ a k _ hk⟩
/-- A store into a box of another kind. -/
theorem LbSt.other (h : LbSt C ex n w A c T X) {q : Nat} (hq : w.heap.size + 3 ≤ q) {K : TypeId} {u : Value} (hb : Boxed X q K u) (u' : Value) : LbSt C ex n w A c T (X.setCell ⟨q, 0, none⟩ u') :=
  h.chg (chgSet X ⟨q, 0, none⟩ u') (fun i hi e => by
    have e : i = q := e
    omega) fun i o ho hoc _ e => by
    have e : i = q := e
    subst e
    have hb : X.heap[i]? = _ := hb
    rw [ho] at hb
    injection hb with hb
    subst hb
    cases hoc
theorem LbSt.cell (h : LbSt C ex n w A c T X) {j : Nat} (hj : j < n + 1) : ∃ v, X.cell? ⟨w.heap.size + 1, j, none⟩ = some v ∧ SetV X v (T j) := by
  obtain ⟨⟨vs, h1, h2, h3⟩, h4, h5, h6, h7⟩ := h
  obtain ⟨v, hv, hs⟩ := h3 j hj
  exact ⟨v, (World.ownsRow.cellAt h2 j (by omega)).trans hv, hs⟩
theorem LbSt.frozen (h : LbSt C ex n w A c T X) (j : Nat) : X.frozen? ⟨w.heap.size + 1, j, none⟩ = false := by
  obtain ⟨⟨vs, h1, h2, h3⟩, h4, h5, h6, h7⟩ := h
  exact World.ownsRow.frozenAt h2 j
theorem LbSt.rd (h : LbSt C ex n w A c T X) (hn : n ≤ 1000) : RdE 1 ESet X (some ⟨w.heap.size + 1, 0, none⟩) (n + 1) (tL T (n + 1)) := by
  have hs := h.sz
  refine ⟨by rw [tLLen]; exact Nat.le_refl _, by unfold maxLen; omega, fun _ => ⟨w.heap.size + 1, 0, rfl, by omega, fun j hj => ?_⟩⟩
  rw [tLLen] at hj
  rw [tLAt, Nat.zero_add, Nat.mul_one]
  exact h.cell hj
theorem LbSt.put (h : LbSt C ex n w A c T X) (hn : C.length = n) (hle : ∀ k y, y ∈ sc C k → y ≤ C.length) {k : Nat} (hk : k < n) {b m : Nat} {S : Int → Bool} (hm : SetM X b m S) (hm1 : m ≤ 1000) (hS : ∀ r, S r = lfF C T k r) : LbSt C ex n w A c (lfPut C T k) (X.setCell ⟨w.heap.size + 1, k, none⟩ (.map (some b))) := by
  have hsz := h.sz
  obtain ⟨⟨vs, h1, h2, h3⟩, h4, h5, h6, h7⟩ := h
  have hc := chgSet X ⟨w.heap.size + 1, k, none⟩ (.map (some b))
  have hcell := cellsOf h2
  have hmap : ∀ q o, X.heap[q]? = some o → o.isCells = false → o.isWalk = true → q ≠ w.heap.size + 1 := fun q o ho hoc _ e => by
    subst e
    obtain ⟨o', h8, h9⟩ := hcell
    rw [ho] at h8
    injection h8 with h8
    subst h8
    rw [hoc] at h9; cases h9
  have hst := (World.ownsRow.stored h2 k (.map (some b))).1
  refine ⟨⟨vs.set k (.map (some b)), by rw [List.length_set]; exact h1, hst, fun j hj => ?_⟩, (hc.block _ h4.lt (by show _ ≠ w.heap.size + 1; omega)).trans h4, (hc.block _ h5.lt (by show _ ≠ w.heap.size + 1; omega)).trans h5, lfUp hle h6 (by omega), ⟨hc.os.trans h7.os, hc.tape.trans h7.tape, hc.output.trans h7.output, Nat.le_trans h7.size hc.size, fun q hq => (hc.block q (Nat.lt_of_lt_of_le hq h7.size) (by show _ ≠ w.heap.size + 1; omega)).trans (h7.block q hq)⟩⟩
  by_cases e : j = k
  · subst e
    refine ⟨.map (some b), by rw [List.getElem?_set_self (by omega)], .inr ⟨b, m, rfl, hm1, ?_⟩⟩
    obtain ⟨o, h8, h9, h10⟩ := hm.obj
    exact (hm.chg hc (hmap b o h8 h9 h10)).congr fun x => by unfold lfPut; rw [if_pos rfl]; exact hS x
  · obtain ⟨v, hv, hs⟩ := h3 j hj
    refine ⟨v, by rw [List.getElem?_set_ne (fun h => e h.symm)]; exact hv, (hs.chgBy hc hmap).congr fun x => by unfold lfPut; rw [if_neg e]⟩
/-- The number of elements of a set in memory. -/
noncomputable def szV (X : World) (v : Value) : Nat := match (Builtin.len_ #[79] 3 #[v]).run Tryd.prog X with
  | .ok (.int _ k) _ => k.toNat
  | _ => 0
noncomputable def szT (X : World) (g n : Nat) : Nat := ((List.range n).map fun j => match X.cell? ⟨g, j, none⟩ with
  | some v => szV X v
  | none => 0).sum
def tS (T : Nat → Int → Bool) (n : Nat) : Nat := ((List.range n).map fun j => (rgL (T j)).length).sum
theorem LfT.regs (hok : CfOk C) (hn : C.length = n) (h : LfT C ex T) {j : Nat} (hj : j ≤ n) : Regs (T j) := fun _ hr => lvRg hok (h.sub j _ (by omega) hr)
theorem LbSt.szT (h : LbSt C ex n w A c T X) (hok : CfOk C) (hn : C.length = n) : szT X (w.heap.size + 1) n = tS T n := by
  unfold Go.Proofs.YtkanamdfjegcbaaDoor.szT tS
  congr 1
  refine List.map_congr_left fun j hj => ?_
  have hj := List.mem_range.1 hj
  obtain ⟨v, hv, hs⟩ := h.cell (j := j) (by omega)
  rw [hv]
  show szV X v = _
  unfold szV
  rw [hs.len (h.tb.regs hok hn (by omega)) 3]
  simp
end
theorem sumMono {f g : Nat → Nat} (h : ∀ j, f j ≤ g j) : ∀ l : List Nat, (l.map f).sum ≤ (l.map g).sum
  | [] => Nat.le_refl _
  | x :: l => by simp only [List.map_cons, List.sum_cons]; have := h x; have := sumMono h l; omega
theorem sumUp {f g : Nat → Nat} (h : ∀ j, f j ≤ g j) : ∀ {l : List Nat} {k : Nat}, k ∈ l → f k < g k → (l.map f).sum < (l.map g).sum
  | x :: l, k, hk, hlt => by
    simp only [List.map_cons, List.sum_cons]
    have h1 := h x
    rcases List.mem_cons.1 hk with rfl | hk
    · have := sumMono h l; omega
    · have := sumUp h hk hlt; omega
theorem sumLe8 {f : Nat → Nat} (h : ∀ j, f j ≤ 8) : ∀ l : List Nat, (l.map f).sum ≤ 8 * l.length
  | [] => by simp
  | x :: l => by simp only [List.map_cons, List.sum_cons, List.length_cons]; have := h x; have := sumLe8 h l; omega
theorem tSLe {T : Nat → Int → Bool} {n : Nat} : tS T n ≤ 8 * n := by
  have := sumLe8 (f := fun j => (rgL (T j)).length) (fun j => rgLLen) (List.range n)
  rw [List.length_range] at this
  exact this
theorem rgLe {S S' : Int → Bool} (h : ∀ r, S r = true → S' r = true) : (rgL S).length ≤ (rgL S').length := by
  unfold rgL
  have : ∀ l : List Int, (l.filter S).length ≤ (l.filter S').length := fun l => by
    induction l with
    | nil => exact Nat.le_refl _
    | cons x l ih =>
      rw [List.filter_cons, List.filter_cons]
      cases hx : S x with
      | true => rw [h x hx]; simpa using ih
      | false => cases S' x <;> simp <;> omega
  exact this _
/-- Sets of one size, one in the other, are one. -/
theorem rgSame {S S' : Int → Bool} (h : ∀ r, S r = true → S' r = true) (hS' : Regs S') (hl : (rgL S').length ≤ (rgL S).length) {r : Int} (hr : S' r = true) : S r = true := by
  have key : ∀ l : List Int, (l.filter S').length ≤ (l.filter S).length → ∀ r ∈ l, S' r = true → S r = true := fun l => by
    induction l with
    | nil => intro _ r hr; cases hr
    | cons x l ih =>
      intro hl r hr h2
      have hsub : (l.filter S).length ≤ (l.filter S').length := by
        clear ih hl hr
        induction l with
        | nil => exact Nat.le_refl _
        | cons y l ih =>
          rw [List.filter_cons, List.filter_cons]
          cases hy : S y with
          | true => rw [h y hy]; simpa using ih
          | false => cases S' y <;> simp <;> omega
      rw [List.filter_cons, List.filter_cons] at hl
      rcases List.mem_cons.1 hr with rfl | hr
      · cases hx : S r with
        | true => rfl
        | false =>
          rw [hx, h2] at hl
          simp at hl
          omega
      · refine ih ?_ r hr h2
        cases hx : S x with
        | true => rw [hx, h x hx] at hl; simpa using hl
        | false =>
          rw [hx] at hl
          cases hx2 : S' x with
          | true => rw [hx2] at hl; simp at hl; omega
          | false => rw [hx2] at hl; simpa using hl
  have hm := (rgLMem hS').2 hr
  refine key _ hl r ?_ hr
  unfold rgL at hm
  exact (List.mem_filter.1 hm).1
/-- A round at place k: the table grows, or the place stands still. -/
theorem tSUp {C : List I8} {ex : Bool} {T : Nat → Int → Bool} {n k : Nat} (h : LfT C ex T) (hn : C.length = n) (hk : k < n) (hlt : (rgL (T k)).length < (rgL (lfF C T k)).length) : tS T n < tS (lfPut C T k) n := by
  unfold tS
  refine sumUp (f := fun j => (rgL (T j)).length) (g := fun j => (rgL (lfPut C T k j)).length) (fun j => ?_) (List.mem_range.2 hk) ?_
  · refine rgLe fun r hr => ?_
    unfold lfPut
    split
    · rename_i e
      subst e
      exact h.inc j r (by omega) hr
    · exact hr
  · show _ < (rgL (lfPut C T k k)).length
    have e : lfPut C T k k = lfF C T k := funext fun r => by unfold lfPut; rw [if_pos rfl]
    rw [e]
    exact hlt
end Go.Proofs.YtkanamdfjegcbaaDoor

namespace Go.Proofs.YtkanamdfjegcbaaDoor
open Go Go.RowKit Go.Shelf

/-- The rounds of one pass over the steps: the places of ps have been visited. -/
structure LbIn (C : List I8) (ex : Bool) (n : Nat) (w : World) (A : Option Addr) (c : Nat) (T0 : Nat → Int → Bool) (bc : Nat) (Ds : List Nat) (ps : List Nat) (X : World) : Prop where
  ex : ∃ T cb, LbSt C ex n w A c T X ∧ Boxed X bc 4 (.bool cb) ∧ (cb = false → T = T0 ∧ ∀ k, k ∈ ps → ∀ r, lfF C T0 k r = true → T0 k r = true) ∧ tS T0 n ≤ tS T n ∧ (cb = true → tS T0 n < tS T n)
  op : OpenR Ds X
  bc : w.heap.size + 3 ≤ bc
/-- The value of the mark of change. -/
def chV (X : World) : Value → Nat
  | .pointer (some ad) => match X.cell? ad with
    | some (.bool true) => 1
    | _ => 0
  | _ => 0
theorem chBox {X : World} {b : Nat} {cb : Bool} (h : Boxed X b 4 (.bool cb)) : chV X (.pointer (some ⟨b, 0, none⟩)) = if cb = true then 1 else 0 := by
  have hc : X.cell? ⟨b, 0, none⟩ = some (.bool cb) := h.cell
  show (match X.cell? ⟨b, 0, none⟩ with
    | some (.bool true) => 1
    | _ => 0) = _
  rw [hc]
  cases cb <;> rfl
section
variable {C : List I8} {ex : Bool} {n : Nat} {w X Y : World} {A : Option Addr} {c : Nat} {T0 T : Nat → Int → Bool} {bc : Nat} {Ds ps : List Nat}
theorem OpenR.notCells {Ds : List Nat} {X : World} (h : OpenR Ds X) {D q : Nat} (hD : D ∈ Ds) {o : Obj} (hq : X.heap[q]? = some o) (ho : o.isCells = true) : D ≠ q := fun e => by
  subst e
  rw [h D hD] at hq
  injection hq with hq
  subst hq
  cases ho
theorem LbIn.own (h : LbIn C ex n w A c T0 bc Ds ps X) {row : Option Nat} (hg : X.grownBy Y row) {B : Nat} (hr : ∀ q, row = some q → B ≤ q ∧ ∃ o : Obj, X.heap[q]? = some o ∧ o.isCells = false ∧ o.isWalk = false) (hB : w.heap.size ≤ B) (hD : ∀ D ∈ Ds, D < B) : LbIn C ex n w A c T0 bc Ds ps Y := by
  obtain ⟨⟨T, cb, h1, h2, h3⟩, h4, h5⟩ := h
  have hc : Chg X Y (fun q => row ≠ some q) := Chg.ofGrown hg fun _ h => h
  refine ⟨⟨T, cb, h1.grow hg fun q e => ⟨by have := (hr q e).1; omega, (hr q e).2⟩, (hc.block _ h2.lt fun e => ?_).trans h2, h3⟩, h4.chg hc fun D hD' e => ?_, h5⟩
  · obtain ⟨_, o, ho, hoc, _⟩ := hr _ e
    have h2 : X.heap[bc]? = _ := h2
    rw [h2] at ho
    injection ho with ho
    subst ho
    cases hoc
  · have := (hr _ e).1
    have := hD D hD'
    omega
theorem LbIn.below (h : LbIn C ex n w A c T0 bc Ds ps X) (hb : Below X.heap.size X Y) : LbIn C ex n w A c T0 bc Ds ps Y := by
  obtain ⟨⟨T, cb, h1, h2, h3⟩, h4, h5⟩ := h
  exact ⟨⟨T, cb, h1.below hb, (hb.block _ h2.lt).trans h2, h3⟩, h4.chg (Chg.ofBelow hb fun _ => True) fun _ _ => trivial, h5⟩
/-- A place that has grown. -/
theorem LbIn.grew (hn : C.length = n) (hle : ∀ k y, y ∈ sc C k → y ≤ C.length) {cb : Bool} (h1 : LbSt C ex n w A c T X) (h2 : Boxed X bc 4 (.bool cb)) (h4 : tS T0 n ≤ tS T n) (h6 : OpenR Ds X) (h7 : w.heap.size + 3 ≤ bc) {k : Nat} (hk : k < n) {b m : Nat} {S : Int → Bool} (hm : SetM X b m S) (hm1 : m ≤ 1000) (hS : ∀ r, S r = lfF C T k r) (hlt : (rgL (T k)).length < (rgL S).length) :
    LbIn C ex n w A c T0 bc Ds (ps ++ [k]) ((X.setCell ⟨w.heap.size + 1, k, none⟩ (.map (some b))).setCell ⟨bc, 0, none⟩ (.bool true)) := by
  have e : S = lfF C T k := funext hS
  have hup := tSUp h1.tb hn hk (e ▸ hlt)
  have h8 := h1.put hn hle hk hm hm1 hS
  have hc1 := chgSet X ⟨w.heap.size + 1, k, none⟩ (.map (some b))
  have h9 : Boxed (X.setCell ⟨w.heap.size + 1, k, none⟩ (.map (some b))) bc 4 (.bool cb) := (hc1.block _ h2.lt (show bc ≠ w.heap.size + 1 by omega)).trans h2
  have hc2 := chgSet (X.setCell ⟨w.heap.size + 1, k, none⟩ (.map (some b))) ⟨bc, 0, none⟩ (.bool true)
  obtain ⟨o1, ho1, hoc1⟩ := cellsOf h1.row.choose_spec.2.1
  refine ⟨⟨_, true, h8.other h7 h9 _, h9.set _, fun e => (by cases e), by omega, fun _ => by omega⟩, ?_, h7⟩
  refine (h6.chg hc1 fun D hD => ?_).chg hc2 fun D hD => ?_
  · exact h6.notCells hD ho1 hoc1
  · exact h6.notCells hD h2 rfl
/-- What a round leaves, if it has only laid new blocks. -/
theorem keepBelow {B q1 q2 : Nat} {U X : World} (hb : Below U.heap.size U X) : KeepsFrom B U X ∧ Keep2 q1 q2 U X :=
  ⟨⟨hb.size, fun k _ _ hk _ => (hb.block k (Array.getElem?_eq_some_iff.1 hk).1).trans hk⟩, hb.size, fun q _ _ ho _ => (hb.block q (Array.getElem?_eq_some_iff.1 ho).1).trans ho⟩
theorem keepSets {B q1 q2 g k bc : Nat} {U X : World} {u u' : Value} (h : KeepsFrom B U X ∧ Keep2 q1 q2 U X) (hg : ∃ o, X.heap[g]? = some o ∧ o.isCells = true) (hbc : ∃ o, X.heap[bc]? = some o ∧ o.isCells = true) (h1 : q1 ≠ g ∧ q1 ≠ bc) (h2 : q2 ≠ g ∧ q2 ≠ bc) :
    KeepsFrom B U ((X.setCell ⟨g, k, none⟩ u).setCell ⟨bc, 0, none⟩ u') ∧ Keep2 q1 q2 U ((X.setCell ⟨g, k, none⟩ u).setCell ⟨bc, 0, none⟩ u') := by
  obtain ⟨og, hg1, hg2⟩ := hg
  obtain ⟨ob, hb1, hb2⟩ := hbc
  have key : ∀ q, q ≠ g → q ≠ bc → ((X.setCell ⟨g, k, none⟩ u).setCell ⟨bc, 0, none⟩ u').heap[q]? = X.heap[q]? := fun q e1 e2 =>
    (heap_setCell_other _ ⟨bc, 0, none⟩ q _ e2).trans (heap_setCell_other _ ⟨g, k, none⟩ q _ e1)
  refine ⟨⟨by simpa using h.1.size, fun q o hB hq ho => ?_⟩, by simpa using h.2.1, fun q hq o ho hoc => ?_⟩
  · have hX := h.1.same q o hB hq ho
    rw [key q (fun e => ?_) fun e => ?_]
    · exact hX
    · subst e
      rw [hX] at hg1
      injection hg1 with hg1
      subst hg1
      rw [ho] at hg2; cases hg2
    · subst e
      rw [hX] at hb1
      injection hb1 with hb1
      subst hb1
      rw [ho] at hb2; cases hb2
  · rw [key q (by rcases hq with rfl | rfl; exact h1.1; exact h2.1) (by rcases hq with rfl | rfl; exact h1.2; exact h2.2)]
    exact h.2.2 q hq o ho hoc
end
/-- What is live at a place, made out of what is live behind it. -/
theorem lfMade {C : List I8} {T : Nat → Int → Bool} {k : Nat} (hk : k < C.length) (r : Int) : (((sc C k).any fun y => T y r) && !(C[k].dfB && decide (r = C[k].dfR)) || decide (r ∈ C[k].uses)) = lfF C T k r := by
  unfold lfF
  rw [rdAt hk, wrAt hk]
  rw [Bool.or_comm, Bool.and_comm]
  congr 3
  rw [Bool.eq_iff_iff]
  simp only [Bool.and_eq_true, decide_eq_true_iff]
  constructor <;> rintro ⟨h1, h2⟩ <;> exact ⟨h1, h2.symm⟩
theorem dfRg {C : List I8} (hok : CfOk C) {k : Nat} (hk : k < C.length) (h : C[k].dfB = true) : rgB C[k].dfR = true := by
  have hc := hok.chk C[k] (List.getElem_mem hk)
  have hg := I8.good hc
  unfold I8.dfB at h
  have h := of_decide_eq_true h
  unfold I8.dfR rgB
  rw [if_pos h]
  exact decide_eq_true hg.a
theorem useRg {C : List I8} (hok : CfOk C) {k : Nat} (hk : k < C.length) {r : Int} (h : r ∈ C[k].uses) : rgB r = true := rdRg hok (k := k) (by rw [rdAt hk]; exact decide_eq_true h)
theorem useLen (i : I8) : i.uses.length ≤ 2 := by
  unfold I8.uses
  split
  · refine Nat.le_trans (lenMk _) ?_
    unfold I8.rdL
    rw [List.length_append]
    split <;> split <;> simp
  · simp
theorem rdNotMap {X : World} {A : Option Addr} {c b n : Nat} {l : List Int} {S : Int → Bool} (hr : Rd X A c l) (hm : SetM X b n S) : ∀ ad, A = some ad → 0 < l.length → ad.block ≠ b := fun ad e hl eb => by
  obtain ⟨ad', e', _, hc⟩ := hr.one hl
  rw [e] at e'
  injection e' with e'
  subst e'
  obtain ⟨o, h1, h2⟩ := cellHeap hc
  rw [addBlock, eb] at h1
  obtain ⟨o', h3, h4, _⟩ := hm.obj
  rw [h1] at h3
  injection h3 with h3
  subst h3
  rw [h2] at h4; cases h4
theorem tkMem {S : Bool} {us : List Int} {j : Nat} (h : j < us.length) {y : Int} (hy : us[j] = y) (r : Int) : (S || decide (r ∈ us.take j) || decide (r = y)) = (S || decide (r ∈ us.take (j + 1))) := by
  rw [List.take_succ_eq_append_getElem h, hy, Bool.or_assoc]
  congr 1
  rw [Bool.eq_iff_iff]
  simp
theorem lfRegs {C : List I8} (hok : CfOk C) {n : Nat} (hn : C.length = n) (hle : ∀ k y, y ∈ sc C k → y ≤ C.length) {ex : Bool} {T : Nat → Int → Bool} (h : LfT C ex T) {k : Nat} (hk : k < n) : Regs (lfF C T k) := fun r hr =>
  have hk' : k < C.length := by omega
  lvRg hok ((lfUp hle h hk').sub k r (Nat.le_of_lt hk') (by unfold lfPut; rw [if_pos rfl]; exact hr))
def slA9 : Value → Option Addr
  | .slice a _ _ => a
  | _ => none
def slM9 : Value → Nat
  | .slice _ m _ => m
  | _ => 0
def slC9 : Value → Nat
  | .slice _ _ c => c
  | _ => 0
theorem StF.slices {w : World} {A : Option Addr} {c n : Nat} {C : List I8} (h : RdE 9 EStep w A c (stL C n)) : ∃ (fa : Nat → Option Addr) (fm fc : Nat → Nat), StF w A n C (fun k => .slice (fa k) (fm k) (fc k)) := by
  obtain ⟨us, hu⟩ := StF.of h
  refine ⟨fun k => slA9 (us k), fun k => slM9 (us k), fun k => slC9 (us k), fun hn => ?_⟩
  obtain ⟨q, off, hA, hq, h1⟩ := hu hn
  refine ⟨q, off, hA, hq, fun k hk => ?_⟩
  obtain ⟨h2, h3⟩ := h1 k hk
  refine ⟨h2, ?_⟩
  obtain ⟨q', off', hA', _, h4, A8, c8, h5, _⟩ := h.one (j := k) (by rw [stLLen]; exact hk)
  rw [hA] at hA'
  injection hA' with hA'
  injection hA' with e1 e2
  subst e1
  subst e2
  rw [h3] at h5
  injection h5 with h5
  rw [h3]
  show some (us k) = some (.slice (slA9 (us k)) (slM9 (us k)) (slC9 (us k)))
  rw [h5]
  rfl
end Go.Proofs.YtkanamdfjegcbaaDoor
