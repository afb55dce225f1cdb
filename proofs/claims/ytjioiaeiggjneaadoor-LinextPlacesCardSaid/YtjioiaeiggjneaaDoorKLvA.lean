/-
  Words for a block of cells of the call's own: it is known whole; a result that lies in one.
-/
import Derived.Test.YtjioiaeiggjneaaDoorKChg
import Derived.Laws.Rows
import Derived.Lib.SmallJoins
import Derived.Test.YtjioiaeiggjneaaDoorKRp5
import Derived.Test.YtjioiaeiggjneaaDoorKLinF
import Derived.Test.YtjioiaeiggjneaaDoorKRn5
import Derived.BigQuiet
import Derived.Test.YtjioiaeiggjneaaDoorKLinY
import Derived.Test.YtjioiaeiggjneaaDoorKOwnI
namespace Go.Proofs.YtjioiaeiggjneaaDoor
open Go Go.RowKit

/-- Block b holds the cells cs. -/
def Blk (W : World) (b : Nat) (T : TypeId) (cs : Array Value) : Prop := W.heap[b]? = some (.cells cs T (0, 0))
section
variable {W W' : World} {b : Nat} {T : TypeId} {cs : Array Value}
theorem Blk.new (W : World) (T : TypeId) (cs : Array Value) : Blk (W.alloc (.cells cs T)) W.heap.size T cs := heap_alloc_new W _
theorem Blk.new1 (W : World) (o : Obj) (T : TypeId) (cs : Array Value) : Blk ((W.alloc o).alloc (.cells cs T)) (W.heap.size + 1) T cs := by
  have h := Blk.new (W.alloc o) T cs
  rwa [World.size_alloc] at h
theorem Blk.lt (h : Blk W b T cs) : b < W.heap.size := (Array.getElem?_eq_some_iff.1 h).1
theorem Blk.below {B : Nat} (h : Blk W b T cs) (hb : Below B W W') (hB : b < B) : Blk W' b T cs := (hb.block b hB).trans h
theorem Blk.below' (h : Blk W b T cs) (hb : Below W.heap.size W W') : Blk W' b T cs := h.below hb h.lt
theorem Blk.alloc (h : Blk W b T cs) (o : Obj) : Blk (W.alloc o) b T cs := h.below' ((Below.refl _ W).alloc (Nat.le_refl _) o)
theorem Blk.drew (h : Blk W b T cs) : Blk W.drew b T cs := h
theorem Blk.cell (h : Blk W b T cs) (i : Nat) : W.cell? ⟨b, i, none⟩ = cs[i]? := Joins.cell_of_block h i
theorem Blk.frozen (h : Blk W b T cs) (i : Nat) : W.frozen? ⟨b, i, none⟩ = false := Joins.unfrozen_of_block h i
theorem Blk.set (h : Blk W b T cs) (i : Nat) (v : Value) : Blk (W.setCell ⟨b, i, none⟩ v) b T (cs.setIfInBounds i v) := Joins.block_setCell h v
theorem Blk.other (h : Blk W b T cs) {g : Nat} (hg : b ≠ g) (i : Nat) (v : Value) : Blk (W.setCell ⟨g, i, none⟩ v) b T cs := (heap_setCell_other W ⟨g, i, none⟩ b v hg).trans h
/-- A result that lies in the block. -/
theorem Blk.res {P : Program} (h : Blk W b T cs) {fn : Func} {p : Tmp} {ty : TypeId} (hf : fn.results = #[.cell p ty]) (tmps : Array Value) (hp : tmps.getD p undef = .pointer (some ⟨b, 0, none⟩)) {d : TypeDesc}
    (hu : P.underlying ty = some d) (hd : (match d with | .struct _ | .array _ _ => true | _ => false) = true) (hi : (P.info? ty).map (·.size) = some cs.size) : (results fn tmps).run P W = .ok (.agg cs) W :=
  results_cell_row hf tmps W b T _ (0, 0) d hp h hu hd hi
/-- The same with a second result in a slot. -/
theorem Blk.res2 {P : Program} (h : Blk W b T cs) {fn : Func} {p u : Tmp} {ty : TypeId} (hf : fn.results = #[.cell p ty, .tmp u]) (tmps : Array Value) (hp : tmps.getD p undef = .pointer (some ⟨b, 0, none⟩)) {d : TypeDesc}
    (hu : P.underlying ty = some d) (hd : (match d with | .struct _ | .array _ _ => true | _ => false) = true) (hi : (P.info? ty).map (·.size) = some cs.size) : (results fn tmps).run P W = .ok (.tuple #[.agg cs, tmps.getD u undef]) W := by
  have hp' : tmps[p]?.getD undef = .pointer (some ⟨b, 0, none⟩) := by simpa using hp
  rw [results_cell_tmp hf]
  simp [hp', asAddr, run_loadVar_row W b T ty cs (0, 0) d h hu hd hi]
end
end Go.Proofs.YtjioiaeiggjneaaDoor

namespace Go.Proofs.YtjioiaeiggjneaaDoor
open Go Go.RowKit

theorem bitsHas0 {s : Nat} (hs : s < B64) (a : Int) : (bits .and .u64 ((s : Int) / 2 ^ min a.toNat 64) 1 == 0) = !s.testBit a.toNat := by
  have e : (s : Int) / 2 ^ min a.toNat 64 = ((s / 2 ^ min a.toNat 64 : Nat) : Int) := by simp
  have hlt : s / 2 ^ min a.toNat 64 < 18446744073709551616 := Nat.lt_of_le_of_lt (Nat.div_le_self _ _) hs
  have h1 := bits_and_u64_nat (s / 2 ^ min a.toNat 64) 1 hlt (by omega)
  have h0 := bitsHas hs a
  rw [e, show ((1 : Nat) : Int) = 1 from rfl] at *
  rw [h1, Nat.and_one_is_mod] at *
  rw [← h0]
  rcases Nat.mod_two_eq_zero_or_one (s / 2 ^ min a.toNat 64) with h | h <;> rw [h] <;> rfl
/-- Can k follow s, by the first j pairs? -/
def canT (l : Prs) (s k j : Nat) : Bool := (l.take j).all fun p => decide (p.2 = (k : Int) → s.testBit p.1.toNat = true)
theorem canTS {l : Prs} {s k j : Nat} (hj : j < l.length) : canT l s k (j + 1) = (canT l s k j && decide (l[j].2 = (k : Int) → s.testBit l[j].1.toNat = true)) := by
  unfold canT
  rw [List.take_succ_eq_append_getElem hj, List.all_append, List.all_cons, List.all_nil, Bool.and_true]
theorem canTNo {l : Prs} {s k j : Nat} (hj : j < l.length) (h1 : l[j].2 = (k : Int)) (h2 : s.testBit l[j].1.toNat = false) : canT l s k l.length = false := by
  unfold canT
  rw [List.take_length, List.all_eq_false]
  refine ⟨l[j], List.getElem_mem hj, ?_⟩
  rw [decide_eq_true_iff]
  intro h
  rw [h h1] at h2
  cases h2
theorem canTAll {N : Nat} {l : Prs} (hk : okR N l = true) {s k j : Nat} (hs : s.testBit k = false) (hj : l.length ≤ j) : canT l s k j = canL N (hasP l) s k := by
  have hk2 : (0 : Int) ≤ N ∧ (N : Int) ≤ 64 ∧ ∀ p ∈ l, 0 ≤ p.1 ∧ p.1 < N ∧ 0 ≤ p.2 ∧ p.2 < N := by unfold okR at hk; exact of_decide_eq_true hk
  unfold canT
  rw [List.take_of_length_le hj, Bool.eq_iff_iff, canIff, List.all_eq_true]
  refine ⟨fun h => ⟨hs, fun p _ hf => ?_⟩, fun h p hp => decide_eq_true fun e => ?_⟩
  · exact of_decide_eq_true (h _ (hasPIff.1 hf)) rfl
  · have hr := hk2.2.2 p hp
    have e1 : ((p.1.toNat : Nat) : Int) = p.1 := by omega
    exact h.2 p.1.toNat (by omega) (hasPIff.2 (by rw [e1, ← e]; exact hp))
theorem retBC {a b : Bool} (h : a = b) : Ending.returned (.bool a) = .returned (.bool b) := by rw [h]
set_option maxRecDepth 100000 in
set_option maxHeartbeats 4000000 in
theorem rCan (N : Nat) (l : Prs) (hok : okR N l = true) (n : Nat) (hn : l.length = n) (A : Option Addr) (c : Nat) (s k : Nat) (hs : s < B64) (hk : k < 64) (r : Bool) (hr : canL N (hasP l) s k = r) (w : World) (ha : Rp w A c l) :
    Calls Tryd.prog 48 #[relV N A n c, .int .u64 s, .int .i64 k] w fun e w' => e = .returned (.bool r) ∧ Below w.heap.size w w' := by
  obtain ⟨W, hW⟩ : ∃ W, w.alloc (.cells #[.int .i64 N, .slice A n c] 24) = W := ⟨_, rfl⟩
  have hbW : Below w.heap.size w W := by rw [← hW]; exact belowAlloc w _
  have HB : Hid (BoxR W w.heap.size N (.slice A n c)) := by rw [← hW]; exact Lib.hid (BoxR.new w N _)
  obtain ⟨k0, k1, _, _⟩ := HB.out.facts
  have HK := Lib.hid (fun X (hX : Below W.heap.size W X) => (HB.out.below hX).facts)
  have HA := Lib.hid (fun X (hX : Below W.heap.size W X) => (ha.below hbW).below hX)
  have hle := ha.le
  have hmx := ha.max
  rw [hn] at hle
  unfold maxLen at hmx
  have HR := Lib.hid hr
  have HN := Lib.hid hn
  have HOK := Lib.hid hok
  have HBW := Lib.hid hbW
  have HW := Lib.hid hW
  have HS := Lib.hid hs
  have hb0 := bitsHas hs (k : Int)
  have hk0 : (0 : Int) ≤ k := by omega
  have hkw : IntKind.u64.wrap (k : Int) = k := by rw [IntKind.wrap_u64]; omega
  clear hk
  cases hsk : s.testBit k with
  | true =>
    rw [Int.toNat_natCast, hsk] at hb0
    have HX := Lib.hid (show false = r by rw [← hr, Bool.eq_iff_iff, canIff]; simp [hsk])
    clear hbW hW ha hn hr hok hs
    go_enter Tryd.func48, Tryd.ntmps48
    go_wp2_with fail
    rw [HW.out]
    go_wp2_with (simp only [hkw, Int.toNat_natCast, hb0])
    all_goals go_wp2
    all_goals go_ret
    all_goals exact ⟨retBC HX.out, HBW.out⟩
  | false =>
    rw [Int.toNat_natCast, hsk] at hb0
    have HSK := Lib.hid hsk
    clear hbW hW ha hn hr hok hs
    go_enter Tryd.func48, Tryd.ntmps48
    go_wp2_with fail
    rw [HW.out]
    go_wp2_with (simp only [hkw, Int.toNat_natCast, hb0])
    go_loopw [7] (fun i wr => ∃ j : Nat, j ≤ n ∧ i = .int .i64 j ∧ Hid (canT l s k j = true) ∧ Hid (Below W.heap.size W wr)) (fun i _ => n - (intOf i).toNat)
    case atStart => exact ⟨0, by omega, rfl, Lib.hid (by unfold canT; simp), Lib.hid (Below.refl _ _)⟩
    case round =>
      clear k0 k1
      obtain ⟨j, hj, rfl, HT, HB2⟩ := hrel
      obtain ⟨k0, k1, _, _⟩ := HK.out _ HB2.out
      by_cases hlj : j < n
      · have hjl : j < l.length := by rw [HN.out]; exact hlj
        obtain ⟨g, off, rfl, hg, p1, p2⟩ := (HA.out _ HB2.out).one hjl
        have HST := Lib.hid (canTS (s := s) (k := k) hjl)
        have HNO := Lib.hid (fun h1 h2 => canTNo (s := s) (k := k) hjl h1 h2)
        obtain ⟨x, hx⟩ : ∃ x, l[j].1 = x := ⟨_, rfl⟩
        obtain ⟨y, hy⟩ : ∃ y, l[j].2 = y := ⟨_, rfl⟩
        rw [hx] at p1
        rw [hy] at p2
        rw [hx, hy] at HST HNO
        have hx0 : 0 ≤ x ∧ x < 64 := by
          have hk2 : (0 : Int) ≤ N ∧ (N : Int) ≤ 64 ∧ ∀ p ∈ l, 0 ≤ p.1 ∧ p.1 < N ∧ 0 ≤ p.2 ∧ p.2 < N := by have := HOK.out; unfold okR at this; exact of_decide_eq_true this
          have := hk2.2.2 l[j] (List.getElem_mem hjl)
          rw [hx] at this
          omega
        have hbx := bitsHas0 HS.out x
        have hbx2 : (bits .and .u64 ((s : Int) / 2 ^ x.toNat) 1 == 0) = !s.testBit x.toNat := by rw [← hbx, Nat.min_eq_left (by omega)]
        have hxw : IntKind.u64.wrap x = x := by rw [IntKind.wrap_u64]; omega
        have hj0 : (0 : Int) ≤ j := by omega
        have hj1 : (j : Int) < n := by omega
        clear hx hy
        obtain ⟨hx0, hx1⟩ := hx0
        by_cases hyk : y = (k : Int)
        · have hyy : (y == (k : Int)) = true := by simpa using hyk
          cases hb : s.testBit x.toNat with
          | true =>
            rw [hb] at hbx hbx2
            have HST2 := Lib.hid (show canT l s k (j + 1) = true by rw [HST.out, HT.out, decide_eq_true (fun _ => hb)]; rfl)
            clear hyk hb
            go_wp2_with (simp only [hxw, hbx, hbx2, Bool.not_true, Bool.not_false])
            all_goals go_wp2
            all_goals go_roundw
            case rel => exact ⟨j + 1, by omega, by go_num, HST2, HB2⟩
            case measure => simp [intOf]; omega
          | false =>
            rw [hb] at hbx hbx2
            have HX := Lib.hid (show false = r by rw [← HR.out, ← canTAll HOK.out HSK.out (Nat.le_refl l.length)]; exact (HNO.out hyk hb).symm)
            clear hyk hb
            go_wp2_with (simp only [hxw, hbx, hbx2, Bool.not_true, Bool.not_false])
            all_goals go_wp2
            all_goals go_ret
            all_goals exact ⟨retBC HX.out, belowThen HBW.out HB2.out⟩
        · have hyy : (y == (k : Int)) = false := by simpa using hyk
          have HST2 := Lib.hid (show canT l s k (j + 1) = true by rw [HST.out, HT.out, decide_eq_true (fun h => absurd h hyk)]; rfl)
          clear hyk hbx hbx2
          go_wp2_with fail
          all_goals go_wp2
          all_goals go_roundw
          case rel => exact ⟨j + 1, by omega, by go_num, HST2, HB2⟩
          case measure => simp [intOf]; omega
      · have HX := Lib.hid (show true = r by rw [← HR.out, ← canTAll HOK.out HSK.out (show l.length ≤ j by rw [HN.out]; omega)]; exact HT.out.symm)
        have HF := Lib.hid (belowThen HBW.out HB2.out)
        go_wp2
        go_ret
        exact ⟨retBC HX.out, HF.out⟩
end Go.Proofs.YtjioiaeiggjneaaDoor

namespace Go.Proofs.YtjioiaeiggjneaaDoor

/-- A number of ways is added to a set. -/
def addP (L : List (Nat × Nat)) (s u : Nat) : List (Nat × Nat) := if s ∈ L.map (·.1) then L.map fun p => if p.1 = s then (p.1, p.2 + u) else p else L ++ [(s, u)]
def wsm (g : Nat → Nat) (L : List (Nat × Nat)) : Nat := (L.map fun p => p.2 * g p.1).sum
theorem addPKeys {L : List (Nat × Nat)} {s u : Nat} : (addP L s u).map (·.1) = if s ∈ L.map (·.1) then L.map (·.1) else L.map (·.1) ++ [s] := by
  unfold addP
  split
  · rw [List.map_map]
    refine List.map_congr_left fun p _ => ?_
    show (if p.1 = s then (p.1, p.2 + u) else p).1 = p.1
    split <;> rfl
  · rw [List.map_append]; rfl
theorem addPNodup {L : List (Nat × Nat)} {s u : Nat} (h : (L.map (·.1)).Nodup) : ((addP L s u).map (·.1)).Nodup := by
  rw [addPKeys]
  split
  · exact h
  · rename_i hs
    rw [List.nodup_append]
    refine ⟨h, by simp, fun x hx y hy => ?_⟩
    rw [List.mem_singleton] at hy
    subst hy
    exact fun e => hs (e ▸ hx)
theorem addPMem {L : List (Nat × Nat)} {s u x : Nat} : x ∈ (addP L s u).map (·.1) ↔ x ∈ L.map (·.1) ∨ x = s := by
  rw [addPKeys]
  split
  · rename_i h
    exact ⟨.inl, fun h1 => h1.elim id fun e => e ▸ h⟩
  · rw [List.mem_append, List.mem_singleton]
theorem wsmNot {g : Nat → Nat} {s u : Nat} : ∀ {L : List (Nat × Nat)}, s ∉ L.map (·.1) → (L.map fun p => if p.1 = s then (p.1, p.2 + u) else p) = L
  | [], _ => rfl
  | p :: L, h => by
    rw [List.map_cons, List.mem_cons, not_or] at h
    rw [List.map_cons, wsmNot (g := g) h.2, if_neg fun e => h.1 e.symm]
theorem wsmHas {g : Nat → Nat} {s u : Nat} : ∀ {L : List (Nat × Nat)}, (L.map (·.1)).Nodup → s ∈ L.map (·.1) → wsm g (L.map fun p => if p.1 = s then (p.1, p.2 + u) else p) = wsm g L + u * g s
  | [], _, h => by simp at h
  | p :: L, hn, h => by
    rw [List.map_cons, List.nodup_cons] at hn
    by_cases e : p.1 = s
    · subst e
      rw [List.map_cons, wsmNot (g := g) hn.1, if_pos rfl]
      unfold wsm
      rw [List.map_cons, List.map_cons, List.sum_cons, List.sum_cons]
      show (p.2 + u) * g p.1 + _ = p.2 * g p.1 + _ + u * g p.1
      rw [Nat.add_mul]
      omega
    · have h2 : s ∈ L.map (·.1) := by
        rw [List.map_cons, List.mem_cons] at h
        exact h.elim (fun q => absurd q.symm e) id
      have ih := wsmHas (g := g) (u := u) hn.2 h2
      rw [List.map_cons, if_neg e]
      unfold wsm at ih ⊢
      rw [List.map_cons, List.map_cons, List.sum_cons, List.sum_cons, ih]
      omega
theorem wsmAdd {g : Nat → Nat} {L : List (Nat × Nat)} {s u : Nat} (hn : (L.map (·.1)).Nodup) : wsm g (addP L s u) = wsm g L + u * g s := by
  unfold addP
  split
  · rename_i h; exact wsmHas hn h
  · unfold wsm
    rw [List.map_append, List.sum_append]
    simp
section
variable {N : Nat} {f : Nat → Nat → Bool}
/-- What the numbers below k add. -/
def lvK (N : Nat) (f : Nat → Nat → Bool) (L : List (Nat × Nat)) (s u : Nat) : Nat → List (Nat × Nat)
  | 0 => L
  | k + 1 => if canL N f s k then addP (lvK N f L s u k) (addS s k) u else lvK N f L s u k
/-- What the first i sets of a level add. -/
def lvI (N : Nat) (f : Nat → Nat → Bool) (P : List (Nat × Nat)) : Nat → List (Nat × Nat)
  | 0 => []
  | i + 1 => match P[i]? with
    | some p => lvK N f (lvI N f P i) p.1 p.2 N
    | none => lvI N f P i
def lvl (N : Nat) (f : Nat → Nat → Bool) : Nat → List (Nat × Nat)
  | 0 => [(0, 1)]
  | n + 1 => lvI N f (lvl N f n) (lvl N f n).length
theorem lvKNodup {L : List (Nat × Nat)} {s u : Nat} (h : (L.map (·.1)).Nodup) : ∀ k, ((lvK N f L s u k).map (·.1)).Nodup
  | 0 => h
  | k + 1 => by
    rw [lvK]
    split
    · exact addPNodup (lvKNodup h k)
    · exact lvKNodup h k
theorem lvINodup {P : List (Nat × Nat)} : ∀ i, ((lvI N f P i).map (·.1)).Nodup
  | 0 => by simp [lvI]
  | i + 1 => by
    rw [lvI]
    split
    · exact lvKNodup (lvINodup i) N
    · exact lvINodup i
theorem lvlNodup : ∀ n, ((lvl N f n).map (·.1)).Nodup
  | 0 => by simp [lvl]
  | n + 1 => lvINodup _
theorem lvKMem {L : List (Nat × Nat)} {s u x : Nat} : ∀ k, x ∈ (lvK N f L s u k).map (·.1) ↔ x ∈ L.map (·.1) ∨ ∃ a, a < k ∧ canL N f s a = true ∧ x = addS s a
  | 0 => by
    rw [lvK]
    exact ⟨.inl, fun h => h.elim id fun ⟨a, h, _⟩ => absurd h (Nat.not_lt_zero _)⟩
  | k + 1 => by
    rw [lvK]
    have ih := lvKMem (L := L) (s := s) (u := u) (x := x) k
    constructor
    · intro h
      split at h
      · rename_i hc
        rcases addPMem.1 h with h | h
        · rcases ih.1 h with h | ⟨a, h1, h2, h3⟩
          · exact .inl h
          · exact .inr ⟨a, by omega, h2, h3⟩
        · exact .inr ⟨k, by omega, hc, h⟩
      · rcases ih.1 h with h | ⟨a, h1, h2, h3⟩
        · exact .inl h
        · exact .inr ⟨a, by omega, h2, h3⟩
    · intro h
      have key : x ∈ (lvK N f L s u k).map (·.1) ∨ (canL N f s k = true ∧ x = addS s k) := by
        rcases h with h | ⟨a, h1, h2, h3⟩
        · exact .inl (ih.2 (.inl h))
        · by_cases e : a = k
          · subst e; exact .inr ⟨h2, h3⟩
          · exact .inl (ih.2 (.inr ⟨a, by omega, h2, h3⟩))
      split
      · rcases key with h | h
        · exact addPMem.2 (.inl h)
        · exact addPMem.2 (.inr h.2)
      · rename_i hc
        rcases key with h | h
        · exact h
        · exact absurd h.1 hc
theorem lvIMem {P : List (Nat × Nat)} {x : Nat} : ∀ i, i ≤ P.length → (x ∈ (lvI N f P i).map (·.1) ↔ ∃ p ∈ P.take i, ∃ a ∈ nxtL N f p.1, x = addS p.1 a)
  | 0, _ => by simp [lvI]
  | i + 1, hi => by
    have e : P[i]? = some P[i] := List.getElem?_eq_getElem (by omega)
    rw [lvI, e]
    show x ∈ (lvK N f (lvI N f P i) P[i].1 P[i].2 N).map (·.1) ↔ _
    rw [lvKMem, lvIMem i (by omega), List.take_succ_eq_append_getElem (by omega)]
    constructor
    · rintro (⟨p, hp, h⟩ | ⟨a, h1, h2, h3⟩)
      · exact ⟨p, List.mem_append.2 (.inl hp), h⟩
      · exact ⟨P[i], List.mem_append.2 (.inr (by simp)), a, nxtMem.2 ⟨h1, h2⟩, h3⟩
    · rintro ⟨p, hp, a, ha, h⟩
      rcases List.mem_append.1 hp with hp | hp
      · exact .inl ⟨p, hp, a, ha, h⟩
      · rw [List.mem_singleton] at hp
        subst hp
        exact .inr ⟨a, (nxtMem.1 ha).1, (nxtMem.1 ha).2, h⟩
theorem lvlStep {n x : Nat} : x ∈ (lvl N f (n + 1)).map (·.1) ↔ ∃ s ∈ (lvl N f n).map (·.1), ∃ a ∈ nxtL N f s, x = addS s a := by
  rw [lvl, lvIMem _ (Nat.le_refl _), List.take_length]
  constructor
  · rintro ⟨p, hp, a, ha, h⟩
    exact ⟨p.1, List.mem_map.2 ⟨p, hp, rfl⟩, a, ha, h⟩
  · rintro ⟨s, hs, a, ha, h⟩
    obtain ⟨p, hp, rfl⟩ := List.mem_map.1 hs
    exact ⟨p, hp, a, ha, h⟩
theorem lvlRch : ∀ n {x : Nat}, x ∈ (lvl N f n).map (·.1) → RchS N f 0 x ∧ outS N x + n = N
  | 0, x, h => by
    have : x = 0 := by simpa [lvl] using h
    subst this
    exact ⟨rchRefl, outZero⟩
  | n + 1, x, h => by
    obtain ⟨s, hs, a, ha, rfl⟩ := lvlStep.1 h
    obtain ⟨h1, h2⟩ := lvlRch n hs
    obtain ⟨h3, h4⟩ := nxtMem.1 ha
    have := outAdd h3 (canIff.1 h4).1
    exact ⟨rchNext h1 ha, by omega⟩
/-- Each set that is reached stands in its level. -/
theorem lvlAll : ∀ (t : List Nat) (s n : Nat), s ∈ (lvl N f n).map (·.1) → okL N f s t = true → t.foldl addS s ∈ (lvl N f (n + t.length)).map (·.1)
  | [], s, n, hs, _ => hs
  | a :: t, s, n, hs, h => by
    rw [okL, Bool.and_eq_true, Bool.and_eq_true, decide_eq_true_iff] at h
    have := lvlAll t (addS s a) (n + 1) (lvlStep.2 ⟨s, hs, a, nxtMem.2 h.1, rfl⟩) h.2
    rw [List.length_cons, show n + (t.length + 1) = n + 1 + t.length by omega]
    exact this
theorem lvlHas {x : Nat} (h : RchS N f 0 x) : ∃ n, n ≤ N ∧ x ∈ (lvl N f n).map (·.1) := by
  obtain ⟨t, h1, rfl⟩ := h
  have h2 := lvlAll t 0 0 (by simp [lvl]) h1
  exact ⟨_, by have := (lvlRch _ h2).2; omega, h2⟩
/-- All sets, level by level. -/
def lvKeys (N : Nat) (f : Nat → Nat → Bool) (n : Nat) : List Nat := (List.range n).flatMap fun i => (lvl N f i).map (·.1)
theorem lvKeysS {n : Nat} : lvKeys N f (n + 1) = lvKeys N f n ++ (lvl N f n).map (·.1) := by
  unfold lvKeys
  rw [List.range_succ, List.flatMap_append]
  simp
theorem lvKeysMem {n x : Nat} : x ∈ lvKeys N f n ↔ ∃ i, i < n ∧ x ∈ (lvl N f i).map (·.1) := by
  unfold lvKeys
  rw [List.mem_flatMap]
  exact ⟨fun ⟨i, h1, h2⟩ => ⟨i, List.mem_range.1 h1, h2⟩, fun ⟨i, h1, h2⟩ => ⟨i, List.mem_range.2 h1, h2⟩⟩
theorem lvKeysNodup : ∀ n, (lvKeys N f n).Nodup
  | 0 => by simp [lvKeys]
  | n + 1 => by
    rw [lvKeysS, List.nodup_append]
    refine ⟨lvKeysNodup n, lvlNodup n, fun x hx y hy e => ?_⟩
    subst e
    obtain ⟨i, hi, h⟩ := lvKeysMem.1 hx
    have := (lvlRch _ h).2
    have := (lvlRch _ hy).2
    omega
theorem lvKeysIff {x : Nat} : x ∈ lvKeys N f (N + 1) ↔ RchS N f 0 x := by
  rw [lvKeysMem]
  exact ⟨fun ⟨_, _, h⟩ => (lvlRch _ h).1, fun h => let ⟨n, h1, h2⟩ := lvlHas h; ⟨n, by omega, h2⟩⟩
theorem lvLe {K : List Nat} (hn : K.Nodup) (h : ∀ x ∈ K, RchS N f 0 x) : K.length ≤ 2 ^ N := by
  have := nodupLeY (m := List.range (2 ^ N)) hn fun x hx => List.mem_range.2 (rchLt (h x hx))
  rwa [List.length_range] at this
/-! The ways. -/
def ways1 (N : Nat) (f : Nat → Nat → Bool) (g : Nat → Nat) (s k : Nat) : Nat := (((List.range k).filter (canL N f s)).map fun a => g (addS s a)).sum
theorem ways1S {g : Nat → Nat} {s k : Nat} : ways1 N f g s (k + 1) = ways1 N f g s k + if canL N f s k then g (addS s k) else 0 := by
  unfold ways1
  rw [List.range_succ, List.filter_append, List.map_append, List.sum_append, List.filter_cons, List.filter_nil]
  cases canL N f s k <;> simp
theorem wsmK {g : Nat → Nat} {L : List (Nat × Nat)} {s u : Nat} (hn : (L.map (·.1)).Nodup) : ∀ k, wsm g (lvK N f L s u k) = wsm g L + u * ways1 N f g s k
  | 0 => by simp [lvK, ways1]
  | k + 1 => by
    rw [lvK, ways1S]
    split
    · rw [wsmAdd (lvKNodup hn k), wsmK hn k, Nat.mul_add]; omega
    · rw [wsmK hn k, Nat.add_zero]
theorem wsmI {g : Nat → Nat} {P : List (Nat × Nat)} : ∀ i, i ≤ P.length → wsm g (lvI N f P i) = wsm (fun s => ways1 N f g s N) (P.take i)
  | 0, _ => by simp [lvI, wsm]
  | i + 1, hi => by
    have e : P[i]? = some P[i] := List.getElem?_eq_getElem (by omega)
    rw [lvI, e]
    show wsm g (lvK N f (lvI N f P i) P[i].1 P[i].2 N) = _
    rw [wsmK (lvINodup i), wsmI i (by omega), List.take_succ_eq_append_getElem (by omega)]
    unfold wsm
    rw [List.map_append, List.sum_append]
    simp
theorem wsmL {g : Nat → Nat} {n : Nat} : wsm g (lvl N f (n + 1)) = wsm (fun s => ways1 N f g s N) (lvl N f n) := by
  rw [lvl, wsmI _ (Nat.le_refl _), List.take_length]
theorem wsmWays : ∀ n m, wsm (ways N f m) (lvl N f n) = ways N f (m + n) 0
  | 0, m => by simp [lvl, wsm]
  | n + 1, m => by
    rw [wsmL]
    have e : (fun s => ways1 N f (ways N f m) s N) = ways N f (m + 1) := by
      funext s
      rw [waysSucc]
      rfl
    rw [e, wsmWays n (m + 1), show m + 1 + n = m + (n + 1) by omega]
/-- The last level. -/
theorem lvlLast (hac : acyT N (tcT N f)) : lvl N f N = [(fullS N, ways N f N 0)] := by
  have h0 := wsmWays (N := N) (f := f) N 0
  rw [Nat.zero_add] at h0
  have hn := lvlNodup (N := N) (f := f) N
  have hall : ∀ x ∈ (lvl N f N).map (·.1), x = fullS N := fun x hx => by
    obtain ⟨h1, h2⟩ := lvlRch _ hx
    exact outFull (rchBits h1) (by omega)
  have hh : fullS N ∈ (lvl N f N).map (·.1) := by
    obtain ⟨n, h1, h2⟩ := lvlHas (rchFull hac _ rfl fun i hi => by simp at hi : RchS N f 0 (fullS N))
    have h3 := (lvlRch _ h2).2
    have h4 : outS N (fullS N) = 0 := by
      unfold outS
      rw [List.countP_eq_zero]
      intro a ha
      rw [fullBit, decide_eq_true (List.mem_range.1 ha)]
      simp
    obtain rfl : n = N := by omega
    exact h2
  rcases e : lvl N f N with _ | ⟨p, _ | ⟨q, L⟩⟩
  · rw [e] at hh; simp at hh
  · rw [e] at h0 hall
    have h1 : p.1 = fullS N := hall p.1 (by simp)
    have h2 : p.2 = ways N f N 0 := by
      rw [← h0]
      unfold wsm
      simp [waysZero]
    rw [← h1, ← h2]
  · rw [e] at hn hall
    have h1 := hall p.1 (by simp)
    have h2 := hall q.1 (by simp)
    simp [h1, h2] at hn
/-- Crude bounds: by sums of the ways. -/
theorem ways1Le {s : Nat} : ways1 N f (fun _ => 1) s N ≤ N := by
  unfold ways1
  have h1 : (((List.range N).filter (canL N f s)).map fun _ => 1).sum = ((List.range N).filter (canL N f s)).length := by
    generalize (List.range N).filter (canL N f s) = K
    induction K with
    | nil => rfl
    | cons a K ih => rw [List.map_cons, List.sum_cons, ih, List.length_cons]; omega
  rw [h1]
  exact Nat.le_trans (List.length_filter_le _ _) (by simp)
end
end Go.Proofs.YtjioiaeiggjneaaDoor

namespace Go.Proofs.YtjioiaeiggjneaaDoor

theorem wsmMem {L : List (Nat × Nat)} {p : Nat × Nat} (h : p ∈ L) : p.2 ≤ wsm (fun _ => 1) L := by
  induction L with
  | nil => cases h
  | cons q L ih =>
    unfold wsm at ih ⊢
    rw [List.map_cons, List.sum_cons]
    rcases List.mem_cons.1 h with rfl | h
    · show p.2 ≤ p.2 * 1 + _
      omega
    · have := ih h
      show p.2 ≤ q.2 * 1 + _
      omega
theorem wsmLe {g : Nat → Nat} {L : List (Nat × Nat)} {c : Nat} (hg : ∀ s, g s ≤ c) : wsm g L ≤ c * wsm (fun _ => 1) L := by
  induction L with
  | nil => simp [wsm]
  | cons q L ih =>
    unfold wsm at ih ⊢
    rw [List.map_cons, List.sum_cons, List.map_cons, List.sum_cons, Nat.mul_add, Nat.mul_one, Nat.mul_comm c q.2]
    have := Nat.mul_le_mul_left q.2 (hg q.1)
    omega
theorem wsmTake {L : List (Nat × Nat)} {i : Nat} : wsm (fun _ => 1) (L.take i) ≤ wsm (fun _ => 1) L := by
  have e : wsm (fun _ => 1) L = wsm (fun _ => 1) (L.take i) + wsm (fun _ => 1) (L.drop i) := by
    unfold wsm
    rw [← List.sum_append, ← List.map_append, List.take_append_drop]
  omega
section
variable {N : Nat} {f : Nat → Nat → Bool}
theorem ways1Le2 {s k : Nat} : ways1 N f (fun _ => 1) s k ≤ k := by
  unfold ways1
  have h1 : (((List.range k).filter (canL N f s)).map fun _ => 1).sum = ((List.range k).filter (canL N f s)).length := by
    generalize (List.range k).filter (canL N f s) = K
    induction K with
    | nil => rfl
    | cons a K ih => rw [List.map_cons, List.sum_cons, ih, List.length_cons]; omega
  rw [h1]
  exact Nat.le_trans (List.length_filter_le _ _) (by simp)
theorem lvlSum : ∀ n, wsm (fun _ => 1) (lvl N f n) ≤ N ^ n
  | 0 => by simp [lvl, wsm]
  | n + 1 => by
    rw [wsmL, Nat.pow_succ, Nat.mul_comm]
    exact Nat.le_trans (wsmLe (c := N) fun s => ways1Le2) (Nat.mul_le_mul_left N (lvlSum n))
theorem pow8 {N m : Nat} (hN : N ≤ 8) (hm : m < N) : N ^ m ≤ 2097152 :=
  Nat.le_trans (Nat.pow_le_pow_left hN m) (Nat.le_trans (Nat.pow_le_pow_right (by omega) (show m ≤ 7 by omega)) (by decide))
theorem lvBound (hN : N ≤ 8) {m i k : Nat} (hm : m < N) (hi : i < (lvl N f m).length) (hk : k ≤ N) : ∀ q ∈ lvK N f (lvI N f (lvl N f m) i) (lvl N f m)[i].1 (lvl N f m)[i].2 k, q.2 + (lvl N f m)[i].2 < 1000000000 := by
  intro q hq
  have h1 := wsmMem hq
  rw [wsmK (lvINodup i), wsmI i (by omega)] at h1
  have h2 : wsm (fun s => ways1 N f (fun _ => 1) s N) ((lvl N f m).take i) ≤ 8 * wsm (fun _ => 1) ((lvl N f m).take i) := wsmLe fun s => Nat.le_trans ways1Le2 hN
  have h3 := wsmTake (L := lvl N f m) (i := i)
  have h4 := Nat.le_trans (lvlSum (N := N) (f := f) m) (pow8 hN hm)
  have h5 := wsmMem (List.getElem_mem hi)
  have h6 : (lvl N f m)[i].2 * ways1 N f (fun _ => 1) (lvl N f m)[i].1 k ≤ (lvl N f m)[i].2 * 8 := Nat.mul_le_mul_left _ (Nat.le_trans ways1Le2 (by omega))
  omega
theorem lvKRch {m i k : Nat} (hi : i < (lvl N f m).length) (hk : k ≤ N) {x : Nat} (h : x ∈ (lvK N f (lvI N f (lvl N f m) i) (lvl N f m)[i].1 (lvl N f m)[i].2 k).map (·.1)) : RchS N f 0 x := by
  have hp : ∀ p ∈ lvl N f m, RchS N f 0 p.1 := fun p hp => (lvlRch m (List.mem_map.2 ⟨p, hp, rfl⟩)).1
  rcases (lvKMem k).1 h with h | ⟨a, h1, h2, rfl⟩
  · obtain ⟨p, h3, a, h4, rfl⟩ := (lvIMem i (by omega)).1 h
    exact rchNext (hp p (List.mem_of_mem_take h3)) h4
  · exact rchNext (hp _ (List.getElem_mem hi)) (nxtMem.2 ⟨by omega, h2⟩)
theorem lvKLen (hN : N ≤ 8) {m i k : Nat} (hi : i < (lvl N f m).length) (hk : k ≤ N) : (lvK N f (lvI N f (lvl N f m) i) (lvl N f m)[i].1 (lvl N f m)[i].2 k).length ≤ 256 := by
  have h1 := lvLe (lvKNodup (L := lvI N f (lvl N f m) i) (s := (lvl N f m)[i].1) (u := (lvl N f m)[i].2) (lvINodup i) k) fun x hx => lvKRch hi hk hx
  rw [List.length_map] at h1
  exact Nat.le_trans h1 (Nat.le_trans (Nat.pow_le_pow_right (by omega) hN) (by decide))
theorem lvIRch {m i : Nat} (hi : i ≤ (lvl N f m).length) {x : Nat} (h : x ∈ (lvI N f (lvl N f m) i).map (·.1)) : RchS N f 0 x := by
  obtain ⟨p, h3, a, h4, rfl⟩ := (lvIMem i hi).1 h
  exact rchNext (lvlRch m (List.mem_map.2 ⟨p, List.mem_of_mem_take h3, rfl⟩)).1 h4
theorem lvILen (hN : N ≤ 8) {m i : Nat} (hi : i ≤ (lvl N f m).length) : (lvI N f (lvl N f m) i).length ≤ 256 := by
  have h1 := lvLe (lvINodup (P := lvl N f m) i) fun x hx => lvIRch hi hx
  rw [List.length_map] at h1
  exact Nat.le_trans h1 (Nat.le_trans (Nat.pow_le_pow_right (by omega) hN) (by decide))
theorem lvlLen (hN : N ≤ 8) (m : Nat) : (lvl N f m).length ≤ 256 := by
  have h1 := lvLe (lvlNodup (N := N) (f := f) m) fun x hx => (lvlRch m hx).1
  rw [List.length_map] at h1
  exact Nat.le_trans h1 (Nat.le_trans (Nat.pow_le_pow_right (by omega) hN) (by decide))
theorem lvKeysLen (hN : N ≤ 8) (m : Nat) : (lvKeys N f m).length ≤ 256 :=
  Nat.le_trans (lvLe (lvKeysNodup m) fun x hx => let ⟨_, _, h⟩ := lvKeysMem.1 hx; (lvlRch _ h).1) (Nat.le_trans (Nat.pow_le_pow_right (by omega) hN) (by decide))
theorem lvlLt (hN : N ≤ 8) {m : Nat} {p : Nat × Nat} (h : p ∈ lvl N f m) : p.1 < 256 :=
  Nat.lt_of_lt_of_le (rchLt (lvlRch m (List.mem_map.2 ⟨p, h, rfl⟩)).1) (Nat.le_trans (Nat.pow_le_pow_right (by omega) hN) (by decide))
end
end Go.Proofs.YtjioiaeiggjneaaDoor

namespace Go.Proofs.YtjioiaeiggjneaaDoor
open Go Go.RowKit

abbrev uvL (l : List Nat) : List Value := l.map fun x : Nat => .int .u64 (x : Int)
theorem infoU : (Tryd.prog.info? 50).map (fun i => (i.zero, i.size, i.bytes)) = some (some (.int .u64 0), 1, 8) := by kernel_rfl
/-- v is a row of the call's own (from block base on) that holds the masks l. -/
def OwnU (w : World) (base : Nat) (v : Value) (l : List Nat) : Prop := w.ownsRow base 50 1 v l.length (uvL l)
theorem uvOne (l : List Nat) : ∀ u ∈ uvL l, u.oneCell' = true := fun u hu => by
  obtain ⟨x, _, rfl⟩ := List.mem_map.1 hu
  rfl
theorem OwnU.nil (w : World) (base : Nat) : OwnU w base (.slice none 0 0) [] := World.ownsRow_nil _ _ _ _
theorem OwnU.rd {w : World} {base : Nat} {v : Value} {l : List Nat} (h : OwnU w base v l) : ∃ A c, v = .slice A l.length c ∧ Rds w A c (uvL l) ∧ (∀ ad, A = some ad → base ≤ ad.block) := by
  obtain ⟨A, c, hv, _, hr, hb⟩ := Rds.ofOwn h
  exact ⟨A, c, by simpa using hv, hr, hb⟩
/-- A level in memory: its sets and its ways. -/
def wysI (L : List (Nat × Nat)) : List Int := L.map fun p => (p.2 : Int)
structure LvO (w : World) (base : Nat) (a b : Value) (L : List (Nat × Nat)) : Prop where
  s : OwnU w base a (L.map (·.1))
  u : OwnI w base b (wysI L)
theorem LvO.ne {w : World} {base : Nat} {a b : Value} {L : List (Nat × Nat)} (h : LvO w base a b L) {g : Nat} (hg : a.ownBlock = some g) : b.ownBlock ≠ some g := ownApart h.s h.u (by decide) hg
theorem LvO.chg {w w' : World} {base : Nat} {a b : Value} {L : List (Nat × Nat)} (h : LvO w base a b L) (hb : Below w.heap.size w w') : LvO w' base a b L := ⟨ownChg h.s (Chg.ofBelow hb fun _ => True) fun _ _ => trivial, ownChg h.u (Chg.ofBelow hb fun _ => True) fun _ _ => trivial⟩
theorem runAppU (w : World) (base : Nat) (ty : TypeId) (v : Value) (l : List Nat) (hown : OwnU w base v l) (x : Nat) (g c : Nat) (hr : Rds w (some ⟨g, 0, none⟩) c (uvL [x])) (hb : l.length ≤ 1000000) (hbase : base ≤ w.heap.size) :
    ∃ v' w', (Builtin.append_ #[67, 67] ty #[v, .slice (some ⟨g, 0, none⟩) 1 c]).run Tryd.prog w = .ok v' w' ∧ OwnU w' base v' (l ++ [x]) ∧ w.grownBy w' v.ownBlock := by
  obtain ⟨i0, hi, hz0, hz1, hz2⟩ := info_parts infoU
  obtain ⟨v', w', h1, h2, _, h4, _⟩ := runApp (P := Tryd.prog) w base 67 ty 50 i0 _ 8 Tryd.underlying67 hi hz0 hz1 hz2 rfl v l.length (uvL l) hown _ 1 c (uvL [x]) rfl hr (uvOne _) (by omega) (by unfold maxLen; omega) hbase
  refine ⟨v', w', h1, ?_, h4⟩
  unfold OwnU uvL
  rw [List.length_append, List.map_append]
  exact h2
theorem addPNew {L : List (Nat × Nat)} {s u : Nat} (h : s ∉ L.map (·.1)) : addP L s u = L ++ [(s, u)] := by unfold addP; rw [if_neg h]
/-- Where the set stands. -/
theorem addPAt {L : List (Nat × Nat)} {s u k : Nat} (hn : (L.map (·.1)).Nodup) (hk : k < L.length) (he : L[k].1 = s) : addP L s u = L.set k (s, L[k].2 + u) := by
  have hm : s ∈ L.map (·.1) := List.mem_map.2 ⟨L[k], List.getElem_mem hk, he⟩
  unfold addP
  rw [if_pos hm]
  refine List.ext_getElem (by simp) fun i h1 h2 => ?_
  have hi : i < L.length := by simpa using h1
  rw [List.getElem_map, List.getElem_set]
  by_cases e : k = i
  · subst e
    rw [if_pos he, if_pos rfl, he]
  · rw [if_neg e, if_neg fun h => e ?_]
    have h3 : (L.map (·.1))[k]'(by simpa using hk) = (L.map (·.1))[i]'(by simpa using hi) := by rw [List.getElem_map, List.getElem_map, he, h]
    exact (List.getElem_inj hn).1 h3
theorem Blk.chg {W W' : World} {F : Nat → Prop} {b : Nat} {T : TypeId} {cs : Array Value} (h : Blk W b T cs) (hc : Chg W W' F) (hF : F b) : Blk W' b T cs := (hc.block b h.lt hF).trans h
theorem OwnU.lt {w : World} {base : Nat} {v : Value} {l : List Nat} (h : OwnU w base v l) {g : Nat} (hg : v.ownBlock = some g) : base ≤ g ∧ g < w.heap.size := World.ownsRow.lt h g hg
/-- append of a mask. -/
theorem appU (w : World) {ops : Array Oper} {rest : List Oper} {o : Oper} {a : Act} {Q : Exit → Act → World → Prop} (hgd : o.guard = none) (s x : Operand)
    (ho : o.op = .call { callee := .builtin .append, args := #[s, x], argTypes := #[67, 67] })
    (base : Nat) (v : Value) (l : List Nat) (hs : a.eval s = v) (hown : OwnU w base v l)
    (A : Option Addr) (m c : Nat) (news : List Nat) (hx : a.eval x = .slice A m c) (hm : m = news.length) (hr : Rds w A c (uvL news))
    (hb : l.length + news.length ≤ 1000000) (hbase : base ≤ w.heap.size)
    (h : ∀ v' w', OwnU w' base v' (l ++ news) → w.grownBy w' v.ownBlock → wpList Tryd.prog ops Q rest (a.put o.dst v') w') :
    wpList Tryd.prog ops Q (o :: rest) a w := by
  obtain ⟨i0, hi, hz0, hz1, hz2⟩ := info_parts infoU
  refine wpList_app w hgd s x 67 ho base 50 i0 _ 8 Tryd.underlying67 hi hz0 hz1 hz2 rfl v l.length (uvL l) hs hown A m c (uvL news) hx (by simpa using hm) hr (uvOne _) (by omega) (by unfold maxLen; omega) hbase fun v' w' h1 _ h3 _ => h v' w' ?_ h3
  unfold OwnU uvL
  rw [List.length_append, List.map_append, ← hm]
  exact h1
/-- append of integers, with what it leaves. -/
theorem appJ (w : World) {ops : Array Oper} {rest : List Oper} {o : Oper} {a : Act} {Q : Exit → Act → World → Prop} (hgd : o.guard = none) (s x : Operand)
    (ho : o.op = .call { callee := .builtin .append, args := #[s, x], argTypes := #[25, 25] })
    (base : Nat) (v : Value) (l : List Int) (hs : a.eval s = v) (hown : OwnI w base v l)
    (A : Option Addr) (m c : Nat) (news : List Int) (hx : a.eval x = .slice A m c) (hm : m = news.length) (hr : Rd w A c news)
    (hb : l.length + news.length ≤ 1000000) (hbase : base ≤ w.heap.size)
    (h : ∀ v' w', OwnI w' base v' (l ++ news) → w.grownBy w' v.ownBlock → wpList Tryd.prog ops Q rest (a.put o.dst v') w') :
    wpList Tryd.prog ops Q (o :: rest) a w := by
  obtain ⟨i0, hi, hz0, hz1, hz2⟩ := info_parts infoInt
  refine wpList_app w hgd s x 25 ho base 3 i0 _ 8 Tryd.underlying25 hi hz0 hz1 hz2 rfl v l.length (iv l) hs hown A m c (iv news) hx (by simpa using hm) hr (ivOne _) (by omega) (by unfold maxLen; omega) hbase fun v' w' h1 _ h3 _ => h v' w' ?_ h3
  unfold OwnI iv
  rw [List.length_append, List.map_append, ← hm]
  exact h1
theorem ownNeBlk {w : World} {base : Nat} {e T : TypeId} {v : Value} {n g : Nat} {xs : List Value} {cs : Array Value} (h : w.ownsRow base e 1 v n xs) (hk : Blk w g T cs) (hne : e ≠ T) : v.ownBlock ≠ some g := by
  intro hg
  rcases h.2 with ⟨rfl, _⟩ | ⟨k, cap, cur, rfl, _, hk2, _⟩
  · simp [Value.ownBlock] at hg
  · have e1 : k = g := by simpa [Value.ownBlock] using hg
    subst e1
    unfold Blk at hk
    rw [hk] at hk2
    injection hk2 with hk2
    injection hk2 with _ ht
    exact hne ht.symm
/-- While add runs: the two rows and its two boxes. -/
structure AdS (w V : World) (base g : Nat) (a b : Value) (K : List Nat) (Y : List Int) (cg cr : Array Value) : Prop where
  s : OwnU V base a K
  u : OwnI V base b Y
  k : Blk V g 69 cg
  r : Blk V (g + 1) 69 cr
  b : Below base w V
  lo : base ≤ g
section
variable {w V V' : World} {base g : Nat} {a b a' b' : Value} {K K' : List Nat} {Y Y' : List Int} {cg cr : Array Value}
theorem AdS.le (h : AdS w V base g a b K Y cg cr) : base ≤ V.heap.size := Nat.le_trans h.lo (Nat.le_of_lt h.k.lt)
theorem AdS.chg (h : AdS w V base g a b K Y cg cr) (hb : Below V.heap.size V V') : AdS w V' base g a b K Y cg cr :=
  ⟨ownChg h.s (Chg.ofBelow hb fun _ => True) fun _ _ => trivial, ownChg h.u (Chg.ofBelow hb fun _ => True) fun _ _ => trivial, h.k.below' hb, h.r.below' hb, h.b.trans (hb.mono h.le), h.lo⟩
theorem AdS.setG (h : AdS w V base g a b K Y cg cr) (i : Nat) (v : Value) : AdS w (V.setCell ⟨g, i, none⟩ v) base g a b K Y (cg.setIfInBounds i v) cr :=
  ⟨ownChg h.s (Chg.setCell V ⟨g, i, none⟩ v) fun q hq e => ownNeBlk h.s h.k (by decide) (by rw [hq, e]), ownChg h.u (Chg.setCell V ⟨g, i, none⟩ v) fun q hq e => ownNeBlk h.u h.k (by decide) (by rw [hq, e]), h.k.set i v, h.r.other (by omega) i v, h.b.setCell h.lo v, h.lo⟩
theorem AdS.setR (h : AdS w V base g a b K Y cg cr) (i : Nat) (v : Value) : AdS w (V.setCell ⟨g + 1, i, none⟩ v) base g a b K Y cg (cr.setIfInBounds i v) :=
  ⟨ownChg h.s (Chg.setCell V ⟨g + 1, i, none⟩ v) fun q hq e => ownNeBlk h.s h.r (by decide) (by rw [hq, e]), ownChg h.u (Chg.setCell V ⟨g + 1, i, none⟩ v) fun q hq e => ownNeBlk h.u h.r (by decide) (by rw [hq, e]), h.k.other (by omega) i v, h.r.set i v, h.b.setCell (Nat.le_succ_of_le h.lo) v, h.lo⟩
theorem AdS.appU (h : AdS w V base g a b K Y cg cr) (ho : OwnU V' base a' K') (hg : V.grownBy V' a.ownBlock) : AdS w V' base g a' b K' Y cg cr := by
  have hc : Chg V V' (fun q => a.ownBlock ≠ some q) := Chg.ofGrown hg fun _ h => h
  exact ⟨ho, ownChg h.u hc fun q hq e => ownApart h.s h.u (by decide) e hq, h.k.chg hc (ownNeBlk h.s h.k (by decide)), h.r.chg hc (ownNeBlk h.s h.r (by decide)), h.b.grown hg h.le fun q hq => (World.ownsRow.lt h.s q hq).1, h.lo⟩
theorem AdS.appJ (h : AdS w V base g a b K Y cg cr) (ho : OwnI V' base b' Y') (hg : V.grownBy V' b.ownBlock) : AdS w V' base g a b' K Y' cg cr := by
  have hc : Chg V V' (fun q => b.ownBlock ≠ some q) := Chg.ofGrown hg fun _ h => h
  exact ⟨ownChg h.s hc fun q hq e => ownApart h.s h.u (by decide) hq e, ho, h.k.chg hc (ownNeBlk h.u h.k (by decide)), h.r.chg hc (ownNeBlk h.u h.r (by decide)), h.b.grown hg h.le fun q hq => (World.ownsRow.lt h.u q hq).1, h.lo⟩
end
def lvV (a b : Value) : Value := .agg #[a, b, .bool false]
theorem wysLen (L : List (Nat × Nat)) : (wysI L).length = L.length := by unfold wysI; simp
theorem AdS.u2 {w V : World} {base g n : Nat} {a b : Value} {K : List Nat} {Y : List Int} {cg cr : Array Value} (h : AdS w V base g a b K Y cg cr) (hY : Y.length = n) : V.ownsRow base 3 1 b n (iv Y) := by
  have h1 := h.u
  unfold OwnI at h1
  rwa [hY] at h1
theorem ownHead {w : World} {base : Nat} {B : Option Addr} {d n : Nat} {Y : List Int} (h : OwnI w base (.slice B n d) Y) (hn : 0 < Y.length) : ∃ g, B = some ⟨g, 0, none⟩ := by
  rcases h.2 with ⟨h2, h0⟩ | ⟨g, cap, cur, h2, _⟩
  · omega
  · injection h2 with h2 h3
    exact ⟨g, h2⟩
theorem AdS.setW {w V : World} {base g : Nat} {a : Value} {q n d : Nat} {K : List Nat} {Y : List Int} {cg cr : Array Value} (h : AdS w V base g a (.slice (some ⟨q, 0, none⟩) n d) K Y cg cr) (hY : Y.length = n) (k : Nat) (x : Int) : AdS w (V.setCell ⟨q, k, none⟩ (.int .i64 x)) base g a (.slice (some ⟨q, 0, none⟩) n d) K (Y.set k x) cg cr := by
  have hq := World.ownsRow.lt h.u q rfl
  have h1 := h.u
  unfold OwnI at h1
  rw [hY] at h1
  have h2 := (World.ownsRow.stored h1 k (.int .i64 x)).1
  refine ⟨ownChg h.s (Chg.setCell V ⟨q, k, none⟩ _) fun i hi e => ownApart h.s h.u (by decide) hi (by rw [e]; rfl), ?_, h.k.other (fun e => ownNeBlk h.u h.k (by decide) (by rw [e]; rfl)) k _, h.r.other (fun e => ownNeBlk h.u h.r (by decide) (by rw [e]; rfl)) k _, h.b.setCell hq.1 _, h.lo⟩
  unfold OwnI iv
  rw [List.length_set, List.map_set, hY]
  exact h2
theorem litU (w : World) (s : Nat) (t : TypeId) : Rds (w.alloc (.cells #[.int .u64 (s : Int)] t)) (some ⟨w.heap.size, 0, none⟩) 1 (uvL [s]) := Rds.lit w [.int .u64 (s : Int)] t (show 1 ≤ maxLen by decide)
theorem litJ (w : World) (s : Nat) (t : TypeId) : Rd (w.alloc (.cells #[.int .i64 (s : Int)] t)) (some ⟨w.heap.size, 0, none⟩) 1 [(s : Int)] := Rds.lit w [.int .i64 (s : Int)] t (show 1 ≤ maxLen by decide)
theorem litJS (w : World) (p : Addr) (v : Value) (s : Nat) (t : TypeId) : Rd ((w.setCell p v).alloc (.cells #[.int .i64 (s : Int)] t)) (some ⟨w.heap.size, 0, none⟩) 1 [(s : Int)] := by
  have h := litJ (w.setCell p v) s t
  have e : (w.setCell p v).heap.size = w.heap.size := by simp
  rw [e] at h
  exact h
theorem infoLevel : (Tryd.prog.info? 69).map (·.size) = some 3 := by kernel_rfl
theorem uvAt {L : List (Nat × Nat)} {w : World} {A : Option Addr} {c k : Nat} (h : Rds w A c (uvL (L.map (·.1)))) (hk : k < L.length) : ∃ ad, A = some ad ∧ w.cell? (ad.add k) = some (.int .u64 (L[k].1 : Int)) := by
  obtain ⟨ad, e, _, hc⟩ := h.one (k := k) (by simpa using hk)
  exact ⟨ad, e, by simpa using hc⟩
theorem wyAt {L : List (Nat × Nat)} {w : World} {A : Option Addr} {c k : Nat} (h : Rd w A c (wysI L)) (hk : k < L.length) : ∃ ad, A = some ad ∧ w.cell? (ad.add k) = some (.int .i64 (L[k].2 : Int)) := by
  obtain ⟨ad, e, _, hc⟩ := h.one (k := k) (by simpa [wysI] using hk)
  exact ⟨ad, e, by simpa [wysI] using hc⟩
set_option maxRecDepth 100000 in
set_option maxHeartbeats 4000000 in
theorem rAdd (base : Nat) (L : List (Nat × Nat)) (n : Nat) (hn : L.length = n) (hL : n ≤ 100000) (hnd : (L.map (·.1)).Nodup) (s u : Nat) (hu : ∀ p ∈ L, p.2 + u < 1000000000) (a b : Value) (w : World) (hO : LvO w base a b L) (hbase : base ≤ w.heap.size) :
    Calls Tryd.prog 49 #[lvV a b, .int .u64 s, .int .i64 u] w fun e w' => ∃ a' b', e = .returned (lvV a' b') ∧ LvO w' base a' b' (addP L s u) ∧ Below base w w' := by
  obtain ⟨A, c, rfl, hA, _⟩ := hO.s.rd
  obtain ⟨B, d, rfl, hB, _⟩ := hO.u.rd
  have e1 : (L.map (·.1)).length = n := by simpa using hn
  have e2 : (wysI L).length = n := by unfold wysI; simpa using hn
  rw [e1] at hO ⊢
  rw [e2] at hO ⊢
  obtain ⟨W, hW⟩ : ∃ W, (w.alloc (.cells #[.slice A n c, .slice B n d, .bool false] 69)).alloc (.cells #[.slice none 0 0, .slice none 0 0, .bool false] 69) = W := ⟨_, rfl⟩
  have hbW : Below w.heap.size w W := by rw [← hW]; exact (belowAlloc w _).alloc (by simp) _
  have HS : Hid (AdS w W base w.heap.size (.slice A n c) (.slice B n d) (L.map (·.1)) (wysI L) #[.slice A n c, .slice B n d, .bool false] #[.slice none 0 0, .slice none 0 0, .bool false]) := by
    have h1 : Blk W w.heap.size 69 #[.slice A n c, .slice B n d, .bool false] := by rw [← hW]; exact (Blk.new w _ _).alloc _
    have h2 : Blk W (w.heap.size + 1) 69 #[.slice none 0 0, .slice none 0 0, .bool false] := by rw [← hW]; exact Blk.new1 w _ _ _
    exact Lib.hid ⟨(hO.chg hbW).s, (hO.chg hbW).u, h1, h2, hbW.mono hbase, hbase⟩
  have k0 : W.cell? ⟨w.heap.size, 0, none⟩ = some (.slice A n c) := HS.out.k.cell 0
  have k1 : W.cell? ⟨w.heap.size, 1, none⟩ = some (.slice B n d) := HS.out.k.cell 1
  have k2 : W.cell? ⟨w.heap.size, 2, none⟩ = some (.bool false) := HS.out.k.cell 2
  have f0 := HS.out.k.frozen 0
  have f1 := HS.out.k.frozen 1
  have f2 := HS.out.k.frozen 2
  have f3 := HS.out.r.frozen 0
  have f4 := HS.out.r.frozen 1
  have f5 := HS.out.r.frozen 2
  have HA := Lib.hid (hA.below hbW)
  have HB := Lib.hid (hB.below hbW)
  have hle := hA.le
  have hmx := hA.max
  have hle2 := hB.le
  have hmx2 := hB.max
  have HW := Lib.hid hW
  have HN := Lib.hid hn
  have HND := Lib.hid hnd
  have HU := Lib.hid hu
  unfold maxLen at hmx hmx2
  simp only [List.length_map] at hle hle2
  rw [e2] at hle2
  rw [hn] at hle
  clear hbW hW hA hB hO e1 e2 hn hnd hu
  unfold lvV
  go_enter Tryd.func49, Tryd.ntmps49
  go_wp2_with fail
  rw [HW.out]
  go_wp2_with fail
  go_loopw [7] (fun i wr => ∃ j : Nat, j ≤ n ∧ i = .int .i64 j ∧ wr = W ∧ Hid (∀ x ∈ L.take j, x.1 ≠ s)) (fun i _ => n - (intOf i).toNat)
  case atStart => exact ⟨0, by omega, rfl, rfl, Lib.hid (by simp)⟩
  case round => 
    obtain ⟨j, hj, rfl, rfl, HT⟩ := hrel
    by_cases hlt : j < n
    · have hjl : j < L.length := by rw [HN.out]; exact hlt
      obtain ⟨ad, rfl, hc⟩ := uvAt HA.out hjl
      obtain ⟨ad2, rfl, hc2⟩ := wyAt HB.out hjl
      have hj0 : (0 : Int) ≤ j := by omega
      have hj1 : (j : Int) < n := by omega
      by_cases hxs : L[j].1 = s
      · have hyy : ((L[j].1 : Int) != (s : Int)) = false := by simp [hxs]
        have hjn : ((j : Int) == (n : Int)) = false := by simp; omega
        have HXS := Lib.hid hxs
        clear hxs
        have hxu := HU.out _ (List.getElem_mem hjl)
        have HFIN := Lib.hid (show L.map (·.1) = (addP L s u).map (·.1) ∧ (wysI L).set j ((L[j].2 : Int) + u) = wysI (addP L s u) by
          constructor
          · rw [addPKeys, if_pos (List.mem_map.2 ⟨L[j], List.getElem_mem hjl, HXS.out⟩)]
          · rw [addPAt HND.out hjl HXS.out]
            unfold wysI
            rw [List.map_set]
            rfl)
        obtain ⟨x, hx⟩ : ∃ x, L[j].2 = x := ⟨_, rfl⟩
        rw [hx] at hc2 hxu HFIN
        obtain ⟨q, hq⟩ := ownHead HS.out.u (by unfold wysI; simp; omega)
        injection hq with hq
        subst hq
        rw [Addr.add_lit, Nat.zero_add] at hc2
        have hfq := World.ownsRow.frozenAt (HS.out.u2 (show (wysI L).length = n by rw [wysLen, HN.out])) j
        obtain ⟨V, hV⟩ : ∃ V, (wr.setCell ⟨q, j, none⟩ (.int .i64 ((x : Int) + u))).drew = V := ⟨_, rfl⟩
        have HSV : Hid (AdS w V base w.heap.size (.slice (some ad) n c) (.slice (some ⟨q, 0, none⟩) n d) (L.map (·.1)) ((wysI L).set j ((x : Int) + u)) #[.slice (some ad) n c, .slice (some ⟨q, 0, none⟩) n d, .bool false] #[.slice none 0 0, .slice none 0 0, .bool false]) := by
          rw [← hV]
          exact Lib.hid ((HS.out.setW (show (wysI L).length = n by rw [wysLen, HN.out]) j _).chg ((Below.refl _ _).drew))
        generalize L[j].1 = y at hc hyy
        clear hx HXS
        go_wp2_with fail
        have hw : IntKind.i64.wrap ((x : Int) + u) = (x : Int) + u := by rw [IntKind.wrap_i64]; omega
        have v0 : V.cell? ⟨w.heap.size, 0, none⟩ = some (.slice (some ad) n c) := HSV.out.k.cell 0
        have v1 : V.cell? ⟨w.heap.size, 1, none⟩ = some (.slice (some ⟨q, 0, none⟩) n d) := HSV.out.k.cell 1
        have v2 : V.cell? ⟨w.heap.size, 2, none⟩ = some (.bool false) := HSV.out.k.cell 2
        have v3 : V.cell? ⟨q, j, none⟩ = some (.int .i64 ((x : Int) + u)) := by
          rw [World.ownsRow.cellAt (HSV.out.u2 (show ((wysI L).set j ((x : Int) + u)).length = n by rw [List.length_set, wysLen, HN.out])) j (by omega)]
          unfold iv
          rw [List.getElem?_map, List.getElem?_set_self (by rw [wysLen]; exact hjl)]
          rfl
        have v4 : V.cell? ⟨w.heap.size + 1, 0, none⟩ = some (.slice none 0 0) := HSV.out.r.cell 0
        have v5 : V.cell? ⟨w.heap.size + 1, 1, none⟩ = some (.slice none 0 0) := HSV.out.r.cell 1
        have v6 : V.cell? ⟨w.heap.size + 1, 2, none⟩ = some (.bool false) := HSV.out.r.cell 2
        have g0 := HSV.out.k.frozen 0
        have g1 := HSV.out.k.frozen 1
        have g2 := HSV.out.k.frozen 2
        have g3 := HSV.out.r.frozen 0
        have g4 := HSV.out.r.frozen 1
        have g5 := HSV.out.r.frozen 2
        have hneg : decide ((x : Int) + u < 0) = false := by simp; omega
        have HXU := Lib.hid hxu
        clear f0 f1 f2 f3 f4 f5 k2
        go_region_with (fail)
        all_goals go_wp2_with fail
        all_goals (
          have HFS := (((HSV.out.setG 2 (.bool false)).setR 0 (.slice (some ad) n c)).setR 1 (.slice (some ⟨q, 0, none⟩) n d)).setR 2 (.bool false)
          refine bodyPost_ret (HFS.r.res rfl _ rfl Tryd.underlying69 rfl infoLevel) rfl ?_
          exact ⟨_, _, rfl, ⟨by rw [← HFIN.out.1]; exact HFS.s, by rw [← HFIN.out.2]; exact HFS.u⟩, HFS.b⟩)
      · have HT2 := Lib.hid (show ∀ x ∈ L.take (j + 1), x.1 ≠ s by
          rw [List.take_succ_eq_append_getElem hjl]
          intro x hx
          rcases List.mem_append.1 hx with hx | hx
          · exact HT.out x hx
          · rw [List.mem_singleton] at hx
            exact hx ▸ hxs)
        have hyy : ((L[j].1 : Int) != (s : Int)) = true := by simp; omega
        clear hxs
        generalize L[j].1 = x at hc hyy
        go_wp2_with fail
        all_goals go_wp2
        all_goals go_roundw
        case rel => exact ⟨j + 1, by omega, by go_num, by trivial, HT2⟩
        case measure => simp [intOf]; omega
    · obtain rfl : j = n := by omega
      have hjn : ((j : Int) == (j : Int)) = true := by simp
      have hns : s ∉ L.map (·.1) := fun h => by
        obtain ⟨p, hp, e⟩ := List.mem_map.1 h
        exact HT.out p (by rw [List.take_of_length_le (by rw [HN.out]; exact Nat.le_refl _)]; exact hp) e
      have HFIN := Lib.hid (show (addP L s u).map (·.1) = L.map (·.1) ++ [s] ∧ wysI (addP L s u) = wysI L ++ [(u : Int)] by
        rw [addPNew hns]
        unfold wysI
        simp)
      have hkl : (L.map (·.1)).length = j := by rw [List.length_map, HN.out]
      have hwl : (wysI L).length = j := by rw [wysLen, HN.out]
      have r0 : wr.cell? ⟨w.heap.size + 1, 0, none⟩ = some (.slice none 0 0) := HS.out.r.cell 0
      have r1 : wr.cell? ⟨w.heap.size + 1, 1, none⟩ = some (.slice none 0 0) := HS.out.r.cell 1
      have r2 : wr.cell? ⟨w.heap.size + 1, 2, none⟩ = some (.bool false) := HS.out.r.cell 2
      have HL1 := Lib.hid (show (L.map (·.1) ++ [s]).length = j + 1 by rw [List.length_append, hkl]; rfl)
      have HL2 := Lib.hid (show (wysI L ++ [(u : Int)]).length = j + 1 by rw [List.length_append, hwl]; rfl)
      clear hns
      go_wp2_with (first | (at_builtin; (refine appU _ rfl (.tmp 30) (.tmp 32) rfl base _ (L.map (·.1)) rfl (HS.out.chg (belowAlloc _ _)).s (some ⟨_, 0, none⟩) 1 1 [s] rfl rfl (litU _ s _) (by rw [hkl, List.length_singleton]; omega) (HS.out.chg (belowAlloc _ _)).le ?_); intro a1 V1 o1 b1; obtain ⟨A1, c1, ea, _, _⟩ := o1.rd; rw [HL1.out] at ea; subst ea; have HS1 := Lib.hid (AdS.appU (HS.out.chg (belowAlloc _ _)) o1 b1); have q1 : V1.cell? ⟨w.heap.size, 1, none⟩ = some (.slice B j d) := HS1.out.k.cell 1; have q0 : V1.cell? ⟨w.heap.size, 0, none⟩ = some (.slice A j c) := HS1.out.k.cell 0; have q2 : V1.cell? ⟨w.heap.size, 2, none⟩ = some (.bool false) := HS1.out.k.cell 2; have g0 := HS1.out.k.frozen 0; have g1 := HS1.out.k.frozen 1; have g2 := HS1.out.k.frozen 2; clear o1 b1) | (at_builtin; (refine appJ _ rfl (.tmp 36) (.tmp 38) rfl base _ (wysI L) rfl ((HS1.out.setG 0 (.slice A1 (j + 1) c1)).chg (belowAlloc _ _)).u (some ⟨_, 0, none⟩) 1 1 [(u : Int)] rfl rfl (litJS _ _ _ u _) (by rw [hwl, List.length_singleton]; omega) ((HS1.out.setG 0 (.slice A1 (j + 1) c1)).chg (belowAlloc _ _)).le ?_); intro b2 V2 o2 c2; obtain ⟨B2, d2, eb, _, _⟩ := o2.rd; rw [HL2.out] at eb; subst eb; have HS2 := Lib.hid (((HS1.out.setG 0 (.slice A1 (j + 1) c1)).chg (belowAlloc _ _)).appJ o2 c2); have m1 : V2.cell? ⟨w.heap.size, 1, none⟩ = some (.slice B j d) := HS2.out.k.cell 1; have m0 : V2.cell? ⟨w.heap.size, 0, none⟩ = some (.slice A1 (j + 1) c1) := HS2.out.k.cell 0; have m2 : V2.cell? ⟨w.heap.size, 2, none⟩ = some (.bool false) := HS2.out.k.cell 2; have n0 := HS2.out.k.frozen 0; have n1 := HS2.out.k.frozen 1; have n2 := HS2.out.k.frozen 2; have p0 : V2.cell? ⟨w.heap.size + 1, 0, none⟩ = some (.slice none 0 0) := HS2.out.r.cell 0; have p1 : V2.cell? ⟨w.heap.size + 1, 1, none⟩ = some (.slice none 0 0) := HS2.out.r.cell 1; have p2 : V2.cell? ⟨w.heap.size + 1, 2, none⟩ = some (.bool false) := HS2.out.r.cell 2; have n3 := HS2.out.r.frozen 0; have n4 := HS2.out.r.frozen 1; have n5 := HS2.out.r.frozen 2; clear o2 c2))
      have HFS := (((HS2.out.setG 1 (.slice B2 (j + 1) d2)).setR 0 (.slice A1 (j + 1) c1)).setR 1 (.slice B2 (j + 1) d2)).setR 2 (.bool false)
      refine bodyPost_ret (HFS.r.res rfl _ rfl Tryd.underlying69 rfl infoLevel) rfl ?_
      exact ⟨_, _, rfl, ⟨by rw [HFIN.out.1]; exact HFS.s, by rw [HFIN.out.2]; exact HFS.u⟩, HFS.b⟩
end Go.Proofs.YtjioiaeiggjneaaDoor
