/-
  The contract of the library's iterator over the keys of a set of pairs: each pair once, in some order.
-/
import Derived.RangeFuncNested
import Derived.RangeFuncBound
import Derived.RangeFuncCalls
import Derived.RangeFuncLeaves
import Derived.Shelf.Abstract
import Derived.Shelf.AbstractIn
import Derived.Shelf.RegionOpen
import Derived.WalkKit
import Derived.OwnWalkIn
import Derived.TacticsInMore
import Derived.LoopNIn
import Derived.LoopIn
import Derived.Maps.OwnIn
import Derived.Sort.MapsRangeIn
import Derived.Sort.KeysCollected
import Derived.Test.YtpfdhjmhoggioaaRPairs
namespace Go.Proofs.Ytpfdhjmhoggioaa
open Go.RowKit Go.Maps Go.Sort Go.Shelf
attribute [local go_sem] Oper.semAt_some

/-- The pairs met so far: none twice; a pair is among them just where the map has it and it is no longer to come. -/
def CollP (D0 : DataW Value) (left : Lit → Bool) (ss : Prs) : Prop := ss.Nodup ∧ wfL ss ∧ ∀ x y, wfP x y → ((x, y) ∈ ss ↔ (has D0 (keyP x y) = true ∧ left (keyP x y) = false))
theorem sameP {x y u v : Int} (h : wfP x y) (h' : wfP u v) : (keyP u v).sameKey (keyP x y) = decide (u = x ∧ v = y) := by
  by_cases e : u = x ∧ v = y
  · obtain ⟨rfl, rfl⟩ := e
    rw [WideAt.sameKey_self (keyedPair.key (keyOfPair h.1 h.2))]
    simp
  · rw [decide_eq_false e]
    cases hs : (keyP u v).sameKey (keyP x y)
    · rfl
    · exact absurd (keyInj h'.1 h'.2 h.1 h.2 (WideAt.sameKey_eq hs)) e
theorem CollP.start (D0 : DataW Value) : CollP D0 (has D0) [] := ⟨List.nodup_nil, (by intro p hp; cases hp), fun x y _ => by cases has D0 (keyP x y) <;> simp⟩
theorem CollP.step {D0 : DataW Value} {left : Lit → Bool} {ss : Prs} (h : CollP D0 left ss) {p : Int × Int} (hw : wfP p.1 p.2) {y : DataW Value} (hlk : left (keyP p.1 p.2) = true) (hat : ∀ zd, D0.atKey (keyP p.1 p.2) zd = y) :
    CollP D0 (fun z => left z && !z.sameKey (keyP p.1 p.2)) (ss ++ [p]) := by
  have hhas : has D0 (keyP p.1 p.2) = true := has_true_of_atKey hat
  have hnew : p ∉ ss := fun hx => by have := ((h.2.2 p.1 p.2 hw).1 hx).2; rw [hlk] at this; cases this
  refine ⟨List.nodup_append.2 ⟨h.1, by simp, fun a ha b hb => by simp at hb; subst hb; exact fun e => hnew (e ▸ ha)⟩, fun q hq => ?_, fun u v huv => ?_⟩
  · rcases List.mem_append.1 hq with hq | hq
    · exact h.2.1 q hq
    · obtain rfl : q = p := by simpa using hq
      exact hw
  · show _ ↔ _ ∧ (left (keyP u v) && !(keyP u v).sameKey (keyP p.1 p.2)) = false
    rw [sameP hw huv, List.mem_append, h.2.2 u v huv, List.mem_singleton]
    by_cases e : u = p.1 ∧ v = p.2
    · obtain ⟨e1, e2⟩ := e
      have : (u, v) = p := by rw [e1, e2]
      simp [e1, e2, hhas]
    · rw [decide_eq_false e]
      have : (u, v) ≠ p := fun h => e ⟨by rw [← h], by rw [← h]⟩
      simp [this]
theorem CollP.done {D0 : DataW Value} {left : Lit → Bool} {ss : Prs} {S : Int → Int → Bool} (h : CollP D0 left ss) (hS : ∀ x y, wfP x y → has D0 (keyP x y) = S x y) (hl : ∀ kl, left kl = false) :
    ss.Nodup ∧ wfL ss ∧ ∀ x y, wfP x y → ((x, y) ∈ ss ↔ S x y = true) :=
  ⟨h.1, h.2.1, fun x y hw => by rw [h.2.2 x y hw, hl, hS x y hw]; simp⟩
/-- What the iterator gives: the pairs of S, each once. -/
def AllOf (S : Int → Int → Bool) (ss : Prs) : Prop := ss.Nodup ∧ wfL ss ∧ ∀ x y, wfP x y → ((x, y) ∈ ss ↔ S x y = true)

set_option maxRecDepth 100000 in
set_option maxHeartbeats 2000000 in
theorem keysEach (F : Fence) (n : Nat) (hf : F.fn 58) (hro : F.round = none) (hn : 1 ≤ n) (l Bm b nn : Nat) (S : Int → Int → Bool) (J Jx : Prs → World → Prop)
    (hY : ∀ pre p W, J pre W → pre.length < nn → YieldAt F (n - 1) Try.prog l #[pairV p.1 p.2] W fun e W' =>
      (e = .returned (.bool true) ∧ J (pre ++ [p]) W' ∧ KeepsWalks W W') ∨ (e = .returned (.bool false) ∧ Jx (pre ++ [p]) W'))
    (W : World) (hJ : AbidesFrom W.heap.size J) (hm : W.cell? ⟨Bm, 0, none⟩ = some (.map (some b))) (hown : MapP W b nn S) (h0 : J [] W) :
    CallsIn F n Try.prog 58 #[.func (.yield l) #[] #[], .pointer (some ⟨Bm, 0, none⟩)] W fun e W' => (∃ v, e = .returned v) ∧
      ((∃ ss, AllOf S ss ∧ J ss W') ∨ (∃ pre, True ∧ Jx pre W')) := by
  obtain ⟨D0, hD, hS⟩ := hown
  refine callsIn_of_wp Try.func58 rfl hf ?_ hro
  simp only [Try.ntmps58, List.size_toArray, List.length_cons, List.length_nil, Nat.reduceAdd, Nat.reduceSub, Array.replicate_succ, Array.replicate_zero, List.push_toArray, List.append_toArray, List.nil_append, List.cons_append]
  gi_wp2_with (first
    | (gi_at_range; refine wpListIn_range_own _ rfl _ 42 rfl 38 4 keyedPair Try.underlying42 _ b nn _ rfl hD ?_; intro w0 hrg0 hg0 hs0)
    | gi_in)
  go_frame
  gi_loopw [6] (fun _ wr => ∃ (left : Lit → Bool) (cnt : Nat) (ss : Prs), wr.ranges Try.prog 38 RT b W.heap.size nn D0 left cnt ∧ ss.length + cnt ≤ nn ∧ Hid (CollP D0 left ss) ∧ J ss wr)
    (fun _ wr => wr.rangeLeft b W.heap.size)
  case atStart =>
    exact ⟨_, _, [], hrg0, by simpa using hD.size_le, Lib.hid (CollP.start D0), hJ [] W w0 none h0 hg0 (fun r e => by cases e)⟩
  case round =>
    obtain ⟨left, cnt, ss, hrg, hcs, hC, hJs⟩ := hrel
    gi_wp2_with (first
      | (gi_at_next; refine wpListIn_next_ranges _ rfl _ rfl 38 keyedPair RT (fun p : Int × Int => pairV p.1 p.2) id (fun key kl hk => by obtain ⟨p, hp, _⟩ := keyOfPairInv hk; exact ⟨p, hp⟩) (fun v _ _ => ⟨v, rfl⟩) b W.heap.size nn _ _ _ rfl hrg ?_ ?_)
      | gi_in)
    · intro hc0 hl0
      gi_wp2
      go_end0
      exact ⟨⟨_, rfl⟩, .inl ⟨ss, hC.out.done hS hl0, hJs⟩⟩
    · intro x y c kl yd yp w2 cnt2 hkey hlk hv hat hrg2 hlt hg2 hs2 hen
      obtain ⟨⟨x', y'⟩, ep, hw1, hw2, rfl⟩ := keyOfPairInv hkey
      obtain ⟨rfl, rfl⟩ : x = x' ∧ y = y' := by simpa using ep
      have hJ2 : J ss w2 := hJ ss wr w2 (some W.heap.size) hJs hg2 (fun r e => by cases e; exact ⟨Nat.le_refl _, hrg.iter_walk⟩)
      have hJ3 : J ss (w2.alloc (.cells #[.int .i64 x, .int .i64 y] 38)) := hJ ss w2 _ none hJ2 (World.grownBy_alloc _ _ _) (fun r e => by cases e)
      obtain ⟨fn, tmps, assign, body, hy, hR⟩ := hY ss (x, y) _ hJ3 (by omega)
      clear hs2
      have hC2 := Lib.hid (hC.out.step (p := (x, y)) ⟨hw1, hw2⟩ hlk hat)
      gi_wp2
      refine hR.mono ?_
      rintro e W3 (⟨rfl, hJ4, hk3⟩ | ⟨rfl, hJx3⟩)
      · gi_wp2
        have hrg3 := (hrg2.alloc _).of_walks hk3
        go_roundw
        case rel => exact ⟨_, cnt2, ss ++ [(x, y)], hrg3, by simp; omega, hC2, hJ4⟩
        case measure => rw [hrg3.left_eq, hrg.left_eq]; exact hlt
      · gi_wp2
        refine bodyPost_ret (results_none rfl _ _ _) rfl ?_
        exact ⟨⟨_, rfl⟩, .inr ⟨ss ++ [(x, y)], trivial, hJx3⟩⟩

/-- What maps.Keys hands back gives all pairs of the set, each once. -/
theorem keysStops (F : Fence) (n : Nat) (hf : F.fn 58) (hro : F.round = none) (hn : 1 ≤ n) (Bm b nn : Nat) (S : Int → Int → Bool) (w : World) (hBm : Bm < w.heap.size)
    (hm : w.cell? ⟨Bm, 0, none⟩ = some (.map (some b))) (hown : MapP w b nn S) :
    SeqStopsK F n Try.prog 58 #[.pointer (some ⟨Bm, 0, none⟩)] (fun p : Int × Int => #[pairV p.1 p.2]) KeepsWalks (AllOf S) (fun _ => True) nn w := fun l J Jx W hW hJ _ hY h0 =>
  keysEach F n hf hro hn l Bm b nn S J Jx hY W hJ ((hW.cell (p := ⟨Bm, 0, none⟩) hBm).trans hm) (hown.below hW) h0
set_option maxHeartbeats 1000000 in
theorem keysIn (F : Fence) (n : Nat) (h7 : F.fn 49) (hro : F.round = none) (mb : Option Nat) (w : World) :
    CallsIn F n Try.prog 49 #[.map mb] w fun e w' => e = .returned (.func (.func 58) #[] #[.pointer (some ⟨w.heap.size, 0, none⟩)]) ∧ w' = w.alloc (.cells #[.map mb] 42) := by
  refine callsIn_of_wp Try.func49 rfl h7 ?_ hro
  simp only [Try.ntmps49, List.size_toArray, List.length_cons, List.length_nil, Nat.reduceAdd, Nat.reduceSub, Array.replicate_succ, Array.replicate_zero, List.push_toArray, List.append_toArray, List.nil_append, List.cons_append]
  gi_wp2
  go_ret
  exact ⟨rfl, rfl⟩
end Go.Proofs.Ytpfdhjmhoggioaa
