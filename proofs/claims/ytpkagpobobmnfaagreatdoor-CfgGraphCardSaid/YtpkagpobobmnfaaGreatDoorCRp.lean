/-
  The contract of pairsOf: a map of the call's own that holds just the pairs of the relation.
-/
import Derived.Test.YtpkagpobobmnfaaGreatDoorCRow
import Derived.Sort.Grow
import Derived.Deep.RegionHeld3
import Derived.RangeFuncNested
import Derived.RangeFuncBound
import Derived.RangeFuncCalls
import Derived.RangeFuncLeaves
import Derived.Shelf.Abstract
import Derived.Shelf.AbstractIn
import Derived.Shelf.RegionOpen
import Derived.WalkKit
import Derived.OwnWalkIn
import Derived.TacticsInMore
import Derived.LoopNIn
import Derived.LoopIn
import Derived.Maps.OwnIn
import Derived.Sort.MapsRangeIn
import Derived.Sort.KeysCollected
import Derived.RangeFuncBox
namespace Go.Proofs.YtpkagpobobmnfaaGreatDoor
open Go.RowKit Go.Maps

/-- The call returns a map of its own that holds just the pairs of S. -/
def GivesM (S : Int → Int → Bool) (m : Nat) (w : World) (e : Ending) (w' : World) : Prop := ∃ b, e = .returned (.map (some b)) ∧ MapP w' b m S ∧ w.heap.size ≤ b ∧ Below w.heap.size w w'

set_option maxHeartbeats 1000000 in
theorem iPairs (N : Int) (l : Prs) (n : Nat) (hn : l.length = n) (hwf : wfL l) (hs : n ≤ 65536) (A : Option Addr) (c : Nat) (w : World) (ha : Rp w A c l) :
    Calls Tryz.prog 63 #[relV N A n c] w (GivesM (memP l) n w) := by
  have hla := ha.le
  have hca := ha.max
  unfold maxLen at hca
  have HA := Lib.hid ha; clear ha
  have HN := Lib.hid hn; clear hn
  have HW := Lib.hid hwf; clear hwf
  have hmm := @run_makeMap Tryz.prog
  go_enter Tryz.func63, Tryz.ntmps63
  go_wp2
  clear hmm
  have HM0 : Hid (MapP ((w.alloc (.cells #[.int .i64 N, .slice A n c] 28)).alloc (.map #[] 0)) (w.heap.size + 1) 0 (memP (l.take 0))) := by
    have h := MapP.made (w.alloc (.cells #[.int .i64 N, .slice A n c] 28))
    rw [World.size_alloc] at h
    exact Lib.hid (h.congr fun x y _ => by simp [memP])
  go_loopw [10] (fun i wr => ∃ k : Nat, k ≤ n ∧ i = .int .i64 k ∧ Hid (MapP wr (w.heap.size + 1) k (memP (l.take k))) ∧ Below w.heap.size w wr ∧ w.heap.size + 1 < wr.heap.size) (fun i _ => n - (intOf i).toNat)
  case atStart => exact ⟨0, Nat.zero_le _, rfl, HM0, (belowAlloc _ _).alloc (by simp) _, by simp⟩
  case round =>
    clear HM0
    obtain ⟨k, hk, rfl, HM, hb, hsz⟩ := hrel
    by_cases hlt : k < n
    · have hkl : k < l.length := by have := HN.out; omega
      obtain ⟨b, off, rfl, had, hc1, hc2⟩ := (HA.out.below hb).one hkl
      have HK := Lib.hid (wfAt HW.out hkl)
      have HS := Lib.hid (memPSucc hkl)
      generalize l[k].1 = x at *
      generalize l[k].2 = y at *
      go_wp2_with (at_mapUpdate; refine wpList_putP _ rfl (.tmp 14) (.tmp 15) (.const (.bool true)) rfl (w.heap.size + 1) k _ (HM.out.alloc _) (by unfold maxLen; omega) rfl x y rfl HK.out rfl ?_; intro w4 m4 g4; have HM4 := Lib.hid (m4.congr fun u v _ => HS.out u v); have G4 := Lib.hid g4; clear m4 g4)
      go_roundw
      case rel => exact ⟨k + 1, by omega, by go_num, HM4, (hb.alloc hb.size _).grown G4.out (by simp; omega) (fun i hi => by injection hi with hi; omega), by have := G4.out.size; simp at this; omega⟩
      case measure => simp [intOf]; omega
    · obtain rfl : k = n := by omega
      have HM2 : Hid (MapP wr (w.heap.size + 1) k (memP l)) := by
        have h := HM.out
        rw [List.take_of_length_le (by have := HN.out; omega)] at h
        exact Lib.hid h
      go_wp2
      go_ret
      exact ⟨_, rfl, HM2.out, by omega, hb⟩
end Go.Proofs.YtpkagpobobmnfaaGreatDoor

namespace Go.Proofs.YtpkagpobobmnfaaGreatDoor
open Go.RowKit Go.Maps Go.Sort

/-- -1, 0 or 1. -/
def cmpI (x y : Int) : Int := if x < y then -1 else if y < x then 1 else 0
/-- By the first element, then by the second. -/
def cmpP (p q : Int × Int) : Int := if cmpI p.1 q.1 ≠ 0 then cmpI p.1 q.1 else cmpI p.2 q.2

set_option maxHeartbeats 400000 in
theorem iNaN (x : Int) (w : World) : Calls Tryz.prog 143 #[.int .i64 x] w fun e w' => e = .returned (.bool false) ∧ w = w' := by
  go_enter Tryz.func143, Tryz.ntmps143
  go_wp2
  go_ret
  exact ⟨retB (by simp), rfl⟩
set_option maxHeartbeats 400000 in
theorem iCompare (x y : Int) (r : Int) (hr : cmpI x y = r) (w : World) : Calls Tryz.prog 112 #[.int .i64 x, .int .i64 y] w fun e w' => e = .returned (.int .i64 r) ∧ w = w' := by
  have HR := Lib.hid hr; clear hr
  go_enter Tryz.func112, Tryz.ntmps112
  go_wp2_with fail
  refine (iNaN x _).mono ?_
  rintro e w1 ⟨rfl, rfl⟩
  go_wp2_with fail
  refine (iNaN y _).mono ?_
  rintro e w1 ⟨rfl, rfl⟩
  by_cases h1 : x < y
  · have hx := HR.out
    unfold cmpI at hx
    rw [if_pos h1] at hx
    have HX := Lib.hid hx; clear hx
    go_wp2
    go_ret
    exact ⟨retInt HX.out, rfl⟩
  · by_cases h2 : y < x
    · have hx := HR.out
      unfold cmpI at hx
      rw [if_neg h1, if_pos h2] at hx
      have HX := Lib.hid hx; clear hx
      go_wp2
      go_ret
      exact ⟨retInt HX.out, rfl⟩
    · have hx := HR.out
      unfold cmpI at hx
      rw [if_neg h1, if_neg h2] at hx
      have HX := Lib.hid hx; clear hx
      obtain rfl : x = y := by omega
      go_wp2
      go_ret
      exact ⟨retInt HX.out, rfl⟩
set_option maxHeartbeats 1000000 in
theorem iOr (a b : Int) (r : Int) (hr : (if a ≠ 0 then a else b) = r) (A : Option Addr) (c : Nat) (w : World) (ha : Rd w A c [a, b]) : Calls Tryz.prog 111 #[.slice A 2 c] w fun e w' => e = .returned (.int .i64 r) ∧ w = w' := by
  have HR := Lib.hid hr; clear hr
  obtain ⟨bk, off, rfl, _, hc⟩ := ha.flat (by simp)
  have h0 := hc 0 (by simp)
  have h1 := hc 1 (by simp)
  clear hc
  have hle := ha.le
  have hma := ha.max
  unfold maxLen at hma
  simp at hle h0 h1
  clear ha
  go_enter Tryz.func111, Tryz.ntmps111
  go_wp2
  go_loop [8] (fun i => ∃ k : Nat, k ≤ 2 ∧ i = .int .i64 k ∧ (0 < k → a = 0) ∧ (1 < k → b = 0)) (fun i => 2 - (intOf i).toNat)
  case atStart => exact ⟨0, by omega, rfl, by omega, by omega⟩
  case round =>
    obtain ⟨k, hk, rfl, hA, hB⟩ := hrel
    rcases (show k = 0 ∨ k = 1 ∨ k = 2 by omega) with rfl | rfl | rfl
    · by_cases e : a = 0
      · subst e
        go_wp2
        go_round
        case rel => exact ⟨1, by omega, by go_num, by simp, by omega⟩
        case measure => simp [intOf]
      · have hx := HR.out
        rw [if_pos e] at hx
        have HX := Lib.hid hx; clear hx
        go_wp2
        go_ret
        exact ⟨retInt HX.out, rfl⟩
    · have e := hA (by omega)
      by_cases e2 : b = 0
      · subst e2
        go_wp2
        go_round
        case rel => exact ⟨2, by omega, by go_num, fun _ => e, by simp⟩
        case measure => simp [intOf]
      · have hx := HR.out
        rw [if_neg (by simpa using e)] at hx
        have HX := Lib.hid hx; clear hx
        go_wp2
        go_ret
        exact ⟨retInt HX.out, rfl⟩
    · have e := hA (by omega)
      have e2 := hB (by omega)
      have hx := HR.out
      rw [if_neg (by simpa using e)] at hx
      have HX := Lib.hid (e2.symm.trans hx); clear hx
      go_wp2
      go_ret
      exact ⟨retInt HX.out, rfl⟩
set_option maxHeartbeats 2000000 in
theorem iLess (p q : Int × Int) (w : World) : Calls Tryz.prog 110 #[pairV p.1 p.2, pairV q.1 q.2] w fun e w' => e = .returned (.int .i64 (cmpP p q)) ∧ ∃ k os, w' = grow (w.drewN k) os := by
  obtain ⟨x, y⟩ := p
  obtain ⟨u, v⟩ := q
  obtain ⟨c1, h1⟩ : ∃ c, cmpI x u = c := ⟨_, rfl⟩
  obtain ⟨c2, h2⟩ : ∃ c, cmpI y v = c := ⟨_, rfl⟩
  have HR := Lib.hid (show (if c1 ≠ 0 then c1 else c2) = cmpP (x, y) (u, v) by unfold cmpP; rw [h1, h2])
  have H1 := Lib.hid h1; clear h1
  have H2 := Lib.hid h2; clear h2
  go_enter Tryz.func110, Tryz.ntmps110
  go_wp2
  obtain ⟨W1, hW1⟩ : ∃ W1, (w.alloc (.cells #[.int .i64 x, .int .i64 y] 66)).alloc (.cells #[.int .i64 u, .int .i64 v] 66) = W1 := ⟨_, rfl⟩
  have hx : W1.cell? ⟨w.heap.size, 0, none⟩ = some (.int .i64 x) := by rw [← hW1]; simp
  have hy : W1.cell? ⟨w.heap.size, 1, none⟩ = some (.int .i64 y) := by rw [← hW1]; simp
  have hu : W1.cell? ⟨w.heap.size + 1, 0, none⟩ = some (.int .i64 u) := by rw [← hW1, World.cell?_alloc_at _ _ _ _ (by simp)]; rfl
  have hv : W1.cell? ⟨w.heap.size + 1, 1, none⟩ = some (.int .i64 v) := by rw [← hW1, World.cell?_alloc_at _ _ _ _ (by simp)]; rfl
  rw [hW1]
  have HG := Lib.hid (show W1 = grow w #[.cells #[.int .i64 x, .int .i64 y] 66, .cells #[.int .i64 u, .int .i64 v] 66] by rw [← hW1, alloc_eq_grow, alloc_eq_grow, grow_grow]; rfl)
  have hsz : W1.heap.size = w.heap.size + 2 := by rw [← hW1]; simp
  clear hW1
  have hp : ∀ o : Obj, (W1.alloc o).drew.cell? ⟨w.heap.size, 0, none⟩ = some (.int .i64 x) ∧ (W1.alloc o).drew.cell? ⟨w.heap.size, 1, none⟩ = some (.int .i64 y) ∧ (W1.alloc o).drew.cell? ⟨w.heap.size + 1, 0, none⟩ = some (.int .i64 u) ∧ (W1.alloc o).drew.cell? ⟨w.heap.size + 1, 1, none⟩ = some (.int .i64 v) := fun o =>
    ⟨(World.cell?_alloc_past o _ _ (by omega)).trans hx, (World.cell?_alloc_past o _ _ (by omega)).trans hy, (World.cell?_alloc_past o _ _ (by omega)).trans hu, (World.cell?_alloc_past o _ _ (by omega)).trans hv⟩
  have HSZ := Lib.hid hsz; clear hsz
  have HL : Hid (Rd (W1.alloc (.cells #[.int .i64 c1, .int .i64 c2] 3)).drew (some ⟨W1.heap.size, 0, none⟩) 2 [c1, c2]) := Lib.hid (Rds.drew (Rd.lit W1 [c1, c2] 3 (by simp)))
  go_region_held3 (fun w' => w'.cell? ⟨w.heap.size, 0, none⟩ = some (.int .i64 x) ∧ w'.cell? ⟨w.heap.size, 1, none⟩ = some (.int .i64 y) ∧ w'.cell? ⟨w.heap.size + 1, 0, none⟩ = some (.int .i64 u) ∧ w'.cell? ⟨w.heap.size + 1, 1, none⟩ = some (.int .i64 v))
    (first | exact hp _ | exact ⟨hx, hy, hu, hv⟩ | assumption | simp [*])
    (first
      | (go_at_call 112; with_reducible refine (iCompare x u c1 H1.out _).mono ?_; (rintro e w' ⟨rfl, rfl⟩))
      | (go_at_call 112; with_reducible refine (iCompare y v c2 H2.out _).mono ?_; (rintro e w' ⟨rfl, rfl⟩))
      | (go_at_call 111; with_reducible refine (iOr c1 c2 _ HR.out _ _ _ HL.out).mono ?_; (rintro e w' ⟨rfl, rfl⟩)))
  go_wp2
  go_ret
  exact ⟨rfl, 1, _, by rw [HG.out, alloc_eq_grow, grow_grow]; rfl⟩
end Go.Proofs.YtpkagpobobmnfaaGreatDoor

namespace Go.Proofs.YtpkagpobobmnfaaGreatDoor
open Go.RowKit Go.Maps Go.Sort Go.Shelf
attribute [local go_sem] Oper.semAt_some

/-- The pairs met so far: none twice; a pair is among them just where the map has it and it is no longer to come. -/
def CollP (D0 : DataW Value) (left : Lit → Bool) (ss : Prs) : Prop := ss.Nodup ∧ wfL ss ∧ ∀ x y, wfP x y → ((x, y) ∈ ss ↔ (has D0 (keyP x y) = true ∧ left (keyP x y) = false))
theorem sameP {x y u v : Int} (h : wfP x y) (h' : wfP u v) : (keyP u v).sameKey (keyP x y) = decide (u = x ∧ v = y) := by
  by_cases e : u = x ∧ v = y
  · obtain ⟨rfl, rfl⟩ := e
    rw [WideAt.sameKey_self (keyedPair.key (keyOfPair h.1 h.2))]
    simp
  · rw [decide_eq_false e]
    cases hs : (keyP u v).sameKey (keyP x y)
    · rfl
    · exact absurd (keyInj h'.1 h'.2 h.1 h.2 (WideAt.sameKey_eq hs)) e
theorem CollP.start (D0 : DataW Value) : CollP D0 (has D0) [] := ⟨List.nodup_nil, (by intro p hp; cases hp), fun x y _ => by cases has D0 (keyP x y) <;> simp⟩
theorem CollP.step {D0 : DataW Value} {left : Lit → Bool} {ss : Prs} (h : CollP D0 left ss) {p : Int × Int} (hw : wfP p.1 p.2) {y : DataW Value} (hlk : left (keyP p.1 p.2) = true) (hat : ∀ zd, D0.atKey (keyP p.1 p.2) zd = y) :
    CollP D0 (fun z => left z && !z.sameKey (keyP p.1 p.2)) (ss ++ [p]) := by
  have hhas : has D0 (keyP p.1 p.2) = true := has_true_of_atKey hat
  have hnew : p ∉ ss := fun hx => by have := ((h.2.2 p.1 p.2 hw).1 hx).2; rw [hlk] at this; cases this
  refine ⟨List.nodup_append.2 ⟨h.1, by simp, fun a ha b hb => by simp at hb; subst hb; exact fun e => hnew (e ▸ ha)⟩, fun q hq => ?_, fun u v huv => ?_⟩
  · rcases List.mem_append.1 hq with hq | hq
    · exact h.2.1 q hq
    · obtain rfl : q = p := by simpa using hq
      exact hw
  · show _ ↔ _ ∧ (left (keyP u v) && !(keyP u v).sameKey (keyP p.1 p.2)) = false
    rw [sameP hw huv, List.mem_append, h.2.2 u v huv, List.mem_singleton]
    by_cases e : u = p.1 ∧ v = p.2
    · obtain ⟨e1, e2⟩ := e
      have : (u, v) = p := by rw [e1, e2]
      simp [e1, e2, hhas]
    · rw [decide_eq_false e]
      have : (u, v) ≠ p := fun h => e ⟨by rw [← h], by rw [← h]⟩
      simp [this]
theorem CollP.done {D0 : DataW Value} {left : Lit → Bool} {ss : Prs} {S : Int → Int → Bool} (h : CollP D0 left ss) (hS : ∀ x y, wfP x y → has D0 (keyP x y) = S x y) (hl : ∀ kl, left kl = false) :
    ss.Nodup ∧ wfL ss ∧ ∀ x y, wfP x y → ((x, y) ∈ ss ↔ S x y = true) :=
  ⟨h.1, h.2.1, fun x y hw => by rw [h.2.2 x y hw, hl, hS x y hw]; simp⟩
/-- What the iterator gives: the pairs of S, each once. -/
def AllOf (S : Int → Int → Bool) (ss : Prs) : Prop := ss.Nodup ∧ wfL ss ∧ ∀ x y, wfP x y → ((x, y) ∈ ss ↔ S x y = true)

set_option maxRecDepth 100000 in
set_option maxHeartbeats 2000000 in
theorem keysEach (F : Fence) (n : Nat) (hf : F.fn 148) (hro : F.round = none) (hn : 1 ≤ n) (l Bm b nn : Nat) (S : Int → Int → Bool) (J Jx : Prs → World → Prop)
    (hY : ∀ pre p W, J pre W → pre.length < nn → YieldAt F (n - 1) Tryz.prog l #[pairV p.1 p.2] W fun e W' =>
      (e = .returned (.bool true) ∧ J (pre ++ [p]) W' ∧ KeepsWalks W W') ∨ (e = .returned (.bool false) ∧ Jx (pre ++ [p]) W'))
    (W : World) (hJ : AbidesFrom W.heap.size J) (hm : W.cell? ⟨Bm, 0, none⟩ = some (.map (some b))) (hown : MapP W b nn S) (h0 : J [] W) :
    CallsIn F n Tryz.prog 148 #[.func (.yield l) #[] #[], .pointer (some ⟨Bm, 0, none⟩)] W fun e W' => (∃ v, e = .returned v) ∧
      ((∃ ss, AllOf S ss ∧ J ss W') ∨ (∃ pre, True ∧ Jx pre W')) := by
  obtain ⟨D0, hD, hS⟩ := hown
  refine callsIn_of_wp Tryz.func148 rfl hf ?_ hro
  simp only [Tryz.ntmps148, List.size_toArray, List.length_cons, List.length_nil, Nat.reduceAdd, Nat.reduceSub, Array.replicate_succ, Array.replicate_zero, List.push_toArray, List.append_toArray, List.nil_append, List.cons_append]
  gi_wp2_with (first
    | (gi_at_range; refine wpListIn_range_own _ rfl _ 105 rfl 66 4 keyedPair Tryz.underlying105 _ b nn _ rfl hD ?_; intro w0 hrg0 hg0 hs0)
    | gi_in)
  go_frame
  gi_loopw [6] (fun _ wr => ∃ (left : Lit → Bool) (cnt : Nat) (ss : Prs), wr.ranges Tryz.prog 66 RT b W.heap.size nn D0 left cnt ∧ ss.length + cnt ≤ nn ∧ Hid (CollP D0 left ss) ∧ J ss wr)
    (fun _ wr => wr.rangeLeft b W.heap.size)
  case atStart =>
    exact ⟨_, _, [], hrg0, by simpa using hD.size_le, Lib.hid (CollP.start D0), hJ [] W w0 none h0 hg0 (fun r e => by cases e)⟩
  case round =>
    obtain ⟨left, cnt, ss, hrg, hcs, hC, hJs⟩ := hrel
    gi_wp2_with (first
      | (gi_at_next; refine wpListIn_next_ranges _ rfl _ rfl 66 keyedPair RT (fun p : Int × Int => pairV p.1 p.2) id (fun key kl hk => by obtain ⟨p, hp, _⟩ := keyOfPairInv hk; exact ⟨p, hp⟩) (fun v _ _ => ⟨v, rfl⟩) b W.heap.size nn _ _ _ rfl hrg ?_ ?_)
      | gi_in)
    · intro hc0 hl0
      gi_wp2
      go_end0
      exact ⟨⟨_, rfl⟩, .inl ⟨ss, hC.out.done hS hl0, hJs⟩⟩
    · intro x y c kl yd yp w2 cnt2 hkey hlk hv hat hrg2 hlt hg2 hs2 hen
      obtain ⟨⟨x', y'⟩, ep, hw1, hw2, rfl⟩ := keyOfPairInv hkey
      obtain ⟨rfl, rfl⟩ : x = x' ∧ y = y' := by simpa using ep
      have hJ2 : J ss w2 := hJ ss wr w2 (some W.heap.size) hJs hg2 (fun r e => by cases e; exact ⟨Nat.le_refl _, hrg.iter_walk⟩)
      have hJ3 : J ss (w2.alloc (.cells #[.int .i64 x, .int .i64 y] 66)) := hJ ss w2 _ none hJ2 (World.grownBy_alloc _ _ _) (fun r e => by cases e)
      obtain ⟨fn, tmps, assign, body, hy, hR⟩ := hY ss (x, y) _ hJ3 (by omega)
      clear hs2
      have hC2 := Lib.hid (hC.out.step (p := (x, y)) ⟨hw1, hw2⟩ hlk hat)
      gi_wp2
      refine hR.mono ?_
      rintro e W3 (⟨rfl, hJ4, hk3⟩ | ⟨rfl, hJx3⟩)
      · gi_wp2
        have hrg3 := (hrg2.alloc _).of_walks hk3
        go_roundw
        case rel => exact ⟨_, cnt2, ss ++ [(x, y)], hrg3, by simp; omega, hC2, hJ4⟩
        case measure => rw [hrg3.left_eq, hrg.left_eq]; exact hlt
      · gi_wp2
        refine bodyPost_ret (results_none rfl _ _ _) rfl ?_
        exact ⟨⟨_, rfl⟩, .inr ⟨ss ++ [(x, y)], trivial, hJx3⟩⟩

/-- What maps.Keys hands back gives all pairs of the set, each once. -/
theorem keysStops (F : Fence) (n : Nat) (hf : F.fn 148) (hro : F.round = none) (hn : 1 ≤ n) (Bm b nn : Nat) (S : Int → Int → Bool) (w : World) (hBm : Bm < w.heap.size)
    (hm : w.cell? ⟨Bm, 0, none⟩ = some (.map (some b))) (hown : MapP w b nn S) :
    SeqStopsK F n Tryz.prog 148 #[.pointer (some ⟨Bm, 0, none⟩)] (fun p : Int × Int => #[pairV p.1 p.2]) KeepsWalks (AllOf S) (fun _ => True) nn w := fun l J Jx W hW hJ _ hY h0 =>
  keysEach F n hf hro hn l Bm b nn S J Jx hY W hJ ((hW.cell (p := ⟨Bm, 0, none⟩) hBm).trans hm) (hown.below hW) h0
set_option maxHeartbeats 1000000 in
theorem keysIn (F : Fence) (n : Nat) (h7 : F.fn 109) (hro : F.round = none) (mb : Option Nat) (w : World) :
    CallsIn F n Tryz.prog 109 #[.map mb] w fun e w' => e = .returned (.func (.func 148) #[] #[.pointer (some ⟨w.heap.size, 0, none⟩)]) ∧ w' = w.alloc (.cells #[.map mb] 105) := by
  refine callsIn_of_wp Tryz.func109 rfl h7 ?_ hro
  simp only [Tryz.ntmps109, List.size_toArray, List.length_cons, List.length_nil, Nat.reduceAdd, Nat.reduceSub, Array.replicate_succ, Array.replicate_zero, List.push_toArray, List.append_toArray, List.nil_append, List.cons_append]
  gi_wp2
  go_ret
  exact ⟨rfl, rfl⟩
end Go.Proofs.YtpkagpobobmnfaaGreatDoor

namespace Go.Proofs.YtpkagpobobmnfaaGreatDoor
open Go.RowKit Go.Maps Go.Sort Go.Shelf
attribute [local go_sem] Oper.semAt_some

/-- Block B holds the pair (x, y). -/
def Box2 (W : World) (B : Nat) (x y : Int) : Prop := W.heap[B]? = some (.cells #[.int .i64 x, .int .i64 y] 66 (0, 0))
theorem Box2.cells {W : World} {B : Nat} {x y : Int} (h : Box2 W B x y) : W.cell? ⟨B, 0, none⟩ = some (.int .i64 x) ∧ W.cell? ⟨B, 1, none⟩ = some (.int .i64 y) := by
  constructor <;> simp [World.cell?, show W.heap[B]? = _ from h]
theorem Box2.kept {X Y : World} {row : Option Nat} {B : Nat} {x y : Int} (h : Box2 X B x y) (hg : X.grownBy Y row) (hr : ∀ r, row = some r → ∃ o : Obj, X.heap[r]? = some o ∧ o.isCells = false) : Box2 Y B x y :=
  (hg.block B (Array.getElem?_eq_some_iff.1 h).1 (fun e => by
    obtain ⟨o, ho, hc⟩ := hr B e.symm
    rw [show X.heap[B]? = _ from h] at ho
    cases ho; cases hc)).trans h
theorem ctSnoc (l : Prs) (p : Int × Int) : ct (l ++ [p]) = ct l ++ ct [p] := ctApp l [p]

set_option maxRecDepth 100000 in
set_option maxHeartbeats 2000000 in
theorem appendSeqIn (F : Fence) (n : Nat) (hf : F.fn 158) (hro : F.round = none) (hn : 2 ≤ n) (g : Nat) (lb : Array Value) (hFg : F.fn g) (eg : ∀ args w, (callFunc g args).run Tryz.prog w = .ok (.enter g args) w)
    (S Sp : Prs → Prop) (N : Nat) (hN : N ≤ 10000000) (w : World) (hseq : SeqStopsK F (n - 1) Tryz.prog g lb (fun p : Int × Int => #[pairV p.1 p.2]) KeepsWalks S Sp N w) :
    CallsIn F n Tryz.prog 158 #[.slice none 0 0, .func (.func g) #[] lb] w fun e w' => ∃ (v : Value) (ss : Prs), e = .returned v ∧ S ss ∧ ss.length ≤ N ∧ OwnP w' w.heap.size v ss ∧ (v = .slice none 0 0 ↔ ss = []) ∧ Below w.heap.size w w' := by
  have h1 : 1 ≤ n := by omega
  obtain ⟨i0, hi, hz0, hz1, hz2⟩ := info_parts infoPair
  refine callsIn_of_wp_marks Tryz.func158 rfl hf ?_ hro
  simp only [Tryz.ntmps158, List.size_toArray, List.length_cons, List.length_nil, Nat.reduceAdd, Nat.reduceSub, Array.replicate_succ, Array.replicate_zero, List.push_toArray, List.append_toArray, List.nil_append, List.cons_append]
  gi_wp2
  have bO := Boxed.new w 26 (.slice none 0 0)
  have hB0 : Below w.heap.size w (w.alloc (.cells #[.slice none 0 0] 26)) := belowAlloc _ _
  have hseq0 := hseq
  obtain ⟨W0, hW0⟩ : ∃ W0, w.alloc (.cells #[.slice none 0 0] 26) = W0 := ⟨_, rfl⟩
  have hsz0 : W0.heap.size = w.heap.size + 1 := by rw [← hW0]; simp
  rw [hW0] at bO hB0 ⊢
  clear hW0
  refine wpIn_rangeFunc_ownH hro h1 (gf := g) (lb := lb) rfl hFg eg hseq0 walksK_t walksK_b hB0 (fun _ => rfl)
    (fun pre W => ((∃ v, Boxed W w.heap.size 26 v ∧ W.ownsRow w.heap.size 66 2 v pre.length (ct pre) ∧ (v = .slice none 0 0 ↔ pre = [])) ∧ pre.length ≤ N) ∧ Below w.heap.size w W)
    (fun _ _ _ => False)
    (OwnFrom.and (OwnFrom.and (Own.from (holdsRow_own w.heap.size w.heap.size 26 66 2 (fun pre : Prs => pre.length) (fun pre => ct pre) (fun pre v => v = .slice none 0 0 ↔ pre = [])) _) (ownFrom_pure _ _)) (ownFrom_below (Nat.le_refl _) (by omega)))
    (fun _ _ _ _ _ hs _ _ => hs)
    ⟨⟨⟨_, bO, World.ownsRow_nil _ _ _ _, by simp⟩, by simp⟩, hB0⟩
    (fun p a' W => ∃ Bx, w.heap.size < Bx ∧ Box2 W Bx p.1 p.2 ∧ a' = { tmps := #[.slice none 0 0, .func (.func g) #[] lb, .pointer (some ⟨w.heap.size, 0, none⟩), undef, .slice none 0 0, .pointer (some ⟨Bx, 0, none⟩), .func (.func g) #[] lb, pairV p.1 p.2, undef, undef, undef, undef, undef], defers := [] })
    (fun p a' _ X Y row hs hg hr => by obtain ⟨Bx, h1, h2, h3⟩ := hs; exact ⟨Bx, h1, h2.kept hg (fun r e => (hr r e).2), h3⟩)
    ?assign ?body ?done ?stop
  case assign =>
    rintro l pre p W K ⟨⟨⟨v, hv, hrow, hnil⟩, hl⟩, hB⟩ hK
    have hnew : Box2 (W.alloc (.cells #[.int .i64 p.1, .int .i64 p.2] 66)) W.heap.size p.1 p.2 := World.alloc_heap_new W _
    gi_wp2
    exact hK _ _ ((KeepsOthers.alloc _ _).from _) (KeepsWalks.alloc _ _) ⟨⟨⟨v, hv.alloc _, hrow.alloc _, hnil⟩, hl⟩, hB.alloc hB.size _⟩ ⟨W.heap.size, hv.lt, hnew, rfl⟩
  case body =>
    rintro l pre p a' W hl ⟨r, hr⟩ ⟨⟨⟨v, hv, hrow, hnil⟩, hle⟩, hB⟩ ⟨Bx, hBx, bX, rfl⟩ hlt
    have hc := hv.cell
    obtain ⟨hx, hy⟩ := bX.cells
    obtain ⟨x, y⟩ := p
    gi_wp2_with (gi_at_builtin; refine wpListIn_append_own _ rfl _ _ 26 rfl w.heap.size 66 i0 (.agg #[.int .i64 0, .int .i64 0]) 2 16 Tryz.underlying26 hi hz0 hz1 hz2 rfl (by decide) _ _ _ rfl (hrow.alloc _) ⟨W.heap.size, 0, none⟩ 1 1 (ct [(x, y)]) rfl rfl (ctCells (cellPair _ _ _ _) rfl) (ctOne _) (by unfold maxLen; omega) (by omega) (by have := hB.size; simp; omega) ?_; intro v' w1 hown' hgrow _; obtain ⟨g', cap', rfl⟩ := ownsRow_succ hown'; obtain ⟨hv1, hv2, hr2, hk2, hb2⟩ := hv.appended (by decide) hrow hB.size (Nat.le_refl _) hown' hgrow; have hc1 := hv1.cell; have hf1 := hv1.frozen)
    exact ⟨hk2.from _, hk2.walks, ⟨⟨_, hv2, by rw [ctSnoc]; simpa using hr2, by simp⟩, by simp; omega⟩, hB.trans hb2⟩
  case done =>
    rintro D ss W hD hS ⟨⟨⟨v, hv, hrow, hnil⟩, hle⟩, hB⟩ hK
    have hc := hv.cell
    gi_wp2
    refine ⟨by simp, .inl ⟨_, _, rfl, run_takeDeferred hK, ?_⟩⟩
    exact ⟨_, results_tmp rfl _ _ _, v, ss, rfl, hS, hle, ownsRow_putObj hrow _ hK rfl, hnil, hB.trans (belowK_b (w := w) (Nat.le_refl _) W D _ _ (by omega) hK rfl rfl)⟩
  case stop =>
    rintro D c pre W _ _ h _
    exact h.elim

set_option maxHeartbeats 1000000 in
theorem collectIn (F : Fence) (n : Nat) (hf : F.fn 146) (hf' : F.fn 158) (hro : F.round = none) (hn : 3 ≤ n) (g : Nat) (lb : Array Value) (hFg : F.fn g) (eg : ∀ args w, (callFunc g args).run Tryz.prog w = .ok (.enter g args) w)
    (S Sp : Prs → Prop) (N : Nat) (hN : N ≤ 10000000) (w : World) (hseq : SeqStopsK F (n - 1 - 1) Tryz.prog g lb (fun p : Int × Int => #[pairV p.1 p.2]) KeepsWalks S Sp N w) :
    CallsIn F n Tryz.prog 146 #[.func (.func g) #[] lb] w fun e w' => ∃ (v : Value) (ss : Prs), e = .returned v ∧ S ss ∧ ss.length ≤ N ∧ OwnP w' w.heap.size v ss ∧ (v = .slice none 0 0 ↔ ss = []) ∧ Below w.heap.size w w' := by
  have h1 : 1 ≤ n := by omega
  refine callsIn_of_wp Tryz.func146 rfl hf ?_ hro
  simp only [Tryz.ntmps146, List.size_toArray, List.length_cons, List.length_nil, Nat.reduceAdd, Nat.reduceSub, Array.replicate_succ, Array.replicate_zero, List.push_toArray, List.append_toArray, List.nil_append, List.cons_append]
  gi_wp2_with (gi_at_call 158; refine (appendSeqIn F (n - 1) hf' hro (by omega) g lb hFg eg S Sp N hN _ hseq).mono ?_; rintro e w' ⟨v, ss, rfl, hS, hl, hrow, hnil, hb⟩)
  go_ret
  exact ⟨v, ss, rfl, hS, hl, hrow, hnil, hb⟩
end Go.Proofs.YtpkagpobobmnfaaGreatDoor
