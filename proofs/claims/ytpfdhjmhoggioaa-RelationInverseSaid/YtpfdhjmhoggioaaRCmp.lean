/-
  The contracts of the comparison of pairs by which a relation is sorted, and of what it calls.
-/
import Derived.Test.YtpfdhjmhoggioaaRPairs
import Derived.Sort.Grow
import Derived.Deep.RegionHeld3
namespace Go.Proofs.Ytpfdhjmhoggioaa
open Go.RowKit Go.Maps Go.Sort

/-- A slice of integers, cell by cell at a written-out address. -/
theorem Rd.flat {w : World} {A : Option Addr} {c : Nat} {l : List Int} (h : Rd w A c l) (hl : 0 < l.length) : ∃ b off, A = some ⟨b, off, none⟩ ∧ b < w.heap.size ∧ ∀ j (hj : j < l.length), w.cell? ⟨b, off + j, none⟩ = some (.int .i64 l[j]) := by
  obtain ⟨⟨b, off, spot⟩, e, hb, hc⟩ := Rds.at_ h (by simpa using hl)
  have h0 := hc 0 (.int .i64 l[0]) (by simp [List.getElem?_eq_getElem hl])
  have hspot : spot = none := by simpa [Addr.add] using World.cell?_spot h0
  subst hspot
  refine ⟨b, off, e, hb, fun j hj => ?_⟩
  have := hc j (.int .i64 l[j]) (by simp [List.getElem?_eq_getElem hj])
  rwa [Addr.add_lit] at this
/-- -1, 0 or 1. -/
def cmpI (x y : Int) : Int := if x < y then -1 else if y < x then 1 else 0
/-- By the first element, then by the second. -/
def cmpP (p q : Int × Int) : Int := if cmpI p.1 q.1 ≠ 0 then cmpI p.1 q.1 else cmpI p.2 q.2

set_option maxHeartbeats 400000 in
theorem iNaN (x : Int) (w : World) : Calls Try.prog 59 #[.int .i64 x] w fun e w' => e = .returned (.bool false) ∧ w = w' := by
  go_enter Try.func59, Try.ntmps59
  go_wp2
  go_ret
  exact ⟨retB (by simp), rfl⟩
set_option maxHeartbeats 400000 in
theorem iCompare (x y : Int) (r : Int) (hr : cmpI x y = r) (w : World) : Calls Try.prog 52 #[.int .i64 x, .int .i64 y] w fun e w' => e = .returned (.int .i64 r) ∧ w = w' := by
  have HR := Lib.hid hr; clear hr
  go_enter Try.func52, Try.ntmps52
  go_wp2_with fail
  refine (iNaN x _).mono ?_
  rintro e w1 ⟨rfl, rfl⟩
  go_wp2_with fail
  refine (iNaN y _).mono ?_
  rintro e w1 ⟨rfl, rfl⟩
  by_cases h1 : x < y
  · have hx := HR.out
    unfold cmpI at hx
    rw [if_pos h1] at hx
    have HX := Lib.hid hx; clear hx
    go_wp2
    go_ret
    exact ⟨retInt HX.out, rfl⟩
  · by_cases h2 : y < x
    · have hx := HR.out
      unfold cmpI at hx
      rw [if_neg h1, if_pos h2] at hx
      have HX := Lib.hid hx; clear hx
      go_wp2
      go_ret
      exact ⟨retInt HX.out, rfl⟩
    · have hx := HR.out
      unfold cmpI at hx
      rw [if_neg h1, if_neg h2] at hx
      have HX := Lib.hid hx; clear hx
      obtain rfl : x = y := by omega
      go_wp2
      go_ret
      exact ⟨retInt HX.out, rfl⟩
set_option maxHeartbeats 1000000 in
theorem iOr (a b : Int) (r : Int) (hr : (if a ≠ 0 then a else b) = r) (A : Option Addr) (c : Nat) (w : World) (ha : Rd w A c [a, b]) : Calls Try.prog 51 #[.slice A 2 c] w fun e w' => e = .returned (.int .i64 r) ∧ w = w' := by
  have HR := Lib.hid hr; clear hr
  obtain ⟨bk, off, rfl, _, hc⟩ := ha.flat (by simp)
  have h0 := hc 0 (by simp)
  have h1 := hc 1 (by simp)
  clear hc
  have hle := ha.le
  have hma := ha.max
  unfold maxLen at hma
  simp at hle h0 h1
  clear ha
  go_enter Try.func51, Try.ntmps51
  go_wp2
  go_loop [8] (fun i => ∃ k : Nat, k ≤ 2 ∧ i = .int .i64 k ∧ (0 < k → a = 0) ∧ (1 < k → b = 0)) (fun i => 2 - (intOf i).toNat)
  case atStart => exact ⟨0, by omega, rfl, by omega, by omega⟩
  case round =>
    obtain ⟨k, hk, rfl, hA, hB⟩ := hrel
    rcases (show k = 0 ∨ k = 1 ∨ k = 2 by omega) with rfl | rfl | rfl
    · by_cases e : a = 0
      · subst e
        go_wp2
        go_round
        case rel => exact ⟨1, by omega, by go_num, by simp, by omega⟩
        case measure => simp [intOf]
      · have hx := HR.out
        rw [if_pos e] at hx
        have HX := Lib.hid hx; clear hx
        go_wp2
        go_ret
        exact ⟨retInt HX.out, rfl⟩
    · have e := hA (by omega)
      by_cases e2 : b = 0
      · subst e2
        go_wp2
        go_round
        case rel => exact ⟨2, by omega, by go_num, fun _ => e, by simp⟩
        case measure => simp [intOf]
      · have hx := HR.out
        rw [if_neg (by simpa using e)] at hx
        have HX := Lib.hid hx; clear hx
        go_wp2
        go_ret
        exact ⟨retInt HX.out, rfl⟩
    · have e := hA (by omega)
      have e2 := hB (by omega)
      have hx := HR.out
      rw [if_neg (by simpa using e)] at hx
      have HX := Lib.hid (e2.symm.trans hx); clear hx
      go_wp2
      go_ret
      exact ⟨retInt HX.out, rfl⟩
set_option maxHeartbeats 2000000 in
theorem iLess (p q : Int × Int) (w : World) : Calls Try.prog 50 #[pairV p.1 p.2, pairV q.1 q.2] w fun e w' => e = .returned (.int .i64 (cmpP p q)) ∧ ∃ k os, w' = grow (w.drewN k) os := by
  obtain ⟨x, y⟩ := p
  obtain ⟨u, v⟩ := q
  obtain ⟨c1, h1⟩ : ∃ c, cmpI x u = c := ⟨_, rfl⟩
  obtain ⟨c2, h2⟩ : ∃ c, cmpI y v = c := ⟨_, rfl⟩
  have HR := Lib.hid (show (if c1 ≠ 0 then c1 else c2) = cmpP (x, y) (u, v) by unfold cmpP; rw [h1, h2])
  have H1 := Lib.hid h1; clear h1
  have H2 := Lib.hid h2; clear h2
  go_enter Try.func50, Try.ntmps50
  go_wp2
  obtain ⟨W1, hW1⟩ : ∃ W1, (w.alloc (.cells #[.int .i64 x, .int .i64 y] 38)).alloc (.cells #[.int .i64 u, .int .i64 v] 38) = W1 := ⟨_, rfl⟩
  have hx : W1.cell? ⟨w.heap.size, 0, none⟩ = some (.int .i64 x) := by rw [← hW1]; simp
  have hy : W1.cell? ⟨w.heap.size, 1, none⟩ = some (.int .i64 y) := by rw [← hW1]; simp
  have hu : W1.cell? ⟨w.heap.size + 1, 0, none⟩ = some (.int .i64 u) := by rw [← hW1, World.cell?_alloc_at _ _ _ _ (by simp)]; rfl
  have hv : W1.cell? ⟨w.heap.size + 1, 1, none⟩ = some (.int .i64 v) := by rw [← hW1, World.cell?_alloc_at _ _ _ _ (by simp)]; rfl
  rw [hW1]
  have HG := Lib.hid (show W1 = grow w #[.cells #[.int .i64 x, .int .i64 y] 38, .cells #[.int .i64 u, .int .i64 v] 38] by rw [← hW1, alloc_eq_grow, alloc_eq_grow, grow_grow]; rfl)
  have hsz : W1.heap.size = w.heap.size + 2 := by rw [← hW1]; simp
  clear hW1
  have hp : ∀ o : Obj, (W1.alloc o).drew.cell? ⟨w.heap.size, 0, none⟩ = some (.int .i64 x) ∧ (W1.alloc o).drew.cell? ⟨w.heap.size, 1, none⟩ = some (.int .i64 y) ∧ (W1.alloc o).drew.cell? ⟨w.heap.size + 1, 0, none⟩ = some (.int .i64 u) ∧ (W1.alloc o).drew.cell? ⟨w.heap.size + 1, 1, none⟩ = some (.int .i64 v) := fun o =>
    ⟨(World.cell?_alloc_past o _ _ (by omega)).trans hx, (World.cell?_alloc_past o _ _ (by omega)).trans hy, (World.cell?_alloc_past o _ _ (by omega)).trans hu, (World.cell?_alloc_past o _ _ (by omega)).trans hv⟩
  have HSZ := Lib.hid hsz; clear hsz
  have HL : Hid (Rd (W1.alloc (.cells #[.int .i64 c1, .int .i64 c2] 3)).drew (some ⟨W1.heap.size, 0, none⟩) 2 [c1, c2]) := Lib.hid (Rds.drew (Rd.lit W1 [c1, c2] 3 (by simp)))
  go_region_held3 (fun w' => w'.cell? ⟨w.heap.size, 0, none⟩ = some (.int .i64 x) ∧ w'.cell? ⟨w.heap.size, 1, none⟩ = some (.int .i64 y) ∧ w'.cell? ⟨w.heap.size + 1, 0, none⟩ = some (.int .i64 u) ∧ w'.cell? ⟨w.heap.size + 1, 1, none⟩ = some (.int .i64 v))
    (first | exact hp _ | exact ⟨hx, hy, hu, hv⟩ | assumption | simp [*])
    (first
      | (go_at_call 52; with_reducible refine (iCompare x u c1 H1.out _).mono ?_; (rintro e w' ⟨rfl, rfl⟩))
      | (go_at_call 52; with_reducible refine (iCompare y v c2 H2.out _).mono ?_; (rintro e w' ⟨rfl, rfl⟩))
      | (go_at_call 51; with_reducible refine (iOr c1 c2 _ HR.out _ _ _ HL.out).mono ?_; (rintro e w' ⟨rfl, rfl⟩)))
  go_wp2
  go_ret
  exact ⟨rfl, 1, _, by rw [HG.out, alloc_eq_grow, grow_grow]; rfl⟩
end Go.Proofs.Ytpfdhjmhoggioaa
