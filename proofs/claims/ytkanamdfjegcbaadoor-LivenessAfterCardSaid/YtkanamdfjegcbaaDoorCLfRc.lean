/-
  The specification's After.
-/
import Derived.Test.YtkanamdfjegcbaaDoorCLfRa
import Derived.Test.YtkanamdfjegcbaaDoorCLfRb
namespace Go.Proofs.YtkanamdfjegcbaaDoor
open Go Go.RowKit Go.Shelf

theorem nowAny {C : List I8} {ex : Bool} {k : Nat} : nowL (lvB C ex) (scV C k) = rgL (anyB C ex k) := by
  unfold nowL
  congr 1
  funext r
  exact anyScM r fun y => scVMem
set_option maxRecDepth 100000 in
set_option maxHeartbeats 4000000 in
theorem rAfter13 (nm : ByteArray) (C : List I8) (n : Nat) (hn : C.length = n) (x : Int) (A : Option Addr) (c : Nat) (w : World) (h : CdW w A c C) :
    Calls Tryd.prog 18 #[fnV nm A n c, .int .i64 x] w (GivesE9 (afR C x) (nxE C x) w) := by
  obtain ⟨W, hWE⟩ : ∃ W, w.alloc (.cells #[.string nm, .slice A n c] 24) = W := ⟨_, rfl⟩
  have hbW : Below w.heap.size w W := by rw [← hWE]; exact belowAlloc w _
  have hBF : Blk W w.heap.size 24 #[.string nm, .slice A n c] := by rw [← hWE]; exact Blk.new w _ _
  have HK := Lib.hid (fun X (hX : Below W.heap.size W X) => (⟨hX, (hBF.below' hX).cell 0, (hBF.below' hX).cell 1⟩ : Below W.heap.size W X ∧ X.cell? ⟨w.heap.size, 0, none⟩ = some (.string nm) ∧ X.cell? ⟨w.heap.size, 1, none⟩ = some (.slice A n c)))
  have HWR := Lib.hid (rWrong nm C n hn A c W (h.below hbW))
  have HCD := Lib.hid (h.below hbW)
  have hle := h.rd.le
  have hmx := h.rd.max
  rw [hn] at hle
  unfold maxLen at hmx
  have HW := Lib.hid hWE
  have HBW := Lib.hid hbW
  have HN := Lib.hid hn
  obtain ⟨-, k0, k1⟩ := HK.out W (Below.refl _ _)
  by_cases hc : cfE C = 0
  rotate_left
  · have e1 : nxE C x = cfE C := by unfold nxE; rw [if_pos hc]
    have e2 : afR C x = [] := by unfold afR; rw [if_neg (by rw [e1]; exact hc)]
    have hne : (cfE C != 0) = true := by simpa using hc
    rw [e1, e2]
    clear hc e1 e2 hbW hBF hWE h hn
    unfold fnV at HWR ⊢
    go_enter Tryd.func18, Tryd.ntmps18
    go_wp2_with fail
    rw [HW.out]
    refine HWR.out.mono ?_
    rintro e w1 ⟨rfl, b1⟩
    go_wp2
    go_ret2
    exact ⟨none, 0, rfl, Rd.nil, belowThen HBW.out b1⟩
  have hok := cfOk hc
  have HOK := Lib.hid hok
  have HHC := Lib.hid hc
  rw [hc] at HWR
  by_cases hx : x < 0 ∨ (n : Int) ≤ x
  · have e1 : nxE C x = 2 := by unfold nxE; rw [if_neg (by rw [hc]; simp), if_pos (by rw [hn]; exact hx)]
    have e2 : afR C x = [] := by unfold afR; rw [if_neg (by rw [e1]; decide)]
    rw [e1, e2]
    clear hc hok e1 e2 hbW hBF hWE h hn
    unfold fnV at HWR ⊢
    go_enter Tryd.func18, Tryd.ntmps18
    go_wp2_with fail
    rw [HW.out]
    refine HWR.out.mono ?_
    rintro e w1 ⟨rfl, b1⟩
    clear k0 k1
    obtain ⟨-, k0, k1⟩ := HK.out w1 b1
    by_cases h0 : x < 0
    · clear hx
      go_wp2
      go_ret2
      exact ⟨none, 0, rfl, Rd.nil, belowThen HBW.out b1⟩
    · have h1 : (n : Int) ≤ x := by omega
      clear hx
      go_wp2
      go_ret2
      exact ⟨none, 0, rfl, Rd.nil, belowThen HBW.out b1⟩
  have e1 : nxE C x = 0 := by unfold nxE; rw [if_neg (by rw [hc]; simp), if_neg (by rw [hn]; exact hx)]
  have e2 : afR C x = rgL (anyB C false x.toNat) := by unfold afR; rw [if_pos e1]
  rw [e1, e2]
  obtain ⟨k, rfl⟩ : ∃ k : Nat, x = k := ⟨x.toNat, by omega⟩
  have hk : k < n := by omega
  have d1 : ¬ ((k : Int) < 0) := by omega
  have d2 : ¬ ((n : Int) ≤ k) := by omega
  rw [Int.toNat_natCast, ← nowAny]
  have HRG : Hid (∀ y, y ≤ n → Regs (lvB C false y)) := Lib.hid fun y _ r hr => lvRg hok hr
  obtain ⟨n1, hn1⟩ : ∃ n1, n + 1 = n1 := ⟨_, rfl⟩
  have HLV := Lib.hid (fun X (hX : Below W.heap.size W X) => rLive0 nm C hc n hn A c X (HCD.out.below hX))
  have HAF := Lib.hid (fun X (hX : Below W.heap.size W X) Ag cg hg => rAfterS nm C hc n hn A c X (HCD.out.below hX) (lvB C false) HRG.out Ag n1 cg hn1 hg k hk)
  unfold lvLs at HLV
  rw [hn, hn1] at HLV
  obtain ⟨L, hL⟩ : ∃ L, nowL (lvB C false) (scV C k) = L := ⟨_, rfl⟩
  rw [hL] at HAF ⊢
  unfold GivesL at HAF
  obtain ⟨q, hq⟩ : ∃ q, L.length = q := ⟨_, rfl⟩
  rw [hq] at HAF
  unfold GivesE9
  rw [hq]
  clear hc hok e1 e2 hbW hBF hWE h hn hx hn1 hL hq
  unfold fnV at HWR HLV HAF ⊢
  go_enter Tryd.func18, Tryd.ntmps18
  go_wp2_with fail
  rw [HW.out]
  refine HWR.out.mono ?_
  rintro e w1 ⟨rfl, b1⟩
  have HB1 := Lib.hid b1
  have HS := Lib.hid (fun X (hX : Below w1.heap.size w1 X) => (let z := HK.out X (belowThen HB1.out hX); ⟨hX, z.2.1, z.2.2⟩ : Below w1.heap.size w1 X ∧ X.cell? ⟨w.heap.size, 0, none⟩ = some (.string nm) ∧ X.cell? ⟨w.heap.size, 1, none⟩ = some (.slice A n c)))
  have S0 := HS.out w1.drew ((Below.refl _ w1).drew)
  obtain ⟨-, f0, f1⟩ := HS.out w1 (Below.refl _ _)
  clear b1 k0 k1
  go_wp2_with fail
  go_region_held3 (fun X => Below w1.heap.size w1 X ∧ X.cell? ⟨w.heap.size, 0, none⟩ = some (.string nm) ∧ X.cell? ⟨w.heap.size, 1, none⟩ = some (.slice A n c)) (first | with_reducible assumption | exact HS.out _ (by with_reducible assumption)) (first
    | (go_at_call 42; refine (HLV.out _ (belowThen HB1.out (‹Below w1.heap.size w1 _ ∧ _›).1)).mono ?_; rintro e t1 ⟨rfl, rl, y1⟩; have q1 := belowThen (‹Below w1.heap.size w1 _ ∧ _›).1 y1; clear HLV)
    | (go_at_call 44; refine (HAF.out _ (belowThen HB1.out q1) _ _ rl).mono ?_; rintro e t2 ⟨A2, c2, rfl, r2, y2⟩; have q2 := belowThen q1 y2)
    | fail)
  go_wp2
  go_ret2
  exact ⟨A2, c2, rfl, r2, belowThen HBW.out (belowThen HB1.out q2)⟩
end Go.Proofs.YtkanamdfjegcbaaDoor
