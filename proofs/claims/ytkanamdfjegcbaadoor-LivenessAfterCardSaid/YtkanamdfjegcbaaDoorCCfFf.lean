/-
  Make and Next once more: what they give lies in memory of their own.
-/
import Derived.Test.YtkanamdfjegcbaaDoorCCfF
namespace Go.Proofs.YtkanamdfjegcbaaDoor
open Go Go.RowKit Go.Shelf Go.Sort

/-- The call returns a slice of its own that reads as l; nothing that was in memory has changed. -/
def GivesLF (l : List Int) (w : World) (e : Ending) (w' : World) : Prop := ∃ A c, e = .returned (.slice A l.length c) ∧ Rd w' A c l ∧ Below w.heap.size w w' ∧ ∀ ad, A = some ad → 0 < l.length → w.heap.size ≤ ad.block
def GivesEF (l : List Int) (k : Int) (w : World) (e : Ending) (w' : World) : Prop := ∃ A c, e = .returned (.tuple #[.slice A l.length c, .int .i64 k]) ∧ Rd w' A c l ∧ Below w.heap.size w w' ∧ ∀ ad, A = some ad → 0 < l.length → w.heap.size ≤ ad.block
set_option maxHeartbeats 400000 in
theorem iSetOfF (l : List Int) (r : List Int) (hr : mk l = r) (hs : l.length ≤ 65536) (A : Option Addr) (c : Nat) (w : World) (ha : Rd w A c l) :
    Calls Tryd.prog 108 #[.slice A l.length c] w (GivesLF r w) := by
  have HA := Lib.hid ha; clear ha
  have HR := Lib.hid hr; clear hr
  have hO := Lib.hid (OwnI.nil w w.heap.size)
  rcases Nat.eq_zero_or_pos l.length with h0 | h0
  · obtain rfl : l = [] := List.eq_nil_of_length_eq_zero h0
    clear h0
    go_enter Tryd.func108, Tryd.ntmps108
    go_wp2_with (first
      | (at_builtin; refine appI _ rfl (.const (.slice none 0 0)) (.tmp 4) rfl w.heap.size _ [] rfl hO.out A 0 c [] rfl rfl HA.out (by simp) (Nat.le_refl _) ?_; intro v1 w1 o1 _ b1; rw [List.nil_append] at o1; obtain ⟨A1, c1, rfl, r1, _⟩ := o1.rd)
      | fail)
    refine (Tryd.slices_Sort_int_none A1 c1 w1).mono ?_
    rintro e w' ⟨rfl, rfl⟩
    go_wp2_with fail
    refine (Tryd.slices_Compact_int_empty A1 c1 w').mono ?_
    rintro e w2 ⟨rfl, rfl⟩
    go_wp2
    go_ret
    rw [← HR.out]
    exact ⟨A1, c1, rfl, r1, b1, fun _ _ h => absurd h (Nat.lt_irrefl 0)⟩
  · go_enter Tryd.func108, Tryd.ntmps108
    go_wp2_with (first
      | (at_builtin; refine appI _ rfl (.const (.slice none 0 0)) (.tmp 4) rfl w.heap.size _ [] rfl hO.out A l.length c l rfl rfl HA.out (by simp; omega) (Nat.le_refl _) ?_; intro v1 w1 o1 _ b1; rw [List.nil_append] at o1; obtain ⟨g, c1, rfl, hg, hlt, hc, hm, hH⟩ := o1.holds h0; have HH := Lib.hid hH; clear hH)
      | fail)
    refine (sortCompact l h0 (by omega) w1 w.heap.size g c1 hg hlt hc hm HH.out).mono ?_
    rintro e w2 ⟨rfl, b2, hcon⟩
    have HC := Lib.hid hcon; clear hcon
    go_wp2_with fail
    refine HC.out.mono ?_
    rintro e w3 ⟨rfl, b3, r3⟩
    rw [HR.out] at r3 ⊢
    go_wp2
    go_ret
    exact ⟨_, c1, rfl, r3, b1.trans (b2.trans b3), fun ad e _ => by injection e with e; subst e; exact hg⟩

set_option maxHeartbeats 400000 in
theorem iMakeF (l : List Int) (r : List Int) (hr : mk l = r) (hs : l.length ≤ 65536) (A : Option Addr) (c : Nat) (w : World) (ha : Rd w A c l) :
    Calls Tryd.prog 69 #[.slice A l.length c] w (GivesLF r w) := by
  go_enter Tryd.func69, Tryd.ntmps69
  have HA := Lib.hid ha; clear ha
  have HR := Lib.hid hr; clear hr
  go_wp2_with fail
  refine (iSetOfF l r HR.out hs A c _ HA.out).mono ?_
  rintro e w3 ⟨A3, c3, rfl, r3, b3, f3⟩
  go_wp2
  go_ret
  exact ⟨A3, c3, rfl, r3, b3, f3⟩
set_option maxRecDepth 100000 in
set_option maxHeartbeats 2000000 in
theorem iNextF (nm : ByteArray) (C : List I8) (n : Nat) (hn : C.length = n) (x : Int) (A : Option Addr) (c : Nat) (w : World) (h : CdW w A c C) :
    Calls Tryd.prog 66 #[fnV nm A n c, .int .i64 x] w (GivesEF (nxR C x) (nxE C x) w) := by
  obtain ⟨W, hW⟩ : ∃ W, w.alloc (.cells #[.string nm, .slice A n c] 24) = W := ⟨_, rfl⟩
  have hbW : Below w.heap.size w W := by rw [← hW]; exact belowAlloc w _
  have hB : Blk W w.heap.size 24 #[.string nm, .slice A n c] := by rw [← hW]; exact Blk.new w _ _
  have k0 := hB.cell 0
  have k1 := hB.cell 1
  have k0 : W.cell? ⟨w.heap.size, 0, none⟩ = some (.string nm) := k0
  have k1 : W.cell? ⟨w.heap.size, 1, none⟩ = some (.slice A n c) := k1
  have HCO := Lib.hid (iCodeOf nm C n hn A c W (h.below hbW))
  have HCW := Lib.hid (fun X (hX : Below W.heap.size W X) => (h.below hbW).below hX)
  have HW := Lib.hid hW
  have HBW := Lib.hid hbW
  have hle := h.rd.le
  have hmx := h.rd.max
  rw [hn] at hle
  unfold maxLen at hmx
  clear h hB hW hbW
  unfold fnV at HCO ⊢
  by_cases hc : cfE C = 0
  rotate_left
  · have hne : (cfE C != 0) = true := by simpa using hc
    have e1 : nxE C x = cfE C := by unfold nxE; rw [if_pos hc]
    have e2 : nxR C x = [] := by unfold nxR; rw [if_neg (by rw [e1]; exact hc)]
    rw [e1, e2]
    rw [cdV1 hc] at HCO
    generalize cfE C = E at HCO hne
    clear hc e1 e2
    go_enter Tryd.func66, Tryd.ntmps66
    go_wp2_with fail
    rw [HW.out]
    refine HCO.out.mono ?_
    rintro e w1 ⟨rfl, b1⟩
    go_wp2
    go_ret2
    exact ⟨none, 0, rfl, Rd.nil, belowThen HBW.out b1, fun _ h => by cases h⟩
  have hok := cfOk hc
  rw [cdV0 hc, hc] at HCO
  by_cases hx : x < 0 ∨ (n : Int) ≤ x
  · have e1 : nxE C x = 2 := by unfold nxE; rw [if_neg (by rw [hc]; simp), if_pos (by rw [hn]; exact hx)]
    have e2 : nxR C x = [] := by unfold nxR; rw [if_neg (by rw [e1]; decide)]
    rw [e1, e2]
    clear hc hok e1 e2
    go_enter Tryd.func66, Tryd.ntmps66
    go_wp2_with fail
    rw [HW.out]
    refine HCO.out.mono ?_
    rintro e w1 ⟨rfl, b1⟩
    go_wp2
    all_goals first
      | (exfalso; omega)
      | (go_ret2; exact ⟨none, 0, rfl, Rd.nil, belowThen HBW.out b1, fun _ h => by cases h⟩)
  · have e1 : nxE C x = 0 := by unfold nxE; rw [if_neg (by rw [hc]; simp), if_neg (by rw [hn]; exact hx)]
    have e2 : nxR C x = scS C x.toNat := by unfold nxR; rw [if_pos e1]
    rw [e1, e2]
    obtain ⟨k, rfl⟩ : ∃ k : Nat, x = k := ⟨x.toNat, by omega⟩
    have hk : k < n := by omega
    have hk0 : (0 : Int) ≤ k := by omega
    have hk1 : (k : Int) < n := by omega
    have HNX := Lib.hid (fun X (hX : Below W.heap.size W X) => iNextV C hok n hn k hk A c X (HCW.out X hX).rd)
    have e3 : (k : Int).toNat = k := rfl
    rw [e3]
    have hsl := scLen (C := C) (k := k)
    have hsl2 := scSLen (C := C) (k := k)
    obtain ⟨xs, hxs⟩ : ∃ xs, sc C k = xs := ⟨_, rfl⟩
    have hms : mk (xs.map Int.ofNat) = scS C k := by rw [← hxs]; rfl
    rw [hxs] at HNX hsl
    obtain ⟨r, hr⟩ : ∃ r, scS C k = r := ⟨_, rfl⟩
    rw [hr] at hms ⊢
    clear hc hok e1 e2 hx hxs hr hsl2 e3
    go_enter Tryd.func66, Tryd.ntmps66
    go_wp2_with fail
    rw [HW.out]
    refine HCO.out.mono ?_
    rintro e w1 ⟨rfl, b1⟩
    have HN1 := Lib.hid (HNX.out w1 b1)
    go_wp2_with fail
    all_goals first
      | (exfalso; omega)
      | skip
    refine HN1.out.mono ?_
    rintro e w2 ⟨⟨gf, L, rfl, hit⟩, b2⟩
    have HC2 := Lib.hid (iCollect gf L xs (by omega) w2 hit)
    have B2 := belowThen b1 b2
    clear hit
    go_wp2_with fail
    refine HC2.out.mono ?_
    rintro e w3 ⟨A3, c3, rfl, hr3, b3⟩
    have HM3 := Lib.hid (iMakeF (xs.map Int.ofNat) r hms (by rw [List.length_map]; omega) A3 c3 w3 hr3)
    rw [List.length_map] at HM3
    have B3 := belowThen B2 b3
    have HS3 := Lib.hid (belowThen HBW.out B3).size
    clear hr3
    go_wp2_with fail
    refine HM3.out.mono ?_
    rintro e w4 ⟨A4, c4, rfl, hr4, b4, f4⟩
    go_wp2
    go_ret2
    exact ⟨A4, c4, rfl, hr4, belowThen HBW.out (belowThen B3 b4), fun ad e h => Nat.le_trans HS3.out (f4 ad e h)⟩
end Go.Proofs.YtkanamdfjegcbaaDoor
