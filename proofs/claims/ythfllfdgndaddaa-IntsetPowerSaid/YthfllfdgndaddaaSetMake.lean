/-
  The contracts of the reference's functions that make sets: Make, Union, Add, Intersect, Minus, Remove.
-/
import Derived.Test.YthfllfdgndaddaaSetIns
namespace Go.Proofs.Ythfllfdgndaddaa
open Go.RowKit

theorem mkEmpty : mk [] = [] := rfl

set_option maxHeartbeats 400000 in
theorem rMake (l : List Int) (r : List Int) (hr : mk l = r) (hs : l.length ≤ 65536) (A : Option Addr) (c : Nat) (w : World) (ha : Rd w A c l) :
    Calls Try.prog 12 #[.slice A l.length c] w (GivesL r w) := by
  have hla := ha.le
  have hca := ha.max
  unfold maxLen at hca
  have HA := Lib.hid ha; clear ha
  have HR := Lib.hid hr; clear hr
  go_enter Try.func12, Try.ntmps12
  go_wp2
  go_loopw [3, 4] (fun o i wr => ∃ (k : Nat) (A' : Option Addr) (c' : Nat) (s : List Int), k ≤ l.length ∧ i = .int .i64 k ∧ o = .slice A' s.length c' ∧ Hid (mk (l.take k) = s) ∧ Rd wr A' c' s ∧ Below w.heap.size w wr) (fun _ i _ => l.length - (intOf i).toNat)
  case atStart => exact ⟨0, some ⟨w.heap.size, 0, none⟩, 0, [], Nat.zero_le _, rfl, rfl, Lib.hid rfl, Rd.lit w [] 3 (by simp), (Below.refl _ _).alloc (Nat.le_refl _) _⟩
  case round =>
    obtain ⟨k, A', c', s, hk, rfl, rfl, HT, rs, hb⟩ := hrel
    have hsl : s.length ≤ k := by
      have := lenMk (l.take k); rw [HT.out, List.length_take] at this; omega
    by_cases hlt : k < l.length
    · obtain ⟨ad, rfl, _, hc⟩ := (HA.out.below hb).one hlt
      have HM := Lib.hid ((mkSucc hlt).trans (by rw [HT.out]))
      rcases hx : memB s l[k] with _ | _
      · have HX := Lib.hid (HM.out.trans (addNo hx))
        have HY := Lib.hid hx; clear hx
        generalize l[k] = x at *
        go_wp2_with fail
        refine (rHas s x false HY.out A' c' _ rs).mono ?_
        rintro e w' ⟨rfl, rfl⟩
        go_wp2_with fail
        refine (rInsert s x (ins x s) rfl (by omega) A' c' _ rs).mono ?_
        rintro e w1 ⟨A1, c1, rfl, r1, b1⟩
        go_wp2
        go_roundw
        case rel => exact ⟨k + 1, A1, c1, _, by omega, by go_num, rfl, HX, r1, belowThen hb b1⟩
        case measure => simp [intOf]; omega
      · have HX := Lib.hid (HM.out.trans (addYes hx))
        have HY := Lib.hid hx; clear hx
        generalize l[k] = x at *
        go_wp2_with fail
        refine (rHas s x true HY.out A' c' _ rs).mono ?_
        rintro e w' ⟨rfl, rfl⟩
        go_wp2
        go_roundw
        case rel => exact ⟨k + 1, A', c', _, by omega, by go_num, rfl, HX, rs, hb⟩
        case measure => simp [intOf]; omega
    · have hkl : k = l.length := by omega
      have e : r = s := by rw [← HR.out, ← HT.out, hkl, List.take_length]
      have HE := Lib.hid e; clear e
      clear hkl
      go_wp2
      go_ret
      rw [HE.out]
      exact ⟨A', c', rfl, rs, hb⟩

theorem rMakeN (l : List Int) (n : Nat) (hn : n = l.length) (r : List Int) (hr : mk l = r) (hs : l.length ≤ 65536) (A : Option Addr) (c : Nat) (w : World) (ha : Rd w A c l) :
    Calls Try.prog 12 #[.slice A n c] w (GivesL r w) := by
  subst hn; exact rMake l r hr hs A c w ha

set_option maxHeartbeats 400000 in
theorem rUnion (l m : List Int) (r : List Int) (hr : uni l m = r) (hs : l.length ≤ 30000) (hs' : m.length ≤ 30000) (A B : Option Addr) (c d : Nat) (w : World) (ha : Rd w A c l) (hb : Rd w B d m) :
    Calls Try.prog 22 #[.slice A l.length c, .slice B m.length d] w (GivesL r w) := by
  have HA := Lib.hid ha; clear ha
  have HB := Lib.hid hb; clear hb
  have HR := Lib.hid hr; clear hr
  have hO := Lib.hid (OwnI.made w w.heap.size (Nat.le_refl _))
  have hA0 := Lib.hid (HA.out.below ((Below.refl _ w).alloc (Nat.le_refl _) (.cells #[] 3)))
  go_enter Try.func22, Try.ntmps22
  go_wp2_with (first
    | (at_builtin; refine appI _ rfl (.tmp 6) (.tmp 7) rfl w.heap.size _ [] rfl hO.out A l.length c l rfl rfl hA0.out (by simp; omega) (by simp) ?_; intro v1 w1 o1 _ b1; have B1 := stepA0 b1)
    | (at_builtin; refine appI _ rfl (.tmp 9) (.tmp 10) rfl w.heap.size _ _ rfl o1 B m.length d m rfl rfl (HB.out.below B1) (by simp; omega) B1.size ?_; intro v2 w2 o2 _ b2; have B2 := B1.trans b2; rw [List.nil_append] at o2; obtain ⟨A2, c2, rfl, r2, _⟩ := o2.rd)
    | fail)
  refine (rMakeN (l ++ m) _ (by simp) r HR.out (by simp; omega) A2 c2 _ r2).mono ?_
  rintro e w3 ⟨A3, c3, rfl, r3, b3⟩
  go_wp2
  go_ret
  exact ⟨A3, c3, rfl, r3, belowThen B2 b3⟩

set_option maxHeartbeats 400000 in
theorem rAdd (l : List Int) (n : Int) (r : List Int) (hr : uni l [n] = r) (hs : l.length ≤ 30000) (A : Option Addr) (c : Nat) (w : World) (ha : Rd w A c l) :
    Calls Try.prog 18 #[.slice A l.length c, .int .i64 n] w (GivesL r w) := by
  have HA := Lib.hid ha; clear ha
  have HR := Lib.hid hr; clear hr
  have hO := Lib.hid (OwnI.made w w.heap.size (Nat.le_refl _))
  have hA0 := Lib.hid (HA.out.below ((Below.refl _ w).alloc (Nat.le_refl _) (.cells #[] 3)))
  go_enter Try.func18, Try.ntmps18
  go_wp2_with (first
    | (at_builtin; refine appI _ rfl (.tmp 6) (.tmp 7) rfl w.heap.size _ [] rfl hO.out A l.length c l rfl rfl hA0.out (by simp; omega) (by simp) ?_; intro v1 w1 o1 _ b1; have B1 := stepA0 b1)
    | (at_builtin; refine appI _ rfl (.tmp 9) (.tmp 11) rfl w.heap.size _ _ rfl (o1.alloc _) (some ⟨w1.heap.size, 0, none⟩) 1 1 [n] rfl rfl (Rd.lit w1 [n] 3 (by simp)) (by simp; omega) (by have := B1.size; simp; omega) ?_; intro v2 w2 o2 _ b2; have B2 := stepA B1 b2; rw [List.nil_append] at o2; obtain ⟨A2, c2, rfl, r2, _⟩ := o2.rd)
    | fail)
  refine (rMakeN (l ++ [n]) _ (by simp) r HR.out (by simp; omega) A2 c2 _ r2).mono ?_
  rintro e w3 ⟨A3, c3, rfl, r3, b3⟩
  go_wp2
  go_ret
  exact ⟨A3, c3, rfl, r3, belowThen B2 b3⟩

set_option maxHeartbeats 400000 in
theorem rIntersect (l m : List Int) (r : List Int) (hr : int' l m = r) (hs : l.length ≤ 30000) (A B : Option Addr) (c d : Nat) (w : World) (ha : Rd w A c l) (hb : Rd w B d m) :
    Calls Try.prog 24 #[.slice A l.length c, .slice B m.length d] w (GivesL r w) := by
  have hla := ha.le
  have hca := ha.max
  unfold maxLen at hca
  have HA := Lib.hid ha; clear ha
  have HB := Lib.hid hb; clear hb
  have HR := Lib.hid hr; clear hr
  have hO := Lib.hid (OwnI.made w w.heap.size (Nat.le_refl _))
  go_enter Try.func24, Try.ntmps24
  go_wp2
  go_loopw [5, 6] (fun o i wr => ∃ (k : Nat) (s : List Int), k ≤ l.length ∧ i = .int .i64 k ∧ Hid (pick true (l.take k) m = s) ∧ OwnI wr w.heap.size o s ∧ Below w.heap.size w wr) (fun _ i _ => l.length - (intOf i).toNat)
  case atStart => exact ⟨0, [], Nat.zero_le _, rfl, Lib.hid rfl, hO.out, (Below.refl _ _).alloc (Nat.le_refl _) _⟩
  case round =>
    obtain ⟨k, s, hk, rfl, HT, os, hb⟩ := hrel
    have hsl : s.length ≤ k := by
      have := lenPick true (l.take k) m; rw [HT.out, List.length_take] at this; omega
    by_cases hlt : k < l.length
    · obtain ⟨ad, rfl, _, hc⟩ := (HA.out.below hb).one hlt
      rcases hx : memB m l[k] with _ | _
      · have HX := Lib.hid ((pickNo (p := true) hlt hx).trans HT.out)
        have HY := Lib.hid hx; clear hx
        generalize l[k] = x at *
        go_wp2_with fail
        refine (rHas m x false HY.out B d _ (HB.out.below hb)).mono ?_
        rintro e w' ⟨rfl, rfl⟩
        go_wp2
        go_roundw
        case rel => exact ⟨k + 1, _, by omega, by go_num, HX, os, hb⟩
        case measure => simp [intOf]; omega
      · have HX := Lib.hid ((pickYes (p := true) hlt hx).trans (by rw [HT.out]))
        have HY := Lib.hid hx; clear hx
        generalize l[k] = x at *
        go_wp2_with fail
        refine (rHas m x true HY.out B d _ (HB.out.below hb)).mono ?_
        rintro e w1 ⟨rfl, rfl⟩
        go_wp2_with (at_builtin; refine appI _ rfl (.tmp 20) (.tmp 25) rfl w.heap.size _ _ rfl (os.alloc _) (some ⟨_, 0, none⟩) 1 1 [x] rfl rfl (Rd.lit _ [x] 3 (by simp)) (by simp; omega) (by have := hb.size; simp; omega) ?_; intro v1 w1 o1 _ b1; have B1 := stepA hb b1)
        go_roundw
        case rel => exact ⟨k + 1, _, by omega, by go_num, HX, o1, B1⟩
        case measure => simp [intOf]; omega
    · have hkl : k = l.length := by omega
      have e : pick true l m = s := by rw [← HT.out, hkl, List.take_length]
      have HE := Lib.hid e; clear e
      clear hkl
      obtain ⟨A', c', rfl, r1, _⟩ := os.rd
      go_wp2_with fail
      refine (rMake s r (by rw [← HR.out, ← HE.out]; rfl) (by omega) A' c' _ r1).mono ?_
      rintro e w3 ⟨A3, c3, rfl, r3, b3⟩
      go_wp2
      go_ret
      exact ⟨A3, c3, rfl, r3, belowThen hb b3⟩
set_option maxHeartbeats 400000 in
theorem rMinus (l m : List Int) (r : List Int) (hr : min' l m = r) (hs : l.length ≤ 30000) (A B : Option Addr) (c d : Nat) (w : World) (ha : Rd w A c l) (hb : Rd w B d m) :
    Calls Try.prog 26 #[.slice A l.length c, .slice B m.length d] w (GivesL r w) := by
  have hla := ha.le
  have hca := ha.max
  unfold maxLen at hca
  have HA := Lib.hid ha; clear ha
  have HB := Lib.hid hb; clear hb
  have HR := Lib.hid hr; clear hr
  have hO := Lib.hid (OwnI.made w w.heap.size (Nat.le_refl _))
  go_enter Try.func26, Try.ntmps26
  go_wp2
  go_loopw [5, 6] (fun o i wr => ∃ (k : Nat) (s : List Int), k ≤ l.length ∧ i = .int .i64 k ∧ Hid (pick false (l.take k) m = s) ∧ OwnI wr w.heap.size o s ∧ Below w.heap.size w wr) (fun _ i _ => l.length - (intOf i).toNat)
  case atStart => exact ⟨0, [], Nat.zero_le _, rfl, Lib.hid rfl, hO.out, (Below.refl _ _).alloc (Nat.le_refl _) _⟩
  case round =>
    obtain ⟨k, s, hk, rfl, HT, os, hb⟩ := hrel
    have hsl : s.length ≤ k := by
      have := lenPick false (l.take k) m; rw [HT.out, List.length_take] at this; omega
    by_cases hlt : k < l.length
    · obtain ⟨ad, rfl, _, hc⟩ := (HA.out.below hb).one hlt
      rcases hx : memB m l[k] with _ | _
      · have HX := Lib.hid ((pickYes (p := false) hlt hx).trans (by rw [HT.out]))
        have HY := Lib.hid hx; clear hx
        generalize l[k] = x at *
        go_wp2_with fail
        refine (rHas m x false HY.out B d _ (HB.out.below hb)).mono ?_
        rintro e w1 ⟨rfl, rfl⟩
        go_wp2_with (at_builtin; refine appI _ rfl (.tmp 21) (.tmp 26) rfl w.heap.size _ _ rfl (os.alloc _) (some ⟨_, 0, none⟩) 1 1 [x] rfl rfl (Rd.lit _ [x] 3 (by simp)) (by simp; omega) (by have := hb.size; simp; omega) ?_; intro v1 w1 o1 _ b1; have B1 := stepA hb b1)
        go_roundw
        case rel => exact ⟨k + 1, _, by omega, by go_num, HX, o1, B1⟩
        case measure => simp [intOf]; omega
      · have HX := Lib.hid ((pickNo (p := false) hlt hx).trans HT.out)
        have HY := Lib.hid hx; clear hx
        generalize l[k] = x at *
        go_wp2_with fail
        refine (rHas m x true HY.out B d _ (HB.out.below hb)).mono ?_
        rintro e w' ⟨rfl, rfl⟩
        go_wp2
        go_roundw
        case rel => exact ⟨k + 1, _, by omega, by go_num, HX, os, hb⟩
        case measure => simp [intOf]; omega
    · have hkl : k = l.length := by omega
      have e : pick false l m = s := by rw [← HT.out, hkl, List.take_length]
      have HE := Lib.hid e; clear e
      clear hkl
      obtain ⟨A', c', rfl, r1, _⟩ := os.rd
      go_wp2_with fail
      refine (rMake s r (by rw [← HR.out, ← HE.out]; rfl) (by omega) A' c' _ r1).mono ?_
      rintro e w3 ⟨A3, c3, rfl, r3, b3⟩
      go_wp2
      go_ret
      exact ⟨A3, c3, rfl, r3, belowThen hb b3⟩
set_option maxHeartbeats 400000 in
theorem rRemove (l : List Int) (n : Int) (r : List Int) (hr : min' l [n] = r) (hs : l.length ≤ 30000) (A : Option Addr) (c : Nat) (w : World) (ha : Rd w A c l) :
    Calls Try.prog 20 #[.slice A l.length c, .int .i64 n] w (GivesL r w) := by
  have HA := Lib.hid ha; clear ha
  have HR := Lib.hid hr; clear hr
  have hA0 := Lib.hid (HA.out.below ((Below.refl _ w).alloc (Nat.le_refl _) (.cells #[.int .i64 n] 3)))
  go_enter Try.func20, Try.ntmps20
  go_wp2_with fail
  refine (rMinus l [n] r HR.out hs A (some ⟨w.heap.size, 0, none⟩) c 1 _ hA0.out (Rd.lit w [n] 3 (by simp))).mono ?_
  rintro e w3 ⟨A3, c3, rfl, r3, b3⟩
  go_wp2
  go_ret
  exact ⟨A3, c3, rfl, r3, belowThen ((Below.refl _ w).alloc (Nat.le_refl _) _) b3⟩
end Go.Proofs.Ythfllfdgndaddaa
