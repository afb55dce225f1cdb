/-
  The specification's extend: the linear extensions that begin with a prefix, at most so many.
-/
import Derived.Test.YthigdniepifohaaDoorKRn5
import Derived.Test.YthigdniepifohaaDoorKLists
import Derived.BigQuiet
import Derived.Test.YthigdniepifohaaDoorKRf5
import Derived.Test.YthigdniepifohaaDoorKLkLaid
import Derived.Test.YthigdniepifohaaDoorCards
import Derived.SevenTiedAt
import Derived.ShutString
import Derived.ChangeMaps5
import Derived.Carry
namespace Go.Proofs.YthigdniepifohaaDoor
open Go Go.RowKit

/-- The extensions of a prefix by k more numbers. -/
def exL5 (N : Nat) (f : Nat → Nat → Bool) (k : Nat) (pre : List Nat) : List (List Int) := (exts N f k (maskL pre)).map fun t => nI (pre ++ t)
/-- Those that go on with one of the first i numbers that can follow. -/
def exI5 (N : Nat) (f : Nat → Nat → Bool) (k : Nat) (pre : List Nat) (i : Nat) : List (List Int) := (((nxtL N f (maskL pre)).take i).flatMap fun a => (exts N f k (addS (maskL pre) a)).map fun t => a :: t).map fun t => nI (pre ++ t)
theorem exI0 {N : Nat} {f : Nat → Nat → Bool} {k : Nat} {pre : List Nat} : exI5 N f k pre 0 = [] := rfl
theorem exIS {N : Nat} {f : Nat → Nat → Bool} {k : Nat} {pre : List Nat} {i : Nat} (hi : i < (nxtL N f (maskL pre)).length) : exI5 N f k pre (i + 1) = exI5 N f k pre i ++ exL5 N f k (pre ++ [(nxtL N f (maskL pre))[i]]) := by
  unfold exI5 exL5
  rw [List.take_succ_eq_append_getElem hi, List.flatMap_append, List.map_append, maskApp]
  congr 1
  rw [List.flatMap_cons, List.flatMap_nil, List.append_nil, List.map_map]
  refine List.map_congr_left fun t _ => ?_
  show nI (pre ++ _ :: t) = nI ((pre ++ [_]) ++ t)
  rw [List.append_assoc]; rfl
theorem exIAll {N : Nat} {f : Nat → Nat → Bool} {k : Nat} {pre : List Nat} {i : Nat} (hi : (nxtL N f (maskL pre)).length ≤ i) : exI5 N f k pre i = exL5 N f (k + 1) pre := by
  unfold exI5 exL5
  rw [List.take_of_length_le hi, exts]
theorem exIPre {N : Nat} {f : Nat → Nat → Bool} {k : Nat} {pre : List Nat} (i : Nat) : ∃ r, exL5 N f (k + 1) pre = exI5 N f k pre i ++ r := by
  unfold exI5 exL5
  refine ⟨(((nxtL N f (maskL pre)).drop i).flatMap fun a => (exts N f k (addS (maskL pre) a)).map fun t => a :: t).map fun t => nI (pre ++ t), ?_⟩
  rw [← List.map_append, ← List.flatMap_append, List.take_append_drop, exts]
theorem exLen {N : Nat} {f : Nat → Nat → Bool} {k : Nat} {pre : List Nat} (hN : N ≤ 6) (hk : k ≤ N) : (exL5 N f k pre).length ≤ 46656 := by
  unfold exL5
  rw [List.length_map]
  exact Nat.le_trans (waysPow (k := k)) (Nat.le_trans (Nat.pow_le_pow_left hN _) (Nat.le_trans (Nat.pow_le_pow_right (by decide) (Nat.le_trans hk hN)) (by decide)))
theorem exILen {N : Nat} {f : Nat → Nat → Bool} {k : Nat} {pre : List Nat} (hN : N ≤ 6) (hk : k + 1 ≤ N) (i : Nat) : (exI5 N f k pre i).length ≤ 46656 := by
  obtain ⟨r, hr⟩ := exIPre (N := N) (f := f) (k := k) (pre := pre) i
  have := exLen (f := f) (pre := pre) hN hk
  rw [hr, List.length_append] at this
  omega
/-- One more round. -/
theorem exRound {N : Nat} {f : Nat → Nat → Bool} {k : Nat} {pre : List Nat} {i most : Nat} (hi : i < (nxtL N f (maskL pre)).length) (hl : ((exI5 N f k pre i).take most).length < most) :
    (exI5 N f k pre i).take most ++ (exL5 N f k (pre ++ [(nxtL N f (maskL pre))[i]])).take (most - ((exI5 N f k pre i).take most).length) = (exI5 N f k pre (i + 1)).take most := by
  have h1 : (exI5 N f k pre i).length < most := by rw [List.length_take] at hl; omega
  rw [exIS hi, List.take_of_length_le (Nat.le_of_lt h1), List.take_append, List.take_of_length_le (Nat.le_of_lt h1)]
theorem exFull {N : Nat} {f : Nat → Nat → Bool} {k : Nat} {pre : List Nat} {i most : Nat} (hl : most ≤ ((exI5 N f k pre i).take most).length) : (exI5 N f k pre i).take most = (exL5 N f (k + 1) pre).take most := by
  obtain ⟨r, hr⟩ := exIPre (N := N) (f := f) (k := k) (pre := pre) i
  have h1 : most ≤ (exI5 N f k pre i).length := by rw [List.length_take] at hl; omega
  rw [hr, List.take_append_of_le_length h1]
/-- What extend gives. -/
def GivesE5 (ls : List (List Int)) (w : World) (e : Ending) (w' : World) : Prop := ∃ v vs, e = .returned v ∧ OwnL w' w.heap.size v vs ∧ IsL w' w.heap.size (fun _ => True) vs ls ∧ Below w.heap.size w w'
theorem nILen6 (l : List Nat) : (nI l).length = l.length := by unfold nI; exact List.length_map _
set_option maxRecDepth 100000 in
set_option maxHeartbeats 4000000 in
theorem rExt0 (N : Nat) (hN : N ≤ 6) (n : Nat) (A : Option Addr) (c : Nat) (pre : List Nat) (hp : pre.length = N) (most : Int) (B : Option Addr) (d : Nat) (w : World) (ho : Rd w B d (nI pre)) :
    Calls Tryd.prog 43 #[relV N A n c, .slice B N d, .int .i64 most] w (GivesE5 [nI pre] w) := by
  obtain ⟨W, hW⟩ : ∃ W, w.alloc (.cells #[.int .i64 N, .slice A n c] 24) = W := ⟨_, rfl⟩
  have hbW : Below w.heap.size w W := by rw [← hW]; exact belowAlloc w _
  have HB : Hid (BoxR W w.heap.size N (.slice A n c)) := by rw [← hW]; exact Lib.hid (BoxR.new w N _)
  obtain ⟨k0, k1, _, _⟩ := HB.out.facts
  obtain ⟨V, hV⟩ : ∃ V, W.alloc (.cells #[] 3) = V := ⟨_, rfl⟩
  have hbV : Below W.heap.size W V := by rw [← hV]; exact belowAlloc W _
  have hWs : W.heap.size = w.heap.size + 1 := by rw [← hW, World.size_alloc]
  have HO0 : Hid (OwnI V w.heap.size (.slice (some ⟨w.heap.size + 1, 0, none⟩) 0 0) []) := by rw [← hWs, ← hV]; exact Lib.hid (OwnI.made W w.heap.size hbW.size)
  have HR := Lib.hid ((ho.below hbW).below hbV)
  have hlen : (nI pre).length = N := by rw [nILen6, hp]
  have hle := ho.le
  have hmx := ho.max
  rw [hlen] at hle
  unfold maxLen at hmx
  have hq : ((N : Int) == (N : Int)) = true := by simp
  have HBV := Lib.hid (belowThen hbW hbV)
  have hszV : w.heap.size ≤ V.heap.size := (belowThen hbW hbV).size
  have hN5 : ([] : List Int).length + (nI pre).length ≤ 1000000 := by rw [hlen]; simp; omega
  clear hbW hbV ho hmx
  go_enter Tryd.func43, Tryd.ntmps43
  go_wp2_with (at_builtin; refine appI V rfl (.tmp 16) (.tmp 17) rfl w.heap.size _ [] rfl HO0.out B N d (nI pre) rfl hlen.symm HR.out hN5 hszV ?_; intro v1 w4 o1 _ b4; have o2 : OwnI w4 w.heap.size v1 (nI pre) := (by simpa using o1); obtain ⟨A1, c1, rfl, _, _⟩ := o2.rd; have HO4 := Lib.hid o2; have HB4 := Lib.hid b4; have hz4 := b4.size; have hz4' : w.heap.size ≤ w4.heap.size := Nat.le_trans hszV hz4; clear o1 o2 b4)
  go_ret
  have hx := HO4.out
  rw [hlen] at hx
  exact ⟨_, [_], rfl, ⟨rfl, .inr ⟨w4.heap.size, 1, #[_], rfl, hz4', heap_alloc_new w4 _, Nat.le_refl _, by unfold maxLen; omega, rfl, rfl⟩⟩, ⟨hx.alloc _, fun _ _ => trivial, trivial⟩, (HBV.out.trans HB4.out).alloc hz4' _⟩
theorem OwnI.rdAt5 {X : World} {base n c : Nat} {A : Option Addr} {l : List Int} (h : OwnI X base (.slice A n c) l) : Rd X A c l := by
  obtain ⟨A3, c3, e3, hr, _⟩ := h.rd
  injection e3 with e1 _ e2
  subst e1; subst e2
  exact hr
/-- What extend gives for prefixes that k numbers lack. -/
def ExtSaid5 (N : Nat) (l : Prs) (n : Nat) (A : Option Addr) (c : Nat) (w0 : World) (k : Nat) : Prop := ∀ (pre : List Nat) (m : Nat), pre.length = m → m + k = N → ∀ (most : Nat), 1 ≤ most → most ≤ 2000000 → ∀ (B : Option Addr) (d : Nat) (w : World), Below w0.heap.size w0 w → Rd w B d (nI pre) →
  Calls Tryd.prog 43 #[relV N A n c, .slice B m d, .int .i64 most] w (GivesE5 ((exL5 N (hasP l) k pre).take most) w)
theorem ext0 {N : Nat} (hN : N ≤ 6) {l : Prs} {n : Nat} {A : Option Addr} {c : Nat} {w0 : World} : ExtSaid5 N l n A c w0 0 := fun pre m hm hk most h1 _ B d w _ ho => by
  obtain rfl : m = N := hk
  have e : (exL5 m (hasP l) 0 pre).take most = [nI pre] := by
    unfold exL5
    rw [exts, List.map_cons, List.map_nil, List.append_nil, List.take_of_length_le (by simpa using h1)]
  rw [e]
  exact rExt0 m hN n A c pre hm most B d w ho
theorem wrapE {a b : Nat} (h : a ≤ 2000000) (hb : b ≤ a) : IntKind.i64.wrap ((a : Int) - b) = ((a - b : Nat) : Int) := by
  rw [IntKind.wrap_i64]
  omega
/-- What lies in memory while extend works. -/
structure ExSt (N : Nat) (l : Prs) (k : Nat) (pre : List Nat) (most : Nat) (W : World) (i : Nat) (v : Value) (Y : World) : Prop where
  ex : ∃ vs, OwnL Y W.heap.size v vs ∧ IsL Y W.heap.size (fun _ => True) vs ((exI5 N (hasP l) k pre i).take most)
  below : Below W.heap.size W Y
set_option maxRecDepth 100000 in
set_option maxHeartbeats 8000000 in
theorem extS {N : Nat} (hN : N ≤ 6) {l : Prs} {n : Nat} (hn : l.length = n) (hok : okR N l = true) {A : Option Addr} {c : Nat} {w0 : World} (ha : Rp w0 A c l) {k : Nat} (IH : ExtSaid5 N l n A c w0 k) : ExtSaid5 N l n A c w0 (k + 1) := fun pre m hm hk most h1 h2 B d w hb0 ho => by
  obtain ⟨W, hW⟩ : ∃ W, w.alloc (.cells #[.int .i64 N, .slice A n c] 24) = W := ⟨_, rfl⟩
  have hbW : Below w.heap.size w W := by rw [← hW]; exact belowAlloc w _
  have HB : Hid (BoxR W w.heap.size N (.slice A n c)) := by rw [← hW]; exact Lib.hid (BoxR.new w N _)
  obtain ⟨k0, k1, _, _⟩ := HB.out.facts
  have HK := Lib.hid (fun X (hX : Below W.heap.size W X) => (HB.out.below hX).facts)
  obtain ⟨V, hV⟩ : ∃ V, W.alloc (.cells #[] 25) = V := ⟨_, rfl⟩
  have hbV : Below W.heap.size W V := by rw [← hV]; exact belowAlloc W _
  have hWs : W.heap.size = w.heap.size + 1 := by rw [← hW, World.size_alloc]
  have HO0 : Hid (OwnL V W.heap.size (.slice (some ⟨w.heap.size + 1, 0, none⟩) 0 0) []) := by rw [← hWs, ← hV]; exact Lib.hid (OwnL.made W W.heap.size (Nat.le_refl _))
  have hlen : (nI pre).length = m := by rw [nILen6, hm]
  have hle := ho.le
  have hmx := ho.max
  rw [hlen] at hle
  unfold maxLen at hmx
  have hne : ((m : Int) == (N : Int)) = false := by simp; omega
  have HR := Lib.hid (fun X (hX : Below W.heap.size W X) => (ho.below hbW).below hX)
  have HNX := Lib.hid (fun X (hX : Below W.heap.size W X) => by
    have h := rNext N (by omega) l n hn A c (nI pre) m hlen B d X (((ha.below hb0).below hbW).below hX) ((ho.below hbW).below hX)
    rw [nxEq hok] at h
    exact h)
  have HIH := Lib.hid (fun (a : Nat) (mo : Nat) (h1 : 1 ≤ mo) (h2 : mo ≤ 2000000) D e X (hX : Below W.heap.size W X) (hr : Rd X D e (nI (pre ++ [a]))) => IH (pre ++ [a]) (m + 1) (by rw [List.length_append, hm]; rfl) (by omega) mo h1 h2 D e X (belowThen hb0 (belowThen hbW hX)) hr)
  have HBV := Lib.hid hbV
  have HBW := Lib.hid hbW
  have HVs := Lib.hid hV
  obtain ⟨nL, hnL⟩ : ∃ nL, nxtL N (hasP l) (maskL pre) = nL := ⟨_, rfl⟩
  rw [hnL] at HNX
  have HNL := Lib.hid hnL
  have hnl6 : nL.length ≤ 6 := by
    rw [← hnL]
    unfold nxtL
    exact Nat.le_trans (List.length_filter_le _ _) (by simpa using hN)
  clear ho hb0 ha hbW hbV hnL
  obtain ⟨v0, v1, _, _⟩ := HK.out V HBV.out
  go_enter Tryd.func43, Tryd.ntmps43
  go_wp2_with fail
  refine (HNX.out V HBV.out).mono ?_
  rintro e w1 ⟨v8, rfl, o8, b1⟩
  obtain ⟨A8, c8, rfl, r8, _⟩ := o8.rd
  have hl8 : (nI nL).length = nL.length := nILen6 nL
  rw [hl8]
  have hle8 := r8.le
  have hmx8 := r8.max
  rw [hl8] at hle8
  unfold maxLen at hmx8
  rw [hl8] at o8
  have H80 := Lib.hid (show OwnI w1 W.heap.size (.slice A8 nL.length c8) (nI nL) from ownMono o8 HBV.out.size)
  have HS0 := Lib.hid (show ExSt N l k pre most W 0 (.slice (some ⟨w.heap.size + 1, 0, none⟩) 0 0) w1 from ⟨⟨[], ownChg HO0.out (Chg.ofBelow b1 fun _ => True) fun _ _ => trivial, by rw [exI0]; simp [IsL]⟩, belowThen HBV.out b1⟩)
  have hszW : w.heap.size ≤ W.heap.size := HBW.out.size
  clear o8 r8 b1 k0 k1 hV hW hl8
  have h12 : 1 ≤ most := h1
  go_wp2_with fail
  go_loopw [7, 9] (fun v i Y => ∃ j : Nat, j ≤ nL.length ∧ i = .int .i64 j ∧ Hid (ExSt N l k pre most W j v Y) ∧ Hid (OwnI Y W.heap.size (.slice A8 nL.length c8) (nI nL))) (fun _ i _ => nL.length - (intOf i).toNat)
  case atStart => exact ⟨0, by omega, rfl, HS0, H80⟩
  case round =>
    obtain ⟨j, hj, rfl, HS, H8⟩ := hrel
    obtain ⟨vs, hO, hI⟩ := HS.out.ex
    obtain ⟨A7, c7, rfl, hr7, _⟩ := hO.rds
    have hql := hI.len
    have hqm : vs.length ≤ most := by rw [hql, List.length_take]; omega
    have hqs : vs.length ≤ 46656 := by
      have := exILen (f := hasP l) (pre := pre) hN (show k + 1 ≤ N by omega) j
      rw [hql, List.length_take]; omega
    obtain ⟨q, hq⟩ : ∃ q, vs.length = q := ⟨_, rfl⟩
    rw [hq] at hqm hqs hql hO ⊢
    have hle7 := hr7.le
    have hmx7 := hr7.max
    rw [hq] at hle7
    unfold maxLen at hmx7
    have HOO := Lib.hid hO
    have HII := Lib.hid hI
    have HQ := Lib.hid hq
    have HQL := Lib.hid hql
    clear hO hI hr7 hq hql
    by_cases hlt : j < nL.length
    · have hj8 : j < (nI nL).length := by rw [nILen6]; exact hlt
      by_cases hlq : q < most
      · obtain ⟨ad, hA8, _, hc8⟩ := H8.out.rdAt5.one hj8
        have hA8 : A8 = some ad := hA8
        subst hA8
        have ea : (nI nL)[j] = ((nL[j] : Nat) : Int) := List.getElem_map Int.ofNat
        rw [ea] at hc8
        obtain ⟨a, ha⟩ : ∃ a, nL[j] = a := ⟨_, rfl⟩
        rw [ha] at hc8
        have hcl0 := Lib.hid (fun X (hX : Below wr.heap.size wr X) => (hX.cell (p := ad.add j) (by rw [addBlock]; have := World.block_lt_of_cell? wr _ hc8; rwa [addBlock] at this)).trans hc8)
        have HAt := Lib.hid ha
        have hbW : Below W.heap.size W wr := HS.out.below
        have hbp := HR.out wr hbW
        have HRp := Lib.hid (fun X (hX : Below wr.heap.size wr X) => hbp.below hX)
        have hwrap := wrapE h2 (Nat.le_of_lt hlq)
        have hmo : 1 ≤ most - q ∧ most - q ≤ 2000000 := by omega
        have HBW2 := Lib.hid hbW
        obtain ⟨Y0, hY0⟩ : ∃ Y0, wr.alloc (.cells #[] 3) = Y0 := ⟨_, rfl⟩
        have hb0' : Below wr.heap.size wr Y0 := by rw [← hY0]; exact belowAlloc _ _
        have HY0 : Hid (OwnI Y0 wr.heap.size (.slice (some ⟨wr.heap.size, 0, none⟩) 0 0) []) := by rw [← hY0]; exact Lib.hid (OwnI.made wr wr.heap.size (Nat.le_refl _))
        have HRp0 := Lib.hid (HRp.out Y0 hb0')
        have HB0' := Lib.hid hb0'
        have hz0 := hb0'.size
        have hN5 : ([] : List Int).length + (nI pre).length ≤ 1000000 := by rw [hlen]; simp; omega
        have hj0 : (0 : Int) ≤ j := by omega
        have hj1 : (j : Int) < nL.length := by omega
        have hlq' : (q : Int) < most := by omega
        clear ea ha hbp hbW hb0'
        have hl5 : (nI pre ++ [(a : Int)]).length = m + 1 := by rw [List.length_append, hlen]; rfl
        go_wp2_with (at_builtin; first
          | (refine appI Y0 rfl (.tmp 36) (.tmp 37) rfl wr.heap.size _ [] rfl HY0.out B m d (nI pre) rfl hlen.symm HRp0.out hN5 hz0 ?_; intro v4 w4 o4 _ b4; have o4' : OwnI w4 wr.heap.size v4 (nI pre) := (by simpa using o4); obtain ⟨A4, c4, rfl, _, _⟩ := o4'.rd; rw [hlen] at o4'; have HO4 := Lib.hid o4'; have HB4 := Lib.hid (HB0'.out.trans b4); have hz4 := HB4.out.size; have hc4 := hcl0.out _ HB4.out; clear o4 o4' b4)
          | (refine appI _ rfl (.tmp 39) (.tmp 44) rfl wr.heap.size _ (nI pre) rfl (HO4.out.alloc _) (some ⟨_, 0, none⟩) 1 1 [(a : Int)] rfl rfl (litI _ _) (by rw [hlen, List.length_singleton]; omega) (by simp; omega) ?_; intro v5 w5 o5 _ b5; obtain ⟨A5, c5, rfl, r5, _⟩ := o5.rd; rw [hl5]; have HR5 := Lib.hid r5; have HB5 := Lib.hid (stepA HB4.out b5); obtain ⟨kk0, kk1, _, _⟩ := HK.out w5 (belowThen HBW2.out HB5.out); clear o5 b5 r5))
        refine (HIH.out a (most - q) hmo.1 hmo.2 A5 c5 w5 (belowThen HBW2.out HB5.out) (by have := HR5.out; unfold nI at this ⊢; rw [List.map_append]; exact this)).mono ?_
        rintro e w6 ⟨v9, vs9, rfl, o9, i9, b6⟩
        have B6 := belowThen HB5.out b6
        have hO6 : OwnL w6 W.heap.size (.slice A7 q c7) vs := ownChg HOO.out (Chg.ofBelow B6 fun _ => True) fun _ _ => trivial
        have hI6 := IsL.chg (Chg.ofBelow B6 fun _ => True) (fun _ _ _ => trivial) HII.out
        have hE6 : OwnI w6 W.heap.size (.slice (some ad) nL.length c8) (nI nL) := ownChg H8.out (Chg.ofBelow B6 fun _ => True) fun _ _ => trivial
        obtain ⟨A9, c9, rfl, r9, _⟩ := o9.rds
        have hl9 := i9.len
        have hl9b : vs9.length ≤ 46656 := by
          have := exLen (f := hasP l) (pre := pre ++ [a]) hN (show k ≤ N by omega)
          rw [hl9, List.length_take]; omega
        obtain ⟨q9, hq9⟩ : ∃ q, vs9.length = q := ⟨_, rfl⟩
        rw [hq9]
        have hzW6 : W.heap.size ≤ w6.heap.size := Nat.le_trans HBW2.out.size B6.size
        have hzW5 : W.heap.size ≤ w5.heap.size := Nat.le_trans HBW2.out.size HB5.out.size
        have HBW6 := Lib.hid (belowThen HBW2.out B6)
        have HO6 := Lib.hid hO6
        have HI6 := Lib.hid hI6
        have HE6 := Lib.hid hE6
        have HR9 := Lib.hid r9
        have HI9 := Lib.hid (IsL.base' hzW5 i9)
        have hbd : vs.length + vs9.length ≤ 10000000 := by have := HQ.out; omega
        have H1C := Lib.hid (IsL.oneCell i9)
        clear o9 r9 i9 b6 B6 hO6 hI6 hE6 hl9 kk0 kk1
        go_wp2_with (at_builtin; refine appL _ rfl (.tmp 46) (.tmp 53) rfl W.heap.size _ vs rfl HO6.out A9 q9 c9 vs9 rfl hq9.symm HR9.out H1C.out hbd hzW6 ?_; intro v7 w7 o7 g7 _; have HO7 := Lib.hid o7; have HG7 := Lib.hid g7; clear o7 g7)
        have hc7 := Chg.ofGrown (F := fun g => (Value.slice A7 q c7).ownBlock ≠ some g) HG7.out fun _ h => h
        have hIa := IsL.chg hc7 (fun g h _ => h.2) (IsL.apart HO6.out HI6.out)
        have hIb := IsL.chg hc7 (fun g h _ => h.2) (IsL.apart HO6.out HI9.out)
        have HEN := Lib.hid (show OwnI w7 W.heap.size (.slice (some ad) nL.length c8) (nI nL) from ownChg HE6.out hc7 fun g hg => ownApart HE6.out HO6.out (by decide) hg)
        have hbN : Below W.heap.size W w7 := HBW6.out.grown HG7.out hzW6 fun g hg => (World.ownsRow.lt HO6.out g hg).1
        have HN := Lib.hid (show ExSt N l k pre most W (j + 1) v7 w7 from ⟨⟨vs ++ vs9, HO7.out, by
          have hi : j < (nxtL N (hasP l) (maskL pre)).length := by rw [HNL.out]; exact hlt
          have hat : (nxtL N (hasP l) (maskL pre))[j] = a := by
            have := HAt.out
            simp only [HNL.out]
            exact this
          have hx := exRound (f := hasP l) (k := k) hi (most := most) (by rw [← HQL.out]; exact hlq)
          rw [hat, ← HQL.out] at hx
          rw [← hx]
          exact IsL.append (IsL.mono (fun _ _ => trivial) hIa) (IsL.mono (fun _ _ => trivial) hIb)⟩, hbN⟩)
        clear hc7 hIa hIb hbN
        all_goals first
          | (exfalso; omega)
          | go_roundw
        case rel => exact ⟨j + 1, by omega, by go_num, HN, HEN⟩
        case measure => simp [intOf]; omega
      · have hfull := exFull (N := N) (f := hasP l) (k := k) (pre := pre) (i := j) (most := most) (by rw [← HQL.out]; omega)
        have HX := Lib.hid (show OwnL wr w.heap.size (.slice A7 q c7) vs from ownMono HOO.out hszW)
        have HY := Lib.hid (IsL.base' hszW HII.out)
        rw [hfull] at HY
        have HZ := Lib.hid (belowThen HBW.out HS.out.below)
        have hj0 : (0 : Int) ≤ j := by omega
        have hj1 : (j : Int) < nL.length := by omega
        have hnq : ¬ ((q : Int) < most) := by omega
        clear hfull
        go_wp2
        all_goals first
          | (exfalso; omega)
          | (go_ret; exact ⟨_, vs, rfl, HX.out, HY.out, HZ.out⟩)
    · have hall := exIAll (N := N) (f := hasP l) (k := k) (pre := pre) (i := j) (by rw [HNL.out]; omega)
      have HX := Lib.hid (show OwnL wr w.heap.size (.slice A7 q c7) vs from ownMono HOO.out hszW)
      have HY := Lib.hid (IsL.base' hszW HII.out)
      rw [hall] at HY
      have HZ := Lib.hid (belowThen HBW.out HS.out.below)
      have hnj : ¬ ((j : Int) < nL.length) := by omega
      clear hall
      go_wp2
      all_goals first
        | (exfalso; omega)
        | (go_ret; exact ⟨_, vs, rfl, HX.out, HY.out, HZ.out⟩)
end Go.Proofs.YthigdniepifohaaDoor

namespace Go.Proofs.YthigdniepifohaaDoor
open Go Go.RowKit

theorem extAll5 {N : Nat} (hN : N ≤ 6) {l : Prs} {n : Nat} (hn : l.length = n) (hok : okR N l = true) {A : Option Addr} {c : Nat} {w0 : World} (ha : Rp w0 A c l) : ∀ k, ExtSaid5 N l n A c w0 k
  | 0 => ext0 hN
  | k + 1 => extS hN hn hok ha (extAll5 hN hn hok ha k)
theorem exLTop {N : Nat} {f : Nat → Nat → Bool} : exL5 N f N [] = (exts N f N 0).map nI := rfl
/-- A call gives a list of lists and an error. -/
def GivesA5 (ls : List (List Int)) (q : Nat) (E : Int) (w : World) (e : Ending) (w' : World) : Prop := ∃ A c, e = .returned (.tuple #[.slice A q c, .int .i64 E]) ∧ RdL w' A c ls ∧ Below w.heap.size w w'
theorem rdLNil (w : World) : RdL w none 0 [] := ⟨[], Rds.nil, rfl, fun i h => absurd h (by simp)⟩
set_option maxRecDepth 100000 in
set_option maxHeartbeats 4000000 in
theorem rAllNo (N : Int) (l : Prs) (n : Nat) (hn : l.length = n) (hc : acyR N l = false) (A : Option Addr) (c : Nat) (lim : Int) (w : World) (ha : Rp w A c l) :
    Calls Tryd.prog 18 #[relV N A n c, .int .i64 lim] w (GivesA5 [] 0 (errA N l) w) := by
  obtain ⟨W, hW⟩ : ∃ W, w.alloc (.cells #[.int .i64 N, .slice A n c] 24) = W := ⟨_, rfl⟩
  have hbW : Below w.heap.size w W := by rw [← hW]; exact belowAlloc w _
  have HB : Hid (BoxR W w.heap.size N (.slice A n c)) := by rw [← hW]; exact Lib.hid (BoxR.new w N _)
  obtain ⟨k0, k1, _, _⟩ := HB.out.facts
  have HV := Lib.hid (rWrong N l n hn A c W (ha.below hbW))
  have hne := errAn hc
  have HBW := Lib.hid hbW
  have HW := Lib.hid hW
  generalize errA N l = E at HV hne ⊢
  clear hbW hW ha hc
  go_enter Tryd.func18, Tryd.ntmps18
  go_wp2_with fail
  rw [HW.out]
  refine HV.out.mono ?_
  rintro e w1 ⟨rfl, b1⟩
  go_wp2
  go_ret2
  exact ⟨none, 0, rfl, rdLNil _, belowThen HBW.out b1⟩
set_option maxRecDepth 100000 in
set_option maxHeartbeats 4000000 in
theorem rAllRange (N : Int) (l : Prs) (n : Nat) (hn : l.length = n) (hc : acyR N l = true) (A : Option Addr) (c : Nat) (lim : Int) (hlim : lim < 1 ∨ 1048576 < lim) (w : World) (ha : Rp w A c l) :
    Calls Tryd.prog 18 #[relV N A n c, .int .i64 lim] w (GivesA5 [] 0 2 w) := by
  obtain ⟨W, hW⟩ : ∃ W, w.alloc (.cells #[.int .i64 N, .slice A n c] 24) = W := ⟨_, rfl⟩
  have hbW : Below w.heap.size w W := by rw [← hW]; exact belowAlloc w _
  have HB : Hid (BoxR W w.heap.size N (.slice A n c)) := by rw [← hW]; exact Lib.hid (BoxR.new w N _)
  obtain ⟨k0, k1, _, _⟩ := HB.out.facts
  have hV := rWrong N l n hn A c W (ha.below hbW)
  rw [errAz hc] at hV
  have HV := Lib.hid hV
  have HBW := Lib.hid hbW
  have HW := Lib.hid hW
  clear hbW hW ha hc hV
  go_enter Tryd.func18, Tryd.ntmps18
  go_wp2_with fail
  rw [HW.out]
  refine HV.out.mono ?_
  rintro e w1 ⟨rfl, b1⟩
  go_wp2_with fail
  all_goals first
    | (exfalso; omega)
    | (go_wp2; go_ret2; exact ⟨none, 0, rfl, rdLNil _, belowThen HBW.out b1⟩)
    | (go_ret2; exact ⟨none, 0, rfl, rdLNil _, belowThen HBW.out b1⟩)
set_option maxRecDepth 100000 in
set_option maxHeartbeats 4000000 in
theorem rAllIn (N : Nat) (hN : N ≤ 6) (l : Prs) (n : Nat) (hn : l.length = n) (hc : acyR N l = true) (A : Option Addr) (c : Nat) (lim : Nat) (h1 : 1 ≤ lim) (h2 : lim ≤ 1048576) (w : World) (ha : Rp w A c l) :
    Calls Tryd.prog 18 #[relV N A n c, .int .i64 lim] w (if lim < (exts N (hasP l) N 0).length then GivesA5 [] 0 4 w else GivesA5 ((exts N (hasP l) N 0).map nI) (exts N (hasP l) N 0).length 0 w) := by
  obtain ⟨W, hW⟩ : ∃ W, w.alloc (.cells #[.int .i64 N, .slice A n c] 24) = W := ⟨_, rfl⟩
  have hbW : Below w.heap.size w W := by rw [← hW]; exact belowAlloc w _
  have HB : Hid (BoxR W w.heap.size N (.slice A n c)) := by rw [← hW]; exact Lib.hid (BoxR.new w N _)
  obtain ⟨k0, k1, _, _⟩ := HB.out.facts
  have HK := Lib.hid (fun X (hX : Below W.heap.size W X) => (HB.out.below hX).facts)
  have hV := rWrong N l n hn A c W (ha.below hbW)
  rw [errAz hc] at hV
  have HV := Lib.hid hV
  have HE := Lib.hid (fun X (hX : Below W.heap.size W X) => by
    have h := extAll5 hN hn (acyOk hc) (ha.below hbW) N [] 0 rfl (by omega) (lim + 1) (by omega) (by omega) none 0 X hX Rd.nil
    rw [exLTop] at h
    exact h)
  obtain ⟨L, hL⟩ : ∃ L, exts N (hasP l) N 0 = L := ⟨_, rfl⟩
  rw [hL] at HE ⊢
  have hL6 : L.length ≤ 46656 := by rw [← hL]; exact waysSix hN
  have hwr : IntKind.i64.wrap ((lim : Int) + 1) = ((lim + 1 : Nat) : Int) := by rw [IntKind.wrap_i64]; omega
  have HBW := Lib.hid hbW
  have HW := Lib.hid hW
  clear hbW hW ha hc hV hL
  by_cases hlt : lim < L.length
  · rw [if_pos hlt]
    go_enter Tryd.func18, Tryd.ntmps18
    go_wp2_with fail
    rw [HW.out]
    refine HV.out.mono ?_
    rintro e w1 ⟨rfl, b1⟩
    clear k0 k1
    obtain ⟨k0, k1, _, _⟩ := HK.out w1 b1
    have HC := Lib.hid (HE.out w1 b1)
    go_wp2_with fail
    all_goals first
      | (exfalso; omega)
      | skip
    refine HC.out.mono ?_
    rintro e w2 ⟨v, vs, rfl, o2, i2, b2⟩
    obtain ⟨A2, c2, rfl, r2⟩ := RdL.ofOwn o2 i2
    have HX := Lib.hid (belowThen HBW.out (belowThen b1 b2))
    have hle := r2.le
    have hmx := r2.max
    unfold maxLen at hmx
    have hql : ((L.map nI).take (lim + 1)).length = min (lim + 1) L.length := by rw [List.length_take, List.length_map]
    have hq : ((L.map nI).take (lim + 1)).length = lim + 1 := by rw [hql]; omega
    rw [hq] at hle ⊢
    clear o2 i2 r2 b2 hql hq
    go_wp2
    all_goals first
      | (exfalso; omega)
      | (go_ret2; exact ⟨none, 0, rfl, rdLNil _, HX.out⟩)
  · rw [if_neg hlt]
    go_enter Tryd.func18, Tryd.ntmps18
    go_wp2_with fail
    rw [HW.out]
    refine HV.out.mono ?_
    rintro e w1 ⟨rfl, b1⟩
    clear k0 k1
    obtain ⟨k0, k1, _, _⟩ := HK.out w1 b1
    have HC := Lib.hid (HE.out w1 b1)
    go_wp2_with fail
    all_goals first
      | (exfalso; omega)
      | skip
    refine HC.out.mono ?_
    rintro e w2 ⟨v, vs, rfl, o2, i2, b2⟩
    obtain ⟨A2, c2, rfl, r2⟩ := RdL.ofOwn o2 i2
    have HX := Lib.hid (belowThen HBW.out (belowThen b1 b2))
    have hle := r2.le
    have hmx := r2.max
    unfold maxLen at hmx
    have hql : ((L.map nI).take (lim + 1)).length = min (lim + 1) L.length := by rw [List.length_take, List.length_map]
    have hq : (L.map nI).take (lim + 1) = L.map nI := List.take_of_length_le (by rw [List.length_map]; omega)
    have hq2 : (L.map nI).length = L.length := List.length_map _
    rw [hq] at r2 hle ⊢
    rw [hq2] at hle ⊢
    have HR := Lib.hid r2
    clear o2 i2 r2 b2 hql hq hq2
    go_wp2
    all_goals first
      | (exfalso; omega)
      | (go_ret2; exact ⟨_, _, rfl, HR.out, HX.out⟩)
theorem allBoth (N : Int) (hN : N ≤ 6) (l : Prs) (n : Nat) (hn : l.length = n) (hs : n ≤ 65536) (A : Option Addr) (c : Nat) (lim : Int) (w : World) (ha : Rp w A c l) (hT : Tbl w) : ∃ (ls : List (List Int)) (q : Nat) (E : Int), ls.length = q ∧
    (∀ X, Below w.heap.size w X → Calls Tryd.prog 17 #[relV N A n c, .int .i64 lim] X (GivesA5 ls q E X)) ∧ (∀ X, Below w.heap.size w X → Calls Tryd.prog 18 #[relV N A n c, .int .i64 lim] X (GivesA5 ls q E X)) := by
  cases hc : acyR N l with
  | false =>
    refine ⟨[], 0, errA N l, rfl, fun X hX => (iAllNo N l n hn hs hc A c lim X (ha.below hX)).mono ?_, fun X hX => rAllNo N l n hn hc A c lim X (ha.below hX)⟩
    rintro e w' ⟨rfl, hb⟩
    exact ⟨none, 0, rfl, rdLNil _, hb⟩
  | true =>
    have h0 : 0 ≤ N := by
      have := acyOk hc
      unfold okR at this
      exact (of_decide_eq_true this).1
    obtain ⟨m, rfl⟩ : ∃ m : Nat, N = m := ⟨N.toNat, by omega⟩
    by_cases hlim : lim < 1 ∨ 1048576 < lim
    · refine ⟨[], 0, 2, rfl, fun X hX => (iAllRange m l n hn hs hc A c lim hlim X (ha.below hX)).mono ?_, fun X hX => rAllRange m l n hn hc A c lim hlim X (ha.below hX)⟩
      rintro e w' ⟨rfl, hb⟩
      exact ⟨none, 0, rfl, rdLNil _, hb⟩
    · obtain ⟨lm, rfl⟩ : ∃ lm : Nat, lim = lm := ⟨lim.toNat, by omega⟩
      have hr := fun X (hX : Below w.heap.size w X) => rAllIn m (by omega) l n hn hc A c lm (by omega) (by omega) X (ha.below hX)
      by_cases hlt : lm < (exts m (hasP l) m 0).length
      · simp only [if_pos hlt] at hr
        refine ⟨[], 0, 4, rfl, fun X hX => (iAllMany m (by omega) l n hn hs hc A c lm (by omega) (by omega) (by omega) X (ha.below hX) (hT.below hX)).mono ?_, hr⟩
        rintro e w' ⟨rfl, hb⟩
        exact ⟨none, 0, rfl, rdLNil _, hb⟩
      · simp only [if_neg hlt] at hr
        refine ⟨_, _, 0, List.length_map _, fun X hX => (iAllOk m (by omega) l n hn hs hc A c lm (by omega) (by omega) (by omega) X (ha.below hX) (hT.below hX)).mono ?_, hr⟩
        rintro e w' ⟨v, vs, rfl, ho, hi, hb⟩
        obtain ⟨A2, c2, rfl, r2⟩ := RdL.ofOwn ho hi
        rw [List.length_map]
        exact ⟨A2, c2, rfl, r2, hb⟩
set_option maxRecDepth 100000 in
set_option maxHeartbeats 8000000 in
theorem lawAll (N : Int) (l : Prs) (n : Nat) (hn : l.length = n) (lim : Int) (A : Option Addr) (c : Nat) (w : World) (ha : Rp w A c l) (hT : Tbl w) :
    Calls Tryd.prog 4 #[relV N A n c, .int .i64 lim] w fun e w' => e = .returned (.bool true) ∧ Below w.heap.size w w' := by
  obtain ⟨W, hW⟩ : ∃ W, w.alloc (.cells #[.int .i64 N, .slice A n c] 24) = W := ⟨_, rfl⟩
  have hbW : Below w.heap.size w W := by rw [← hW]; exact belowAlloc w _
  have HB : Hid (BoxR W w.heap.size N (.slice A n c)) := by rw [← hW]; exact Lib.hid (BoxR.new w N _)
  obtain ⟨k0, k1, _, _⟩ := HB.out.facts
  have HK := Lib.hid (fun X (hX : Below W.heap.size W X) => (HB.out.below hX).facts)
  have HAW := Lib.hid (fun X (hX : Below W.heap.size W X) => awOk X ((hT.below hbW).below hX))
  have HFW := Lib.hid (lFew N n 6 A c W)
  have haW := ha.below hbW
  have hTW := hT.below hbW
  have HBW := Lib.hid hbW
  have HW := Lib.hid hW
  clear hbW hW ha hT
  cases hf : fewB N n 6 with
  | false =>
    rw [hf] at HFW
    clear hf
    go_enter Tryd.func4, Tryd.ntmps4
    go_wp2_with fail
    rw [HW.out]
    refine HFW.out.mono ?_
    rintro e w1 ⟨rfl, b1⟩
    go_wp2_with fail
    refine (HAW.out w1 b1).mono ?_
    rintro e w2 ⟨rfl, b2⟩
    go_wp2
    go_ret
    exact ⟨rfl, belowThen HBW.out (belowThen b1 b2)⟩
  | true =>
    rw [hf] at HFW
    unfold fewB at hf
    simp only [Bool.and_eq_true, decide_eq_true_eq] at hf
    obtain ⟨ls, q, E, hq, hF1, hF2⟩ := allBoth N (by omega) l n hn (by omega) A c lim W haW hTW
    have HF1 := Lib.hid hF1
    have HF2 := Lib.hid hF2
    have HQ := Lib.hid hq
    clear hf hq hF1 hF2 haW hTW
    go_enter Tryd.func4, Tryd.ntmps4
    go_wp2_with fail
    rw [HW.out]
    refine HFW.out.mono ?_
    rintro e w1 ⟨rfl, b1⟩
    clear k0 k1
    obtain ⟨k0, k1, _, _⟩ := HK.out w1 b1
    go_wp2_with fail
    refine (HF1.out w1 b1).mono ?_
    rintro e w2 ⟨A1, c1, rfl, r1, b2⟩
    have B2 := belowThen b1 b2
    clear k0 k1
    obtain ⟨k0, k1, _, _⟩ := HK.out w2 B2
    go_wp2_with fail
    refine (HF2.out w2 B2).mono ?_
    rintro e w3 ⟨A2, c2, rfl, r2, b3⟩
    have B3 := belowThen B2 b3
    have HR1 := Lib.hid (r1.below b3)
    have HR2 := Lib.hid r2
    clear k0 k1 r1 r2
    go_wp2_with fail
    refine (HAW.out w3 B3).mono ?_
    rintro e w4 ⟨rfl, b4⟩
    have B4 := belowThen B3 b4
    have HLI := Lib.hid (rListsI ls q HQ.out A1 A2 c1 c2 w4 (HR1.out.below b4) (HR2.out.below b4))
    go_wp2_with fail
    refine HLI.out.mono ?_
    rintro e w5 ⟨rfl, qd, rfl⟩
    go_wp2
    go_ret
    exact ⟨rfl, belowThen HBW.out (belowDrewN B4 qd)⟩
end Go.Proofs.YthigdniepifohaaDoor

namespace Go.Proofs.YthigdniepifohaaDoor.linextAll
open Go Go.ChangeShapes Go.WideShapes Go.ChangeAt Go.WideMaps Go.WideElems Go.RowKit Go.ChangeMaps

set_option maxRecDepth 100000 in
theorem lifted (os : Os) (started : os.Started) (H : Type) (enc : TypeId × Value → H) :
    ReturnsInHanded {} Tryd.checked os 4 .any (fun w args => (Rows.linextAllSpec.pre enc Tryd.prog Tryd.f4 [] false w args ∧ laidMetH Tryd.prog laidT w) ∧ sizedMet enc Tryd.prog Tryd.f4 (OpenSpec.ofChange Rows.linextAllSpec) false w args)
      (Rows.linextAllSpec.post enc Tryd.prog Tryd.f4 false true false false) := by
  refine returnsInHanded_of_change_and (C := Tryd.checked) (X := fun w _ => laidMetH Tryd.prog laidT w) (fun _ _ _ hh h => h.of_heap hh) ownKnob0 started (by kernel_rfl) Tryd.func4
    (ChangeSpec.witness_shaped (enc := enc) (C := Tryd.checked) (os := os) (X := fun w _ => laidMetH Tryd.prog laidT w) false (World.doorLaid Tryd.prog 400 os) #[.agg #[.int .i64 0, .slice none 0 0], .int .i64 0] 8 rfl (World.shaped_of_RefB (by kernel_rfl) (by kernel_rfl)) (by kernel_rfl) (by kernel_rfl) (by kernel_rfl) (doorT os _)) ?_
  intro W base args ds gs before hval0 hW _ _ hL _
  have hval : ∀ (j : Nat) t v, Tryd.f4.params[j]? = some t → args[j]? = some v → Value.okWide Tryd.prog W .any base t v := hval0
  have hW' := hW
  obtain ⟨p, q, hA0, hV, rfl, hfz, hnd⟩ := hW
  have hA : DataW.TrodAll enc Tryd.prog W 0 (fun _ => true) true Tryd.f4.params.toList args.toList ds p := hA0
  rw [Tryd.params4] at hA hval
  obtain ⟨v0, vs0, d0, ds0, p0, q0, hargs, rfl, rfl, h0, r0⟩ := trodAll_cons hA
  obtain ⟨v1, vs1, d1, ds1, p1, q1, rfl, rfl, rfl, h1, r1⟩ := trodAll_cons r0
  obtain ⟨rfl, rfl, rfl⟩ := trodAll_nil r1
  obtain rfl : args = #[v0, v1] := by cases args; simp_all
  obtain ⟨rfl, rfl⟩ := trodVars_none hV
  have g0 := h0
  have g1 := h1
  obtain ⟨N0, A0, n0, c0, l0, rfl, e0, rp0⟩ := openRel (hval 0 24 v0 rfl rfl) h0
  obtain ⟨a1, rfl, rfl, rfl, w1⟩ := open_int Tryd.underlying3 (hval 1 3 v1 rfl rfl) h1
  clear hA0 hval0
  simp only [List.append_nil] at hW'
  refine (lawAll N0 l0 n0 e0 a1 A0 c0 W rp0 (metT hL)).mono fun e W' ⟨he, hb⟩ => ?_
  subst he
  exact ⟨_, rfl, _, _, _, [], _, [], hW', trodAll_cons_mk (shut_bool Tryd.underlying4 _) trodAll_mk0, trodAll_cons_mk (Below.trod laidOut0 (by kernel_rfl) (of_decide_eq_true (by kernel_rfl)) g0 hb (fun y hy => by simpa using hW'.lt y (by simp [hy]))) (trodAll_cons_mk (Below.trod laidOut0 (by kernel_rfl) (of_decide_eq_true (by kernel_rfl)) g1 hb (fun y hy => by cases hy)) (trodAll_mk0)), rfl, hb.frame _, fun h => by cases h⟩

theorem over : Rows.linextAllRow.holds Tryd.pinned (OpenSpec.ofChange Rows.linextAllSpec) :=
  OpenClaim.holds_of_wide 4 Tryd.f4 rfl rfl rfl rfl rfl rfl rfl ⟨rfl, rfl, rfl, rfl, rfl⟩ rfl rfl rfl rfl rfl (by kernel_rfl) Tryd.func4 (by kernel_rfl)
    (of_decide_eq_true (by kernel_rfl)) (by unfold Func.isWrapper; first | (rw [if_pos (by decide +kernel)]; kernel_rfl) | (rw [if_neg (by decide +kernel)]; exact ⟨rfl, rfl⟩))
    (fun os started H enc _ => lifted os started H enc)

theorem proved : Rows.LinextAllCardSaid :=
  Claim7.holds_tied_plain_at .later [] [.data] true Rows.linextAllCard.stood.harness false
    over (fun _ h => by cases h) (by kernel_rfl) (fun _ h => by cases h) linextAll_row_tie rfl ⟨rfl, rfl⟩ (by kernel_rfl) rfl
    (fun f fn hf hfn => by
      obtain rfl : f = 4 := Option.some.inj ((show Tryd.prog.funcNamed Rows.linextAllRow.func = some 4 by kernel_rfl).symm.trans hf) |>.symm
      obtain rfl : fn = Tryd.f4 := (Option.some.inj (Tryd.func4.symm.trans hfn)).symm
      exact ⟨by kernel_rfl, fun j t ht => by
        rw [Tryd.params4] at ht
        have hm : t ∈ [24, 3] := by simpa using Array.mem_of_getElem? ht
        have hall : ([24, 3].all fun u => !Tryd.prog.wantsStandIn u) = true := by kernel_rfl
        exact (show Tryd.prog.wantsStandIn t = false by simpa using List.all_eq_true.1 hall t hm)⟩)
    (by kernel_rfl)
#print axioms proved
end Go.Proofs.YthigdniepifohaaDoor.linextAll
