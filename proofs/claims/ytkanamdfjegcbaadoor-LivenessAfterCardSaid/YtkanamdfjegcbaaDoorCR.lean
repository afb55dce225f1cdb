/-
  The contract of the reference's comparison of two slices of integers: it tells whether they hold the same elements.
-/
import Derived.Test.YtkanamdfjegcbaaDoorCOwn
import Derived.Test.YtkanamdfjegcbaaDoorProg
import Derived.Test.YtkanamdfjegcbaaDoorRows
import Derived.Deep.QuietTactic
import Derived.BigQuiet
import Derived.Outline
import Derived.LoopTactic
import Derived.Test.YtkanamdfjegcbaaDoorCPure
namespace Go.Proofs.YtkanamdfjegcbaaDoor
open Go.RowKit

/-- Are the two lists equal? -/
def eqB (l m : List Int) : Bool := decide (l = m)
theorem eqB_yes {l m : List Int} (h : l = m) : eqB l m = true := by simp [eqB, h]
theorem eqB_len {l m : List Int} (h : l.length ≠ m.length) : eqB l m = false := by
  simp only [eqB, decide_eq_false_iff_not]
  intro e; rw [e] at h; exact h rfl
theorem eqB_at {l m : List Int} {k : Nat} (h1 : k < l.length) (h2 : k < m.length) (h : l[k] ≠ m[k]) : eqB l m = false := by
  simp only [eqB, decide_eq_false_iff_not]
  intro e; subst e; exact h rfl
theorem eqB_all {l m : List Int} {k : Nat} (hl : l.length = m.length) (hk : k = l.length) (h : l.take k = m.take k) : eqB l m = true := by
  subst hk
  rw [List.take_of_length_le (Nat.le_refl _), List.take_of_length_le (by omega)] at h
  exact eqB_yes h
theorem takeEqSucc {l m : List Int} {k : Nat} (h1 : k < l.length) (h2 : k < m.length) (h : l.take k = m.take k) (e : l[k] = m[k]) : l.take (k + 1) = m.take (k + 1) := by
  rw [List.take_succ_eq_append_getElem h1, List.take_succ_eq_append_getElem h2, h, e]

set_option maxHeartbeats 400000 in
theorem rInts (l m : List Int) (r : Bool) (hr : eqB l m = r) (A B : Option Addr) (c d : Nat) (w : World) (ha : Rd w A c l) (hb : Rd w B d m) :
    Calls Tryd.prog 21 #[.slice A l.length c, .slice B m.length d] w fun e w' => e = .returned (.bool r) ∧ ∃ n, w' = w.drewN n := by
  have hla := ha.le
  have hlb := hb.le
  have hca := ha.max
  have hcb := hb.max
  unfold maxLen at hca hcb
  have HA := Lib.hid ha; clear ha
  have HB := Lib.hid hb; clear hb
  have HR := Lib.hid hr; clear hr
  by_cases hl : l.length = m.length
  · go_enter Tryd.func21, Tryd.ntmps21
    have hlt : ((l.length : Int) != (m.length : Int)) = false := by simp [hl]
    have HL := Lib.hid hl; clear hl
    go_wp2
    go_loopw [5] (fun i wr => ∃ k : Nat, k ≤ l.length ∧ i = .int .i64 k ∧ Hid (l.take k = m.take k) ∧ ∃ n, wr = w.drewN n) (fun i _ => l.length - (intOf i).toNat)
    case atStart => exact ⟨0, Nat.zero_le _, rfl, Lib.hid rfl, 0, rfl⟩
    case round =>
      obtain ⟨k, hk, rfl, HT, n, rfl⟩ := hrel
      by_cases hlt : k < l.length
      · have hlm : k < m.length := by have := HL.out; omega
        obtain ⟨ad, rfl, _, hc⟩ := HA.out.one hlt
        obtain ⟨bd, rfl, _, hd⟩ := HB.out.one hlm
        by_cases hxy : l[k] = m[k]
        · have HX := Lib.hid (takeEqSucc hlt hlm HT.out hxy)
          rw [hxy] at hc
          generalize m[k] = y at hc hd
          clear hxy
          have hyy : (y != y) = false := by simp
          go_wp2
          go_quiet (fail)
          all_goals go_wp2
          all_goals go_roundw
          case rel => exact ⟨k + 1, by omega, by go_num, HX, _, rfl⟩
          case measure => simp [intOf]; omega
        · have HX := Lib.hid (HR.out.symm.trans (eqB_at hlt hlm hxy))
          generalize l[k] = x at *
          generalize m[k] = y at *
          have hyy : (x != y) = true := by simpa using hxy
          go_wp2
          go_quiet (fail)
          go_wp2
          go_ret
          exact ⟨retB HX.out.symm, _, World.drewN_drewN _ _ _⟩
      · have HX := Lib.hid (HR.out.symm.trans (eqB_all HL.out (by omega) HT.out))
        go_wp2
        go_ret
        exact ⟨retB HX.out.symm, _, rfl⟩
  · have HX := Lib.hid (HR.out.symm.trans (eqB_len hl))
    have hne : ((l.length : Int) != (m.length : Int)) = true := by simp; omega
    go_enter Tryd.func21, Tryd.ntmps21
    go_wp2
    go_ret
    exact ⟨retB HX.out.symm, 0, rfl⟩
end Go.Proofs.YtkanamdfjegcbaaDoor

namespace Go.Proofs.YtkanamdfjegcbaaDoor
open Go.RowKit

set_option maxHeartbeats 400000 in
theorem rHas (l : List Int) (n : Int) (r : Bool) (hr : memB l n = r) (A : Option Addr) (c : Nat) (w : World) (ha : Rd w A c l) :
    Calls Tryd.prog 49 #[.slice A l.length c, .int .i64 n] w fun e w' => e = .returned (.bool r) ∧ w = w' := by
  have hla := ha.le
  have hca := ha.max
  unfold maxLen at hca
  have HA := Lib.hid ha; clear ha
  have HR := Lib.hid hr; clear hr
  go_enter Tryd.func49, Tryd.ntmps49
  go_wp2
  go_loop [5] (fun i => ∃ k : Nat, k ≤ l.length ∧ i = .int .i64 k ∧ Hid (∀ x ∈ l.take k, x ≠ n)) (fun i => l.length - (intOf i).toNat)
  case atStart => exact ⟨0, Nat.zero_le _, rfl, Lib.hid (by simp)⟩
  case round =>
    obtain ⟨k, hk, rfl, HT⟩ := hrel
    by_cases hlt : k < l.length
    · obtain ⟨ad, rfl, _, hc⟩ := HA.out.one hlt
      by_cases hx : l[k] = n
      · have HX := Lib.hid (HR.out.symm.trans (memB_yes hlt hx))
        rw [hx] at hc
        clear hx
        have hyy : (n == n) = true := by simp
        go_wp2
        go_ret
        exact ⟨retB HX.out.symm, rfl⟩
      · have HX := Lib.hid (neTakeSucc hlt HT.out hx)
        generalize l[k] = x at *
        have hyy : (x == n) = false := by simpa using hx
        go_wp2
        go_round
        case rel => exact ⟨k + 1, by omega, by go_num, HX⟩
        case measure => simp [intOf]; omega
    · have HX := Lib.hid (HR.out.symm.trans (memB_no (by omega) HT.out))
      go_wp2
      go_ret
      exact ⟨retB HX.out.symm, rfl⟩

set_option maxHeartbeats 400000 in
theorem rInsert (l : List Int) (n : Int) (r : List Int) (hr : ins n l = r) (hs : l.length ≤ 65536) (A : Option Addr) (c : Nat) (w : World) (ha : Rd w A c l) :
    Calls Tryd.prog 55 #[.slice A l.length c, .int .i64 n] w (GivesL r w) := by
  have hla := ha.le
  have hca := ha.max
  unfold maxLen at hca
  have HA := Lib.hid ha; clear ha
  have HR := Lib.hid hr; clear hr
  have hO := Lib.hid (OwnI.made w w.heap.size (Nat.le_refl _))
  go_enter Tryd.func55, Tryd.ntmps55
  go_wp2
  go_loop [5] (fun i => ∃ k : Nat, k ≤ l.length ∧ i = .int .i64 k ∧ Hid (∀ x ∈ l.take k, x < n)) (fun i => l.length - (intOf i).toNat)
  case atStart => exact ⟨0, Nat.zero_le _, rfl, Lib.hid (by simp)⟩
  case round =>
    obtain ⟨k, hk, rfl, HT⟩ := hrel
    by_cases hgo : ∃ h : k < l.length, l[k] < n
    · obtain ⟨hlt, hx⟩ := hgo
      obtain ⟨ad, rfl, _, hc⟩ := HA.out.one hlt
      have HX := Lib.hid (ltTakeSucc hlt HT.out hx)
      generalize l[k] = x at *
      go_wp2
      go_round
      case rel => exact ⟨k + 1, by omega, by go_num, HX⟩
      case measure => simp [intOf]; omega
    · have HX := Lib.hid (HR.out.symm.trans (insAt HT.out (fun h hh => hgo ⟨h, hh⟩) hk).symm)
      have HK := Lib.hid ((HA.out.below ((Below.refl _ w).alloc (Nat.le_refl _) (.cells #[] 3))).take k hk)
      have hkl : (l.take k).length = k := by rw [List.length_take]; omega
      have HKL := Lib.hid hkl; clear hkl
      by_cases hlt : k < l.length
      · obtain ⟨ad, rfl, _, hc⟩ := HA.out.one hlt
        have hx : ¬ l[k] < n := fun hh => hgo ⟨hlt, hh⟩
        generalize l[k] = x at *
        have hck : ¬ c = k := by omega
        have HD := HA.out.drop k hk
        rw [if_neg hck] at HD
        have HD' := Lib.hid HD; clear HD
        go_wp2_with (first
          | (at_builtin; refine appI _ rfl (.tmp 21) (.tmp 24) rfl w.heap.size _ [] rfl hO.out _ k c (l.take k) rfl HKL.out.symm HK.out (by simp; omega) (by simp) ?_; intro v1 w1 o1 _ b1; have B1 := stepA0 b1)
          | (at_builtin; refine appI _ rfl (.tmp 26) (.tmp 28) rfl w.heap.size _ _ rfl (o1.alloc _) (some ⟨w1.heap.size, 0, none⟩) 1 1 [n] rfl rfl (Rd.lit w1 [n] 3 (by simp)) (by simp; omega) (by have := B1.size; simp; omega) ?_; intro v2 w2 o2 _ b2; have B2 := stepA B1 b2)
          | (at_builtin; refine appI _ rfl (.tmp 30) (.tmp 33) rfl w.heap.size _ _ rfl o2 _ _ _ (l.drop k) rfl (by simp; done) (HD'.out.below B2) (by simp; omega) B2.size ?_; intro v3 w3 o3 _ b3; have B3 := B2.trans b3))
        rw [List.nil_append, ← HX.out] at o3
        obtain ⟨A3, c3, rfl, r3, _⟩ := o3.rd
        go_ret
        exact ⟨A3, c3, rfl, r3, B3⟩
      · have hkl : k = l.length := by omega
        subst hkl
        clear hgo
        have hz : (l.length - l.length : Nat) = 0 := by omega
        have HY := Lib.hid (show r = l.take l.length ++ [n] ++ [] by rw [HX.out, List.drop_length]; done)
        by_cases hck : c = l.length
        · have HD := HA.out.drop l.length hk
          rw [if_pos hck] at HD
          subst hck
          rw [Nat.sub_self, List.drop_length] at HD
          have HD' := Lib.hid HD; clear HD
          go_wp2_with (first
            | (at_builtin; refine appI _ rfl (.tmp 21) (.tmp 24) rfl w.heap.size _ [] rfl hO.out _ l.length l.length (l.take l.length) rfl HKL.out.symm HK.out (by simp; omega) (by simp) ?_; intro v1 w1 o1 _ b1; have B1 := stepA0 b1)
            | (at_builtin; refine appI _ rfl (.tmp 26) (.tmp 28) rfl w.heap.size _ _ rfl (o1.alloc _) (some ⟨w1.heap.size, 0, none⟩) 1 1 [n] rfl rfl (Rd.lit w1 [n] 3 (by simp)) (by simp; omega) (by have := B1.size; simp; omega) ?_; intro v2 w2 o2 _ b2; have B2 := stepA B1 b2)
            | (at_builtin; refine appI _ rfl (.tmp 30) (.tmp 33) rfl w.heap.size _ _ rfl o2 _ _ _ [] rfl (by simp; done) (HD'.out.below B2) (by simp; omega) B2.size ?_; intro v3 w3 o3 _ b3; have B3 := B2.trans b3))
          rw [List.nil_append, ← HY.out] at o3
          obtain ⟨A3, c3, rfl, r3, _⟩ := o3.rd
          go_ret
          exact ⟨A3, c3, rfl, r3, B3⟩

        · have HD := HA.out.drop l.length hk
          rw [if_neg hck] at HD
          rw [List.drop_length] at HD
          have HD' := Lib.hid HD; clear HD
          go_wp2_with (first
            | (at_builtin; refine appI _ rfl (.tmp 21) (.tmp 24) rfl w.heap.size _ [] rfl hO.out _ l.length c (l.take l.length) rfl HKL.out.symm HK.out (by simp; omega) (by simp) ?_; intro v1 w1 o1 _ b1; have B1 := stepA0 b1)
            | (at_builtin; refine appI _ rfl (.tmp 26) (.tmp 28) rfl w.heap.size _ _ rfl (o1.alloc _) (some ⟨w1.heap.size, 0, none⟩) 1 1 [n] rfl rfl (Rd.lit w1 [n] 3 (by simp)) (by simp; omega) (by have := B1.size; simp; omega) ?_; intro v2 w2 o2 _ b2; have B2 := stepA B1 b2)
            | (at_builtin; refine appI _ rfl (.tmp 30) (.tmp 33) rfl w.heap.size _ _ rfl o2 _ _ _ [] rfl (by simp; done) (HD'.out.below B2) (by simp; omega) B2.size ?_; intro v3 w3 o3 _ b3; have B3 := B2.trans b3))
          rw [List.nil_append, ← HY.out] at o3
          obtain ⟨A3, c3, rfl, r3, _⟩ := o3.rd
          go_ret
          exact ⟨A3, c3, rfl, r3, B3⟩


set_option maxHeartbeats 400000 in
theorem rMake (l : List Int) (r : List Int) (hr : mk l = r) (hs : l.length ≤ 65536) (A : Option Addr) (c : Nat) (w : World) (ha : Rd w A c l) :
    Calls Tryd.prog 24 #[.slice A l.length c] w (GivesL r w) := by
  have hla := ha.le
  have hca := ha.max
  unfold maxLen at hca
  have HA := Lib.hid ha; clear ha
  have HR := Lib.hid hr; clear hr
  go_enter Tryd.func24, Tryd.ntmps24
  go_wp2
  go_loopw [3, 4] (fun o i wr => ∃ (k : Nat) (A' : Option Addr) (c' : Nat) (s : List Int), k ≤ l.length ∧ i = .int .i64 k ∧ o = .slice A' s.length c' ∧ Hid (mk (l.take k) = s) ∧ Rd wr A' c' s ∧ Below w.heap.size w wr) (fun _ i _ => l.length - (intOf i).toNat)
  case atStart => exact ⟨0, some ⟨w.heap.size, 0, none⟩, 0, [], Nat.zero_le _, rfl, rfl, Lib.hid rfl, Rd.lit w [] 3 (by simp), (Below.refl _ _).alloc (Nat.le_refl _) _⟩
  case round =>
    obtain ⟨k, A', c', s, hk, rfl, rfl, HT, rs, hb⟩ := hrel
    have hsl : s.length ≤ k := by
      have := lenMk (l.take k); rw [HT.out, List.length_take] at this; omega
    by_cases hlt : k < l.length
    · obtain ⟨ad, rfl, _, hc⟩ := (HA.out.below hb).one hlt
      have HM := Lib.hid ((mkSucc hlt).trans (by rw [HT.out]))
      rcases hx : memB s l[k] with _ | _
      · have HX := Lib.hid (HM.out.trans (addNo hx))
        have HY := Lib.hid hx; clear hx
        generalize l[k] = x at *
        go_wp2_with fail
        refine (rHas s x false HY.out A' c' _ rs).mono ?_
        rintro e w' ⟨rfl, rfl⟩
        go_wp2_with fail
        refine (rInsert s x (ins x s) rfl (by omega) A' c' _ rs).mono ?_
        rintro e w1 ⟨A1, c1, rfl, r1, b1⟩
        go_wp2
        go_roundw
        case rel => exact ⟨k + 1, A1, c1, _, by omega, by go_num, rfl, HX, r1, belowThen hb b1⟩
        case measure => simp [intOf]; omega
      · have HX := Lib.hid (HM.out.trans (addYes hx))
        have HY := Lib.hid hx; clear hx
        generalize l[k] = x at *
        go_wp2_with fail
        refine (rHas s x true HY.out A' c' _ rs).mono ?_
        rintro e w' ⟨rfl, rfl⟩
        go_wp2
        go_roundw
        case rel => exact ⟨k + 1, A', c', _, by omega, by go_num, rfl, HX, rs, hb⟩
        case measure => simp [intOf]; omega
    · have hkl : k = l.length := by omega
      have e : r = s := by rw [← HR.out, ← HT.out, hkl, List.take_length]
      have HE := Lib.hid e; clear e
      clear hkl
      go_wp2
      go_ret
      rw [HE.out]
      exact ⟨A', c', rfl, rs, hb⟩

theorem rMakeN (l : List Int) (n : Nat) (hn : n = l.length) (r : List Int) (hr : mk l = r) (hs : l.length ≤ 65536) (A : Option Addr) (c : Nat) (w : World) (ha : Rd w A c l) :
    Calls Tryd.prog 24 #[.slice A n c] w (GivesL r w) := by
  subst hn; exact rMake l r hr hs A c w ha

end Go.Proofs.YtkanamdfjegcbaaDoor

namespace Go.Proofs.YtkanamdfjegcbaaDoor
open Go.RowKit

set_option maxHeartbeats 400000 in
theorem rUnion (l m : List Int) (r : List Int) (hr : uni l m = r) (hs : l.length ≤ 30000) (hs' : m.length ≤ 30000) (A B : Option Addr) (c d : Nat) (w : World) (ha : Rd w A c l) (hb : Rd w B d m) :
    Calls Tryd.prog 73 #[.slice A l.length c, .slice B m.length d] w (GivesL r w) := by
  have HA := Lib.hid ha; clear ha
  have HB := Lib.hid hb; clear hb
  have HR := Lib.hid hr; clear hr
  have hO := Lib.hid (OwnI.made w w.heap.size (Nat.le_refl _))
  have hA0 := Lib.hid (HA.out.below ((Below.refl _ w).alloc (Nat.le_refl _) (.cells #[] 3)))
  go_enter Tryd.func73, Tryd.ntmps73
  go_wp2_with (first
    | (at_builtin; refine appI _ rfl (.tmp 6) (.tmp 7) rfl w.heap.size _ [] rfl hO.out A l.length c l rfl rfl hA0.out (by simp; omega) (by simp) ?_; intro v1 w1 o1 _ b1; have B1 := stepA0 b1)
    | (at_builtin; refine appI _ rfl (.tmp 9) (.tmp 10) rfl w.heap.size _ _ rfl o1 B m.length d m rfl rfl (HB.out.below B1) (by simp; omega) B1.size ?_; intro v2 w2 o2 _ b2; have B2 := B1.trans b2; rw [List.nil_append] at o2; obtain ⟨A2, c2, rfl, r2, _⟩ := o2.rd)
    | fail)
  refine (rMakeN (l ++ m) _ (by simp) r HR.out (by simp; omega) A2 c2 _ r2).mono ?_
  rintro e w3 ⟨A3, c3, rfl, r3, b3⟩
  go_wp2
  go_ret
  exact ⟨A3, c3, rfl, r3, belowThen B2 b3⟩

set_option maxHeartbeats 400000 in
theorem rMinus (l m : List Int) (r : List Int) (hr : min' l m = r) (hs : l.length ≤ 30000) (A B : Option Addr) (c d : Nat) (w : World) (ha : Rd w A c l) (hb : Rd w B d m) :
    Calls Tryd.prog 111 #[.slice A l.length c, .slice B m.length d] w (GivesL r w) := by
  have hla := ha.le
  have hca := ha.max
  unfold maxLen at hca
  have HA := Lib.hid ha; clear ha
  have HB := Lib.hid hb; clear hb
  have HR := Lib.hid hr; clear hr
  have hO := Lib.hid (OwnI.made w w.heap.size (Nat.le_refl _))
  go_enter Tryd.func111, Tryd.ntmps111
  go_wp2
  go_loopw [5, 6] (fun o i wr => ∃ (k : Nat) (s : List Int), k ≤ l.length ∧ i = .int .i64 k ∧ Hid (pick false (l.take k) m = s) ∧ OwnI wr w.heap.size o s ∧ Below w.heap.size w wr) (fun _ i _ => l.length - (intOf i).toNat)
  case atStart => exact ⟨0, [], Nat.zero_le _, rfl, Lib.hid rfl, hO.out, (Below.refl _ _).alloc (Nat.le_refl _) _⟩
  case round =>
    obtain ⟨k, s, hk, rfl, HT, os, hb⟩ := hrel
    have hsl : s.length ≤ k := by
      have := lenPick false (l.take k) m; rw [HT.out, List.length_take] at this; omega
    by_cases hlt : k < l.length
    · obtain ⟨ad, rfl, _, hc⟩ := (HA.out.below hb).one hlt
      rcases hx : memB m l[k] with _ | _
      · have HX := Lib.hid ((pickYes (p := false) hlt hx).trans (by rw [HT.out]))
        have HY := Lib.hid hx; clear hx
        generalize l[k] = x at *
        go_wp2_with fail
        refine (rHas m x false HY.out B d _ (HB.out.below hb)).mono ?_
        rintro e w1 ⟨rfl, rfl⟩
        go_wp2_with (at_builtin; refine appI _ rfl (.tmp 21) (.tmp 26) rfl w.heap.size _ _ rfl (os.alloc _) (some ⟨_, 0, none⟩) 1 1 [x] rfl rfl (Rd.lit _ [x] 3 (by simp)) (by simp; omega) (by have := hb.size; simp; omega) ?_; intro v1 w1 o1 _ b1; have B1 := stepA hb b1)
        go_roundw
        case rel => exact ⟨k + 1, _, by omega, by go_num, HX, o1, B1⟩
        case measure => simp [intOf]; omega
      · have HX := Lib.hid ((pickNo (p := false) hlt hx).trans HT.out)
        have HY := Lib.hid hx; clear hx
        generalize l[k] = x at *
        go_wp2_with fail
        refine (rHas m x true HY.out B d _ (HB.out.below hb)).mono ?_
        rintro e w' ⟨rfl, rfl⟩
        go_wp2
        go_roundw
        case rel => exact ⟨k + 1, _, by omega, by go_num, HX, os, hb⟩
        case measure => simp [intOf]; omega
    · have hkl : k = l.length := by omega
      have e : pick false l m = s := by rw [← HT.out, hkl, List.take_length]
      have HE := Lib.hid e; clear e
      clear hkl
      obtain ⟨A', c', rfl, r1, _⟩ := os.rd
      go_wp2_with fail
      refine (rMake s r (by rw [← HR.out, ← HE.out]; rfl) (by omega) A' c' _ r1).mono ?_
      rintro e w3 ⟨A3, c3, rfl, r3, b3⟩
      go_wp2
      go_ret
      exact ⟨A3, c3, rfl, r3, belowThen hb b3⟩
set_option maxHeartbeats 400000 in
theorem rRemove (l : List Int) (n : Int) (r : List Int) (hr : min' l [n] = r) (hs : l.length ≤ 30000) (A : Option Addr) (c : Nat) (w : World) (ha : Rd w A c l) :
    Calls Tryd.prog 74 #[.slice A l.length c, .int .i64 n] w (GivesL r w) := by
  have HA := Lib.hid ha; clear ha
  have HR := Lib.hid hr; clear hr
  have hA0 := Lib.hid (HA.out.below ((Below.refl _ w).alloc (Nat.le_refl _) (.cells #[.int .i64 n] 3)))
  go_enter Tryd.func74, Tryd.ntmps74
  go_wp2_with fail
  refine (rMinus l [n] r HR.out hs A (some ⟨w.heap.size, 0, none⟩) c 1 _ hA0.out (Rd.lit w [n] 3 (by simp))).mono ?_
  rintro e w3 ⟨A3, c3, rfl, r3, b3⟩
  go_wp2
  go_ret
  exact ⟨A3, c3, rfl, r3, belowThen ((Below.refl _ w).alloc (Nat.le_refl _) _) b3⟩
end Go.Proofs.YtkanamdfjegcbaaDoor

namespace Go.Proofs.YtkanamdfjegcbaaDoor
open Go.RowKit
set_option maxHeartbeats 400000 in
theorem rListsI (ls : List (List Int)) (n : Nat) (hn : ls.length = n) (A B : Option Addr) (c d : Nat) (w : World) (ha : RdL w A c ls) (hb : RdL w B d ls) :
    Calls Tryd.prog 16 #[.slice A n c, .slice B n d] w fun e w' => e = .returned (.bool true) ∧ ∃ q, w' = w.drewN q := by
  have hla := ha.le
  have hca := ha.max
  unfold maxLen at hca
  rw [hn] at hla
  have HA := Lib.hid ha; clear ha
  have HB := Lib.hid hb; clear hb
  have HN := Lib.hid hn; clear hn
  have hnn : ((n : Int) != (n : Int)) = false := by simp
  go_enter Tryd.func16, Tryd.ntmps16
  go_wp2
  clear hnn
  go_loopw [5] (fun i wr => ∃ k : Nat, k ≤ n ∧ i = .int .i64 k ∧ ∃ q, wr = w.drewN q) (fun i _ => n - (intOf i).toNat)
  case atStart => exact ⟨0, Nat.zero_le _, rfl, 0, rfl⟩
  case round =>
    obtain ⟨k, hk, rfl, hq⟩ := hrel
    have HQ := Lib.hid hq; clear hq
    have HA1 : Hid (RdL wr A c ls) := by obtain ⟨q, e⟩ := HQ.out; rw [e]; exact HA.out.below (belowN w q)
    have HB1 : Hid (RdL wr B d ls) := by obtain ⟨q, e⟩ := HQ.out; rw [e]; exact HB.out.below (belowN w q)
    clear HA HB
    by_cases hlt : k < n
    · have hkl : k < ls.length := by rw [HN.out]; exact hlt
      obtain ⟨ad, A', c', rfl, hc, hra⟩ := HA1.out.one hkl
      obtain ⟨bd, B', d', rfl, hd, hrb⟩ := HB1.out.one hkl
      generalize ls[k] = l at *
      have RA := Lib.hid hra; clear hra
      have RB := Lib.hid hrb; clear hrb
      go_wp2
      go_quiet ((go_at_call 21; exact Calls.quiet_of (rInts l l true (eqB_yes rfl) A' B' c' d' _ (RA.out.drewN _) (RB.out.drewN _))))
      go_wp2
      go_roundw
      case rel => exact ⟨k + 1, by omega, by go_num, by obtain ⟨q, e⟩ := HQ.out; rw [e]; exact ⟨_, World.drewN_drewN _ _ _⟩⟩
      case measure => simp [intOf]; omega
    · go_wp2
      go_ret
      exact ⟨rfl, HQ.out⟩
/-- The literal of the example. -/
theorem intsEq (l : List Int) (n m : Nat) (hn : l.length = n) (hm : l.length = m) (A B : Option Addr) (c d : Nat) (w : World) (ha : Rd w A c l) (hb : Rd w B d l) :
    Calls Tryd.prog 21 #[.slice A n c, .slice B m d] w fun e w' => e = .returned (.bool true) ∧ Below w.heap.size w w' := by
  subst hn; subst hm
  exact (rInts l l true (eqB_yes rfl) A B c d w ha hb).mono fun e w' ⟨h1, q, h2⟩ => ⟨h1, by rw [h2]; exact belowN w q⟩

end Go.Proofs.YtkanamdfjegcbaaDoor
