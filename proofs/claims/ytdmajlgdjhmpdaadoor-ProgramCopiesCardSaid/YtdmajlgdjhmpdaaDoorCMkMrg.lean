/-
  The contracts of slices.Contains at integers and of intset.Has.
-/
import Derived.Test.YtdmajlgdjhmpdaaDoorCMkOf
import Derived.Test.YtdmajlgdjhmpdaaDoorShelf2
namespace Go.Proofs.YtdmajlgdjhmpdaaDoor
open Go.RowKit Go.Sort

theorem containsB (l : List Int) (n : Int) : l.contains n = memB l n := by
  simp [memB]
theorem iContains (l : List Int) (n : Int) (r : Bool) (hr : memB l n = r) (A : Option Addr) (c : Nat) (w : World) (ha : Rd w A c l) :
    Calls Tryd.prog 44 #[.slice A l.length c, .int .i64 n] w fun e w' => e = .returned (.bool r) ∧ w = w' := by
  subst hr
  rcases Nat.eq_zero_or_pos l.length with h0 | h0
  · obtain rfl : l = [] := List.eq_nil_of_length_eq_zero h0
    exact (Tryd.slices_Contains_int_empty A c n w).mono fun e w' ⟨h1, h2⟩ => ⟨by rw [h1]; rfl, h2.symm⟩
  · obtain ⟨b, off, rfl, _, hc⟩ := ha.plain h0
    have h1 := ha.le
    have h2 := ha.max
    unfold maxLen at h2
    refine (Tryd.slices_Contains_int b off l.length c l n w (Nat.le_refl _) (by omega) hc).mono fun e w' ⟨h1, h2⟩ => ⟨by rw [h1, List.take_length, containsB], h2.symm⟩

theorem iHas (l : List Int) (n : Int) (r : Bool) (hr : memB l n = r) (A : Option Addr) (c : Nat) (w : World) (ha : Rd w A c l) :
    Calls Tryd.prog 33 #[.slice A l.length c, .int .i64 n] w fun e w' => e = .returned (.bool r) ∧ w = w' := by
  go_enter Tryd.func33, Tryd.ntmps33
  have HA := Lib.hid ha; clear ha
  have HR := Lib.hid hr; clear hr
  go_wp2_with fail
  refine (iContains l n r HR.out A c _ HA.out).mono ?_
  rintro e w3 ⟨rfl, rfl⟩
  go_wp2
  go_ret
  exact ⟨rfl, rfl⟩
end Go.Proofs.YtdmajlgdjhmpdaaDoor

namespace Go.Proofs.YtdmajlgdjhmpdaaDoor
open Go.RowKit

theorem addZero (a : Addr) : a.add 0 = a := rfl
def cmpF : List Int → List Int → Int
  | [], _ => 1
  | _ :: _, [] => -1
  | x :: _, y :: _ => Lib.compareInt x y

theorem cmpCompare (x y : Int) (w : World) : Calls Tryd.prog 74 #[.int .i64 x, .int .i64 y] w fun e w' => e = .returned (.int .i64 (Lib.compareInt x y)) ∧ w' = w := Tryd.cmp_Compare_int x y w

set_option maxHeartbeats 400000 in
theorem iFirst (a b : List Int) (n m : Nat) (hn : a.length = n) (hm : b.length = m) (r : Int) (hr : cmpF a b = r) (A B : Option Addr) (c d : Nat) (w : World) (ha : Rd w A c a) (hb : Rd w B d b) :
    Calls Tryd.prog 65 #[.slice A n c, .slice B m d] w fun e w' => e = .returned (.int .i64 r) ∧ ∃ q, w' = w.drewN q := by
  have HR := Lib.hid hr; clear hr
  rcases a with _ | ⟨x, a⟩
  · obtain rfl : n = 0 := by simpa using hn.symm
    clear hn hm ha hb
    go_enter Tryd.func65, Tryd.ntmps65
    go_wp2
    go_ret
    exact ⟨retInt HR.out, 0, rfl⟩
  · rcases b with _ | ⟨y, b⟩
    · obtain rfl : m = 0 := by simpa using hm.symm
      have h1 : 0 < n := by simp at hn; omega
      have h2 : ((n : Int) == 0) = false := by simp; omega
      clear hn hm ha hb
      go_enter Tryd.func65, Tryd.ntmps65
      go_wp2
      go_ret
      exact ⟨retInt HR.out, 0, rfl⟩
    · have h1 : 0 < n := by simp at hn; omega
      have h2 : ((n : Int) == 0) = false := by simp; omega
      have h3 : 0 < m := by simp at hm; omega
      have h4 : ((m : Int) == 0) = false := by simp; omega
      obtain ⟨ad, rfl, _, hc⟩ := ha.one (k := 0) (by simp)
      obtain ⟨bd, rfl, _, hd⟩ := hb.one (k := 0) (by simp)
      rw [List.getElem_cons_zero, addZero] at hc hd
      clear hn hm ha hb
      go_enter Tryd.func65, Tryd.ntmps65
      go_wp2
      go_quiet ((go_at_call 74; exact Calls.quiet_of_same (cmpCompare _ _ _)))
      go_wp2
      go_ret
      exact ⟨retInt HR.out, _, rfl⟩

def lenOf : Value → Nat | .slice _ n _ => n | _ => 0

set_option maxRecDepth 100000 in
/-- s[k:]: the slice behind the first k elements, under one name. -/
theorem cutTail (A : Option Addr) (n c k : Nat) (hk : k ≤ n) (kz : Int) (hz : kz = (k : Int)) : ∃ T : Option Addr, (∀ W, (Instr.sliceAt 45 (.slice A n c) (some (.int .i64 kz)) none none).run Tryd.prog W = .ok (.slice T (n - k) (c - k)) W) ∧
    (∀ (w : World) (l : List Int), l.length = n → Rd w A c l → Rd w T (c - k) (l.drop k)) ∧ ∀ ad, T = some ad → ∃ ad0, A = some ad0 ∧ ad.block = ad0.block := by
  subst hz
  refine ⟨if c = k then A else A.map (·.add k), fun W => ?_, fun w l hl hr => hr.drop k (by omega), fun ad h => ?_⟩
  rotate_left
  · split at h
    · exact ⟨ad, h, rfl⟩
    · obtain ⟨ad0, h0, rfl⟩ := Option.map_eq_some_iff.1 h
      exact ⟨ad0, h0, addBlock _ _⟩
  rw [run_sliceAt_slice (h := Tryd.underlying45), run_slice_l (ht := Tryd.underlying45) (h0 := by omega) (h1 := by omega)]
  have : (sizeOf (Tryd.prog.elem 45)).run Tryd.prog W = .ok 1 W := by kernel_rfl
  rw [this]
  simp [Result.andThen, sliced]
theorem cmpLt {p q : Int} {a b : List Int} (h : p < q) : cmpF (p :: a) (q :: b) = -1 := by simp [cmpF, Lib.compareInt, h]
theorem cmpGt {p q : Int} {a b : List Int} (h : q < p) : cmpF (p :: a) (q :: b) = 1 := by simp [cmpF, Lib.compareInt, h, show ¬ p < q by omega]
theorem cmpEq {p : Int} {a b : List Int} : cmpF (p :: a) (p :: b) = 0 := by simp [cmpF, Lib.compareInt]
theorem mrgLt (f : Bool → Bool → Bool) {p q : Int} {a b : List Int} (h : p < q) : mrg f (p :: a) (q :: b) = kp (f true false) p ++ mrg f a (q :: b) := by rw [mrg, if_pos h]
theorem mrgGt (f : Bool → Bool → Bool) {p q : Int} {a b : List Int} (h : q < p) : mrg f (p :: a) (q :: b) = kp (f false true) q ++ mrg f (p :: a) b := by rw [mrg, if_neg (by omega), if_pos h]
theorem mrgEq (f : Bool → Bool → Bool) {p : Int} {a b : List Int} : mrg f (p :: a) (p :: b) = kp (f true true) p ++ mrg f a b := by rw [mrg, if_neg (by omega), if_neg (by omega)]

theorem mrgA (f : Bool → Bool → Bool) {p : Int} {a : List Int} : mrg f (p :: a) [] = kp (f true false) p ++ mrg f a [] := by rw [mrg]
theorem mrgB (f : Bool → Bool → Bool) {q : Int} {b : List Int} : mrg f [] (q :: b) = kp (f false true) q ++ mrg f [] b := by rw [mrg]
theorem kpYes {s t r : List Int} {p : Int} (h : s ++ (kp true p ++ t) = r) : s ++ [p] ++ t = r := by rw [← h]; simp [kp]
theorem OwnI.drewN {w : World} {base : Nat} {v : Value} {l : List Int} (h : OwnI w base v l) (n : Nat) : OwnI (w.drewN n) base v l := h

set_option maxHeartbeats 4000000 in
theorem iMerge (f : Bool → Bool → Bool) (g : FuncId) (eg : ∀ args w, (callFunc g args).run Tryd.prog w = .ok (.enter g args) w) (hk : ∀ p q w, Calls Tryd.prog g #[.bool p, .bool q] w fun e w' => e = .returned (.bool (f p q)) ∧ w = w')
    (a b : List Int) (n m : Nat) (hn : a.length = n) (hm : b.length = m) (r : List Int) (hr : mrg f a b = r) (hs : n ≤ 65536) (hs' : m ≤ 65536) (A B : Option Addr) (c d : Nat) (w : World) (ha : Rd w A c a) (hb : Rd w B d b) :
    Calls Tryd.prog 58 #[.slice A n c, .slice B m d, .func (.func g) #[] #[]] w (GivesL r w) := by
  have HA := Lib.hid ha; clear ha
  have HB := Lib.hid hb; clear hb
  have HR := Lib.hid hr; clear hr
  have HN := Lib.hid hn; clear hn
  have HM := Lib.hid hm; clear hm
  have HK := Lib.hid hk; clear hk
  have hO := Lib.hid (OwnI.nil w w.heap.size)
  go_enter Tryd.func58, Tryd.ntmps58
  go_wp2
  go_loopw [0, 1, 7] (fun va vb vk wr => ∃ (x y s : List Int) (n m : Nat) (A B : Option Addr) (c d : Nat), va = .slice A n c ∧ vb = .slice B m d ∧ Hid (x.length = n) ∧ Hid (y.length = m) ∧ n ≤ 65536 ∧ m ≤ 65536 ∧ s.length + n + m ≤ 200000 ∧ Hid (s ++ mrg f x y = r) ∧ Hid (Rd w A c x) ∧ Hid (Rd w B d y) ∧ OwnI wr w.heap.size vk s ∧ Below w.heap.size w wr) (fun va vb _ _ => lenOf va + lenOf vb)
  case atStart => exact ⟨a, b, [], n, m, A, B, c, d, rfl, rfl, HN, HM, hs, hs', by simp; omega, HR, HA, HB, hO.out, Below.refl _ _⟩
  case round =>
    clear HA HB HR HN HM hO hs hs'
    clear A B c d n m
    obtain ⟨x, y, s, n, m, A, B, c, d, rfl, rfl, HN, HM, hn, hm, hsl, HR, HA, HB, os, hb⟩ := hrel
    have hla := HA.out.le
    have hlb := HB.out.le
    rw [HN.out] at hla
    rw [HM.out] at hlb
    have hca := HA.out.max
    have hcb := HB.out.max
    unfold maxLen at hca hcb
    -- ROUND
    rcases x with _ | ⟨p, x⟩
    · obtain rfl : n = 0 := by have := HN.out; simpa using this.symm
      rcases y with _ | ⟨q, y⟩
      · obtain rfl : m = 0 := by have := HM.out; simpa using this.symm
        have e : s = r := by have := HR.out; rw [mrg, List.append_nil] at this; exact this
        have HE := Lib.hid e; clear e
        obtain ⟨A', c', rfl, r1, _⟩ := os.rd
        go_wp2
        go_ret
        rw [← HE.out]
        exact ⟨A', c', rfl, r1, hb⟩
      · have hm0 : 0 < m := by have := HM.out; simp at this; omega
        have HC := Lib.hid (show cmpF [] (q :: y) = 1 from rfl)
        have HT := Lib.hid ((congrArg (s ++ ·) (mrgB f (q := q) (b := y))).symm.trans HR.out)
        obtain ⟨bd, rfl, _, hd⟩ := (HB.out.below hb).one (k := 0) (by simp)
        rw [List.getElem_cons_zero, addZero] at hd
        obtain ⟨TB, hTB, hRB, _⟩ := cutTail (some bd) m d 1 (by omega) 1 rfl
        have HY := Lib.hid (show Rd w TB (d - 1) y from hRB _ _ HM.out HB.out); clear hRB
        have HYN := Lib.hid (show y.length = m - 1 by have := HM.out; rw [List.length_cons] at this; omega)
        go_wp2_with fail
        refine (iFirst _ _ _ _ HN.out HM.out _ HC.out _ _ c d _ (HA.out.below hb) (HB.out.below hb)).mono ?_
        rintro e w' ⟨rfl, nq, rfl⟩
        go_wp2_with fail
        go_quiet (fail)
        go_wp2_with fail
        rcases hv : f false true with _ | _
        · rw [hv] at HT
          have HV := Lib.hid hv; clear hv
          refine (HK.out false true _).mono ?_
          rintro e w' ⟨rfl, rfl⟩
          rw [HV.out]
          go_wp2
          go_roundw
          case rel => exact ⟨[], y, s, _, _, _, _, _, _, rfl, rfl, HN, HYN, by omega, by omega, by omega, HT, HA, HY, os, belowDrewN hb _⟩
          case measure => simp [lenOf]; omega
        · rw [hv] at HT
          have HV := Lib.hid hv; clear hv
          have HS := Lib.hid (kpYes HT.out)
          refine (HK.out false true _).mono ?_
          rintro e w' ⟨rfl, rfl⟩
          rw [HV.out]
          go_wp2_with (at_builtin; refine appI _ rfl (.tmp 43) (.tmp 45) rfl w.heap.size _ _ rfl ((os.drewN _).alloc _) (some ⟨_, 0, none⟩) 1 1 [q] rfl rfl (Rd.lit _ [q] 3 (by simp)) (by simp; omega) (by have := hb.size; simp; omega) ?_; intro v1 w1 o1 _ b1; have B1 := stepA (belowDrewN hb _) b1)
          go_roundw
          case rel => exact ⟨[], y, _, _, _, _, _, _, _, rfl, rfl, HN, HYN, by omega, by omega, by rw [List.length_append]; simp; omega, HS, HA, HY, o1, B1⟩
          case measure => simp [lenOf]; omega
    · have hn0 : 0 < n := by have := HN.out; simp at this; omega
      rcases y with _ | ⟨q, y⟩
      · obtain rfl : m = 0 := by have := HM.out; simpa using this.symm
        have HC := Lib.hid (show cmpF (p :: x) [] = -1 from rfl)
        have HT := Lib.hid ((congrArg (s ++ ·) (mrgA f (p := p) (a := x))).symm.trans HR.out)
        obtain ⟨ad, rfl, _, hc⟩ := (HA.out.below hb).one (k := 0) (by simp)
        rw [List.getElem_cons_zero, addZero] at hc
        obtain ⟨TA, hTA, hRA, _⟩ := cutTail (some ad) n c 1 (by omega) 1 rfl
        have HX := Lib.hid (show Rd w TA (c - 1) x from hRA _ _ HN.out HA.out); clear hRA
        have HXN := Lib.hid (show x.length = n - 1 by have := HN.out; rw [List.length_cons] at this; omega)
        go_wp2_with fail
        refine (iFirst _ _ _ _ HN.out HM.out _ HC.out _ _ c d _ (HA.out.below hb) (HB.out.below hb)).mono ?_
        rintro e w' ⟨rfl, nq, rfl⟩
        go_wp2_with fail
        go_quiet (fail)
        go_wp2_with fail
        rcases hv : f true false with _ | _
        · rw [hv] at HT
          have HV := Lib.hid hv; clear hv
          refine (HK.out true false _).mono ?_
          rintro e w' ⟨rfl, rfl⟩
          rw [HV.out]
          go_wp2
          go_roundw
          case rel => exact ⟨x, [], s, _, _, _, _, _, _, rfl, rfl, HXN, HM, by omega, by omega, by omega, HT, HX, HB, os, belowDrewN hb _⟩
          case measure => simp [lenOf]; omega
        · rw [hv] at HT
          have HV := Lib.hid hv; clear hv
          have HS := Lib.hid (kpYes HT.out)
          refine (HK.out true false _).mono ?_
          rintro e w' ⟨rfl, rfl⟩
          rw [HV.out]
          go_wp2_with (at_builtin; refine appI _ rfl (.tmp 43) (.tmp 45) rfl w.heap.size _ _ rfl ((os.drewN _).alloc _) (some ⟨_, 0, none⟩) 1 1 [p] rfl rfl (Rd.lit _ [p] 3 (by simp)) (by simp; omega) (by have := hb.size; simp; omega) ?_; intro v1 w1 o1 _ b1; have B1 := stepA (belowDrewN hb _) b1)
          go_roundw
          case rel => exact ⟨x, [], _, _, _, _, _, _, _, rfl, rfl, HXN, HM, by omega, by omega, by rw [List.length_append]; simp; omega, HS, HX, HB, o1, B1⟩
          case measure => simp [lenOf]; omega
      · have hm0 : 0 < m := by have := HM.out; simp at this; omega
        rcases Int.lt_trichotomy p q with h | h | h
        · have HC := Lib.hid (cmpLt (a := x) (b := y) h)
          have HT := Lib.hid ((congrArg (s ++ ·) (mrgLt f (a := x) (b := y) h)).symm.trans HR.out)
          obtain ⟨ad, rfl, _, hc⟩ := (HA.out.below hb).one (k := 0) (by simp)
          rw [List.getElem_cons_zero, addZero] at hc
          obtain ⟨TA, hTA, hRA, _⟩ := cutTail (some ad) n c 1 (by omega) 1 rfl
          have HX := Lib.hid (show Rd w TA (c - 1) x from hRA _ _ HN.out HA.out); clear hRA
          have HXN := Lib.hid (show x.length = n - 1 by have := HN.out; rw [List.length_cons] at this; omega)
          go_wp2_with fail
          refine (iFirst _ _ _ _ HN.out HM.out _ HC.out _ _ c d _ (HA.out.below hb) (HB.out.below hb)).mono ?_
          rintro e w' ⟨rfl, nq, rfl⟩
          go_wp2_with fail
          go_quiet (fail)
          go_wp2_with fail
          rcases hv : f true false with _ | _
          · rw [hv] at HT
            have HV := Lib.hid hv; clear hv
            refine (HK.out true false _).mono ?_
            rintro e w' ⟨rfl, rfl⟩
            rw [HV.out]
            go_wp2
            go_roundw
            case rel => exact ⟨x, (q :: y), s, _, _, _, _, _, _, rfl, rfl, HXN, HM, by omega, by omega, by omega, HT, HX, HB, os, belowDrewN hb _⟩
            case measure => simp [lenOf]; omega
          · rw [hv] at HT
            have HV := Lib.hid hv; clear hv
            have HS := Lib.hid (kpYes HT.out)
            refine (HK.out true false _).mono ?_
            rintro e w' ⟨rfl, rfl⟩
            rw [HV.out]
            go_wp2_with (at_builtin; refine appI _ rfl (.tmp 43) (.tmp 45) rfl w.heap.size _ _ rfl ((os.drewN _).alloc _) (some ⟨_, 0, none⟩) 1 1 [p] rfl rfl (Rd.lit _ [p] 3 (by simp)) (by simp; omega) (by have := hb.size; simp; omega) ?_; intro v1 w1 o1 _ b1; have B1 := stepA (belowDrewN hb _) b1)
            go_roundw
            case rel => exact ⟨x, (q :: y), _, _, _, _, _, _, _, rfl, rfl, HXN, HM, by omega, by omega, by rw [List.length_append]; simp; omega, HS, HX, HB, o1, B1⟩
            case measure => simp [lenOf]; omega
        · subst h
          have HC := Lib.hid (cmpEq (p := p) (a := x) (b := y))
          have HT := Lib.hid ((congrArg (s ++ ·) (mrgEq f (p := p) (a := x) (b := y))).symm.trans HR.out)
          obtain ⟨ad, rfl, _, hc⟩ := (HA.out.below hb).one (k := 0) (by simp)
          rw [List.getElem_cons_zero, addZero] at hc
          obtain ⟨TA, hTA, hRA, _⟩ := cutTail (some ad) n c 1 (by omega) 1 rfl
          have HX := Lib.hid (show Rd w TA (c - 1) x from hRA _ _ HN.out HA.out); clear hRA
          have HXN := Lib.hid (show x.length = n - 1 by have := HN.out; rw [List.length_cons] at this; omega)
          obtain ⟨bd, rfl, _, hd⟩ := (HB.out.below hb).one (k := 0) (by simp)
          rw [List.getElem_cons_zero, addZero] at hd
          obtain ⟨TB, hTB, hRB, _⟩ := cutTail (some bd) m d 1 (by omega) 1 rfl
          have HY := Lib.hid (show Rd w TB (d - 1) y from hRB _ _ HM.out HB.out); clear hRB
          have HYN := Lib.hid (show y.length = m - 1 by have := HM.out; rw [List.length_cons] at this; omega)
          go_wp2_with fail
          refine (iFirst _ _ _ _ HN.out HM.out _ HC.out _ _ c d _ (HA.out.below hb) (HB.out.below hb)).mono ?_
          rintro e w' ⟨rfl, nq, rfl⟩
          go_wp2_with fail
          go_quiet (fail)
          go_wp2_with fail
          go_quiet (fail)
          go_wp2_with fail
          rcases hv : f true true with _ | _
          · rw [hv] at HT
            have HV := Lib.hid hv; clear hv
            refine (HK.out true true _).mono ?_
            rintro e w' ⟨rfl, rfl⟩
            rw [HV.out]
            go_wp2
            go_roundw
            case rel => exact ⟨x, y, s, _, _, _, _, _, _, rfl, rfl, HXN, HYN, by omega, by omega, by omega, HT, HX, HY, os, belowDrewN hb _⟩
            case measure => simp [lenOf]; omega
          · rw [hv] at HT
            have HV := Lib.hid hv; clear hv
            have HS := Lib.hid (kpYes HT.out)
            refine (HK.out true true _).mono ?_
            rintro e w' ⟨rfl, rfl⟩
            rw [HV.out]
            go_wp2_with (at_builtin; refine appI _ rfl (.tmp 43) (.tmp 45) rfl w.heap.size _ _ rfl ((os.drewN _).alloc _) (some ⟨_, 0, none⟩) 1 1 [p] rfl rfl (Rd.lit _ [p] 3 (by simp)) (by simp; omega) (by have := hb.size; simp; omega) ?_; intro v1 w1 o1 _ b1; have B1 := stepA (belowDrewN hb _) b1)
            go_roundw
            case rel => exact ⟨x, y, _, _, _, _, _, _, _, rfl, rfl, HXN, HYN, by omega, by omega, by rw [List.length_append]; simp; omega, HS, HX, HY, o1, B1⟩
            case measure => simp [lenOf]; omega
        · have HC := Lib.hid (cmpGt (a := x) (b := y) h)
          have HT := Lib.hid ((congrArg (s ++ ·) (mrgGt f (a := x) (b := y) h)).symm.trans HR.out)
          obtain ⟨bd, rfl, _, hd⟩ := (HB.out.below hb).one (k := 0) (by simp)
          rw [List.getElem_cons_zero, addZero] at hd
          obtain ⟨TB, hTB, hRB, _⟩ := cutTail (some bd) m d 1 (by omega) 1 rfl
          have HY := Lib.hid (show Rd w TB (d - 1) y from hRB _ _ HM.out HB.out); clear hRB
          have HYN := Lib.hid (show y.length = m - 1 by have := HM.out; rw [List.length_cons] at this; omega)
          go_wp2_with fail
          refine (iFirst _ _ _ _ HN.out HM.out _ HC.out _ _ c d _ (HA.out.below hb) (HB.out.below hb)).mono ?_
          rintro e w' ⟨rfl, nq, rfl⟩
          go_wp2_with fail
          go_quiet (fail)
          go_wp2_with fail
          rcases hv : f false true with _ | _
          · rw [hv] at HT
            have HV := Lib.hid hv; clear hv
            refine (HK.out false true _).mono ?_
            rintro e w' ⟨rfl, rfl⟩
            rw [HV.out]
            go_wp2
            go_roundw
            case rel => exact ⟨(p :: x), y, s, _, _, _, _, _, _, rfl, rfl, HN, HYN, by omega, by omega, by omega, HT, HA, HY, os, belowDrewN hb _⟩
            case measure => simp [lenOf]; omega
          · rw [hv] at HT
            have HV := Lib.hid hv; clear hv
            have HS := Lib.hid (kpYes HT.out)
            refine (HK.out false true _).mono ?_
            rintro e w' ⟨rfl, rfl⟩
            rw [HV.out]
            go_wp2_with (at_builtin; refine appI _ rfl (.tmp 43) (.tmp 45) rfl w.heap.size _ _ rfl ((os.drewN _).alloc _) (some ⟨_, 0, none⟩) 1 1 [q] rfl rfl (Rd.lit _ [q] 3 (by simp)) (by simp; omega) (by have := hb.size; simp; omega) ?_; intro v1 w1 o1 _ b1; have B1 := stepA (belowDrewN hb _) b1)
            go_roundw
            case rel => exact ⟨(p :: x), y, _, _, _, _, _, _, _, rfl, rfl, HN, HYN, by omega, by omega, by rw [List.length_append]; simp; omega, HS, HA, HY, o1, B1⟩
            case measure => simp [lenOf]; omega
    -- END
end Go.Proofs.YtdmajlgdjhmpdaaDoor

namespace Go.Proofs.YtdmajlgdjhmpdaaDoor
open Go.RowKit

theorem iSetOfN (l : List Int) (n : Nat) (hn : l.length = n) (r : List Int) (hr : mk l = r) (hs : n ≤ 65536) (A : Option Addr) (c : Nat) (w : World) (ha : Rd w A c l) :
    Calls Tryd.prog 42 #[.slice A n c] w (GivesL r w) := by
  subst hn; exact iSetOf l r hr hs A c w ha

theorem keepU (p q : Bool) (w : World) : Calls Tryd.prog 59 #[.bool p, .bool q] w fun e w' => e = .returned (.bool (fU p q)) ∧ w = w' := by
  go_enter Tryd.func59, Tryd.ntmps59
  go_wp2
  go_ret
  exact ⟨rfl, rfl⟩
theorem entU : ∀ args w, (callFunc 59 args).run Tryd.prog w = .ok (.enter 59 args) w := enters_of Tryd.func59 (by kernel_rfl) rfl
set_option maxHeartbeats 400000 in
theorem iUnion (l m : List Int) (n k : Nat) (hn : l.length = n) (hk : m.length = k) (r : List Int) (hr : uni l m = r) (hs : n ≤ 30000) (hs' : k ≤ 30000) (A B : Option Addr) (c d : Nat) (w : World) (ha : Rd w A c l) (hb : Rd w B d m) :
    Calls Tryd.prog 41 #[.slice A n c, .slice B k d] w (GivesL r w) := by
  have HA := Lib.hid ha; clear ha
  have HB := Lib.hid hb; clear hb
  have HR := Lib.hid ((mrgU l m).trans hr); clear hr
  have HN := Lib.hid hn; clear hn
  have HK := Lib.hid hk; clear hk
  go_enter Tryd.func41, Tryd.ntmps41
  go_wp2_with fail
  refine (iSetOfN l n HN.out _ rfl (by omega) A c _ HA.out).mono ?_
  rintro e w1 ⟨A1, c1, rfl, r1, b1⟩
  have hl1 := lenMk l
  have hl2 := lenMk m
  rw [HN.out] at hl1
  rw [HK.out] at hl2
  obtain ⟨n1, HN1⟩ : ∃ n1, Hid ((mk l).length = n1) := ⟨_, rfl⟩
  rw [HN1.out] at hl1 ⊢
  go_wp2_with fail
  refine (iSetOfN m k HK.out _ rfl (by omega) B d _ (HB.out.below b1)).mono ?_
  rintro e w2 ⟨A2, c2, rfl, r2, b2⟩
  obtain ⟨n2, HN2⟩ : ∃ n2, Hid ((mk m).length = n2) := ⟨_, rfl⟩
  rw [HN2.out] at hl2 ⊢
  go_wp2_with fail
  refine (iMerge fU 59 entU keepU (mk l) (mk m) n1 n2 HN1.out HN2.out r HR.out (by omega) (by omega) A1 A2 c1 c2 _ (r1.below b2) r2).mono ?_
  rintro e w3 ⟨A3, c3, rfl, r3, b3⟩
  go_wp2
  go_ret
  exact ⟨A3, c3, rfl, r3, belowThen (belowThen b1 b2) b3⟩
set_option maxHeartbeats 400000 in
theorem iAdd (l : List Int) (x : Int) (n : Nat) (hn : l.length = n) (r : List Int) (hr : uni l [x] = r) (hs : n ≤ 30000) (A : Option Addr) (c : Nat) (w : World) (ha : Rd w A c l) :
    Calls Tryd.prog 31 #[.slice A n c, .int .i64 x] w (GivesL r w) := by
  have HA := Lib.hid ha; clear ha
  have HR := Lib.hid hr; clear hr
  have HN := Lib.hid hn; clear hn
  have B0 : Below w.heap.size w (w.alloc (.cells #[.int .i64 x] 3)) := (Below.refl _ w).alloc (Nat.le_refl _) _
  go_enter Tryd.func31, Tryd.ntmps31
  go_wp2_with fail
  refine (iSetOfN [x] 1 rfl [x] (mkSelf (by simp [Srt])) (by omega) _ 1 _ (Rd.lit w [x] 3 (by simp))).mono ?_
  rintro e w1 ⟨A1, c1, rfl, r1, b1⟩
  have B1 := belowThen B0 b1
  go_wp2_with fail
  refine (iUnion l [x] n 1 HN.out rfl r HR.out hs (by omega) A A1 c c1 _ (HA.out.below B1) r1).mono ?_
  rintro e w3 ⟨A3, c3, rfl, r3, b3⟩
  go_wp2
  go_ret
  exact ⟨A3, c3, rfl, r3, belowThen B1 b3⟩

theorem subLen {l m r : List Int} {b : Bool} (hr : min' l m = r) (hb : subB l m = b) : ((r.length : Int) == 0) = b := by
  rw [← hb, ← minEmpty, hr, Bool.eq_iff_iff]
  simp
end Go.Proofs.YtdmajlgdjhmpdaaDoor
