/-
  The contracts of the program's functions that make sets of integers: setOf (through the library's Sort and Compact) and Make.
-/
import Derived.Test.YtpkagpobobmnfaaGreatDoorCPure
import Derived.Test.YtpkagpobobmnfaaGreatDoorCOwn
import Derived.Test.YtpkagpobobmnfaaGreatDoorShelf
import Derived.Test.YtpkagpobobmnfaaGreatDoorCRow
import Derived.Maps.OwnOps
import Derived.Maps.Views
import Derived.Deep.RegionHeld3
namespace Go.Proofs.YtpkagpobobmnfaaGreatDoor
open Go.RowKit Go.Sort

theorem compactFacts (s : List Int) (hs : s.Pairwise (· ≤ ·)) : ∀ m, m ≤ s.length → Srt (Lib.compactUpTo s.toArray m) ∧ ∀ x, x ∈ Lib.compactUpTo s.toArray m ↔ x ∈ s.take m := by
  intro m
  induction m with
  | zero => intro _; exact ⟨by simp [Lib.compactUpTo, Srt], by simp [Lib.compactUpTo]⟩
  | succ m ih =>
    intro hm
    obtain ⟨h1, h2⟩ := ih (by omega)
    have hg : s.toArray[m]! = s[m] := by simp [show m < s.length by omega]
    rw [Lib.compactUpTo_succ, List.take_succ_eq_append_getElem (by omega), hg]
    rcases hk : Lib.keeps s.toArray m with _ | _
    · have hk' : ¬ (m = 0 ∨ s.toArray[m]! ≠ s.toArray[m - 1]!) := by simpa [Lib.keeps] using hk
      have hm0 : 0 < m := by omega
      have hg' : s.toArray[m - 1]! = s[m - 1] := by simp [show m - 1 < s.length by omega]
      rw [hg, hg'] at hk'
      have e : s[m] = s[m - 1] := by omega
      simp only [Bool.false_eq_true, if_false, List.append_nil]
      refine ⟨h1, fun x => ?_⟩
      rw [h2, List.mem_append]
      constructor
      · exact Or.inl
      · rintro (h | h)
        · exact h
        · obtain rfl : x = s[m] := by simpa using h
          rw [e]
          exact List.mem_take_iff_getElem.2 ⟨m - 1, by omega, rfl⟩
    · have hk' : m = 0 ∨ s.toArray[m]! ≠ s.toArray[m - 1]! := by simpa [Lib.keeps] using hk
      simp only [if_true]
      refine ⟨List.pairwise_append.2 ⟨h1, by simp, fun x hx y hy => ?_⟩, fun x => by rw [List.mem_append, List.mem_append, h2]⟩
      obtain rfl : y = s[m] := by simpa using hy
      rw [h2] at hx
      obtain ⟨i, hi, rfl⟩ := List.mem_take_iff_getElem.1 hx
      rcases hk' with rfl | hk'
      · omega
      have hg' : s.toArray[m - 1]! = s[m - 1] := by simp [show m - 1 < s.length by omega]
      rw [hg, hg'] at hk'
      have a1 : s[m - 1] ≤ s[m] := List.pairwise_iff_getElem.1 hs (m - 1) m (by omega) (by omega) (by omega)
      by_cases e : i = m - 1
      · subst e; omega
      · have a2 : s[i] ≤ s[m - 1] := List.pairwise_iff_getElem.1 hs i (m - 1) (by omega) (by omega) (by omega)
        omega
theorem compactSort (l : List Int) : Lib.compact (l.mergeSort fun x y => decide (x ≤ y)) = mk l := by
  have hs : (l.mergeSort fun x y => decide (x ≤ y)).Pairwise (· ≤ ·) := by
    have := List.pairwise_mergeSort (le := fun x y : Int => decide (x ≤ y)) (fun a b c h1 h2 => by simp at *; omega) (fun a b => by simp; omega) l
    rw [List.pairwise_iff_getElem] at this ⊢
    intro i j hi hj hij
    simpa using this i j hi hj hij
  obtain ⟨h1, h2⟩ := compactFacts _ hs _ (Nat.le_refl _)
  refine mkEq h1 fun x => ?_
  show x ∈ Lib.compactUpTo _ _ ↔ _
  rw [h2, List.take_length]
  exact (List.mergeSort_perm l _).mem_iff

theorem OwnI.holds {w : World} {base : Nat} {v : Value} {l : List Int} (h : OwnI w base v l) (hl : 0 < l.length) : ∃ g cap, v = .slice (some ⟨g, 0, none⟩) l.length cap ∧ base ≤ g ∧ g < w.heap.size ∧ l.length ≤ cap ∧ cap ≤ maxLen ∧ Holds (Value.int .i64) w g 0 l.toArray := by
  rcases h.2 with ⟨_, h0⟩ | ⟨g, cap, cur, hv, hb, hg, hc, hm, hs, ht⟩
  · omega
  · have hlt : g < w.heap.size := (World.ownsRow.lt h g (by rw [hv]; rfl)).2
    refine ⟨g, cap, hv, hb, hlt, hc, hm, fun j hj => ⟨?_, ?_⟩⟩
    · have hj' : j < l.length := by simpa using hj
      have := World.ownsRow.cells h (g := g) (by rw [hv]; rfl) j (.int .i64 l[j]) (by simp [List.getElem?_eq_getElem hj'])
      rw [Addr.add_lit] at this
      rw [this]
      simp [hj']
    · simp [World.frozen?, hg]

theorem belowPut {B : Nat} {a w : World} (h : Below B a w) {g : Nat} (hg : B ≤ g) (d : Array Int) (off : Nat) : Below B a (putRow (Value.int .i64) w g off d) :=
  h.trans ⟨rfl, rfl, rfl, by simp, fun k hk => by
    simp only [putRow, mapBlock, Array.getElem?_modify]
    rw [if_neg (by omega)]⟩
theorem belowAhead {B : Nat} {a w : World} (h : Below B a w) (n : Nat) : Below B a (Sort.ahead w n) := ⟨h.os, h.tape, h.output, h.size, h.block⟩
theorem belowGrow {B : Nat} {a w : World} (h : Below B a w) (hB : B ≤ w.heap.size) (os : Array Obj) : Below B a (grow w os) :=
  h.trans ⟨rfl, rfl, rfl, by simp, fun k hk => heap_grow_old w os (by omega)⟩

/-- sorting and compacting an owned row, as the library does it -/
theorem sortCompact (l : List Int) (hl : 0 < l.length) (hs : l.length ≤ 100000) (w1 : World) (B g cap : Nat) (hB : B ≤ g) (hg : g < w1.heap.size) (hc : l.length ≤ cap) (hm : cap ≤ maxLen) (hH : Holds (Value.int .i64) w1 g 0 l.toArray) :
    Calls Tryz.prog 118 #[.slice (some ⟨g, 0, none⟩) l.length cap] w1 fun e w2 => e = .returned (.tuple #[]) ∧ Below B w1 w2 ∧
      Calls Tryz.prog 141 #[.slice (some ⟨g, 0, none⟩) l.length cap] w2 fun e w3 => e = .returned (.slice (some ⟨g, 0, none⟩) (mk l).length cap) ∧ Below B w2 w3 ∧ Rd w3 (some ⟨g, 0, none⟩) cap (mk l) := by
  refine (Tryz.slices_Sort_int g 0 cap l w1 hH hg (by omega)).mono ?_
  rintro e w2 ⟨rfl, n, os, rfl⟩
  have hsz : (l.mergeSort fun x y => decide (x ≤ y)).toArray.size = l.toArray.size := by simp [List.length_mergeSort]
  have hH1 := holds_putRow (Value.int .i64) (Sort.ahead w1 n) g 0 l.toArray (l.mergeSort fun x y => decide (x ≤ y)).toArray hH hsz
  have hH2 := holds_grow (Value.int .i64) _ os g 0 _ (by simpa using hg) hH1
  have hlen : (l.mergeSort fun x y => decide (x ≤ y)).length = l.length := List.length_mergeSort l
  refine ⟨rfl, belowGrow (belowPut (belowAhead (Below.refl _ _) n) hB _ _) (by simp; omega) _, ?_⟩
  have hcon := Tryz.slices_Compact_int g 0 cap (l.mergeSort fun x y => decide (x ≤ y)) _ hH2 (by rw [hlen]; omega) (by rw [hlen]; exact hc)
  rw [hlen, compactSort] at hcon
  refine hcon.mono ?_
  rintro e w3 ⟨rfl, q, rfl⟩
  refine ⟨rfl, belowPut (belowAhead (Below.refl _ _) q) hB _ _, ⟨?_, hm, fun _ => ⟨_, rfl, by simp; omega, fun j u hu => ?_⟩⟩⟩
  · have := lenMk l; simp; omega
  · have hj : j < (mk l).length := by have := (List.getElem?_eq_some_iff.1 hu).1; simpa using this
    have hml := lenMk l
    have hu' : u = .int .i64 (mk l)[j] := by
      rw [iv, List.getElem?_map, List.getElem?_eq_getElem hj] at hu
      exact (Option.some.inj hu).symm
    have hp := cell?_putRow (Value.int .i64) (Sort.ahead (grow (putRow (Value.int .i64) (Sort.ahead w1 n) g 0 (l.mergeSort fun x y => decide (x ≤ y)).toArray) os) q) g 0 (l.mergeSort fun x y => decide (x ≤ y)).toArray
      (mk l ++ List.replicate (l.length - (mk l).length) 0).toArray hH2 (by simp [List.length_mergeSort]; omega) j (by simp; omega)
    rw [Addr.add_lit, hp, hu']
    simp [getElem!_def, List.getElem?_append_left hj, List.getElem?_eq_getElem hj]

set_option maxHeartbeats 400000 in
theorem iSetOf (l : List Int) (r : List Int) (hr : mk l = r) (hs : l.length ≤ 65536) (A : Option Addr) (c : Nat) (w : World) (ha : Rd w A c l) :
    Calls Tryz.prog 97 #[.slice A l.length c] w (GivesL r w) := by
  have HA := Lib.hid ha; clear ha
  have HR := Lib.hid hr; clear hr
  have hO := Lib.hid (OwnI.nil w w.heap.size)
  rcases Nat.eq_zero_or_pos l.length with h0 | h0
  · obtain rfl : l = [] := List.eq_nil_of_length_eq_zero h0
    clear h0
    go_enter Tryz.func97, Tryz.ntmps97
    go_wp2_with (first
      | (at_builtin; refine appI _ rfl (.const (.slice none 0 0)) (.tmp 4) rfl w.heap.size _ [] rfl hO.out A 0 c [] rfl rfl HA.out (by simp) (Nat.le_refl _) ?_; intro v1 w1 o1 _ b1; rw [List.nil_append] at o1; obtain ⟨A1, c1, rfl, r1, _⟩ := o1.rd)
      | fail)
    refine (Tryz.slices_Sort_int_none A1 c1 w1).mono ?_
    rintro e w' ⟨rfl, rfl⟩
    go_wp2_with fail
    refine (Tryz.slices_Compact_int_empty A1 c1 w').mono ?_
    rintro e w2 ⟨rfl, rfl⟩
    go_wp2
    go_ret
    rw [← HR.out]
    exact ⟨A1, c1, rfl, r1, b1⟩
  · go_enter Tryz.func97, Tryz.ntmps97
    go_wp2_with (first
      | (at_builtin; refine appI _ rfl (.const (.slice none 0 0)) (.tmp 4) rfl w.heap.size _ [] rfl hO.out A l.length c l rfl rfl HA.out (by simp; omega) (Nat.le_refl _) ?_; intro v1 w1 o1 _ b1; rw [List.nil_append] at o1; obtain ⟨g, c1, rfl, hg, hlt, hc, hm, hH⟩ := o1.holds h0; have HH := Lib.hid hH; clear hH)
      | fail)
    refine (sortCompact l h0 (by omega) w1 w.heap.size g c1 hg hlt hc hm HH.out).mono ?_
    rintro e w2 ⟨rfl, b2, hcon⟩
    have HC := Lib.hid hcon; clear hcon
    go_wp2_with fail
    refine HC.out.mono ?_
    rintro e w3 ⟨rfl, b3, r3⟩
    rw [HR.out] at r3 ⊢
    go_wp2
    go_ret
    exact ⟨_, c1, rfl, r3, b1.trans (b2.trans b3)⟩

set_option maxHeartbeats 400000 in
theorem iMake (l : List Int) (r : List Int) (hr : mk l = r) (hs : l.length ≤ 65536) (A : Option Addr) (c : Nat) (w : World) (ha : Rd w A c l) :
    Calls Tryz.prog 50 #[.slice A l.length c] w (GivesL r w) := by
  go_enter Tryz.func50, Tryz.ntmps50
  have HA := Lib.hid ha; clear ha
  have HR := Lib.hid hr; clear hr
  go_wp2_with fail
  refine (iSetOf l r HR.out hs A c _ HA.out).mono ?_
  rintro e w3 ⟨A3, c3, rfl, r3, b3⟩
  go_wp2
  go_ret
  exact ⟨A3, c3, rfl, r3, b3⟩
end Go.Proofs.YtpkagpobobmnfaaGreatDoor

namespace Go.Proofs.YtpkagpobobmnfaaGreatDoor
open Go.RowKit

theorem addZero (a : Addr) : a.add 0 = a := rfl
def cmpF : List Int → List Int → Int
  | [], _ => 1
  | _ :: _, [] => -1
  | x :: _, y :: _ => Lib.compareInt x y

theorem cmpCompare (x y : Int) (w : World) : Calls Tryz.prog 112 #[.int .i64 x, .int .i64 y] w fun e w' => e = .returned (.int .i64 (Lib.compareInt x y)) ∧ w' = w := Tryz.cmp_Compare_int x y w

set_option maxHeartbeats 400000 in
theorem iFirst (a b : List Int) (n m : Nat) (hn : a.length = n) (hm : b.length = m) (r : Int) (hr : cmpF a b = r) (A B : Option Addr) (c d : Nat) (w : World) (ha : Rd w A c a) (hb : Rd w B d b) :
    Calls Tryz.prog 157 #[.slice A n c, .slice B m d] w fun e w' => e = .returned (.int .i64 r) ∧ ∃ q, w' = w.drewN q := by
  have HR := Lib.hid hr; clear hr
  rcases a with _ | ⟨x, a⟩
  · obtain rfl : n = 0 := by simpa using hn.symm
    clear hn hm ha hb
    go_enter Tryz.func157, Tryz.ntmps157
    go_wp2
    go_ret
    exact ⟨retInt HR.out, 0, rfl⟩
  · rcases b with _ | ⟨y, b⟩
    · obtain rfl : m = 0 := by simpa using hm.symm
      have h1 : 0 < n := by simp at hn; omega
      have h2 : ((n : Int) == 0) = false := by simp; omega
      clear hn hm ha hb
      go_enter Tryz.func157, Tryz.ntmps157
      go_wp2
      go_ret
      exact ⟨retInt HR.out, 0, rfl⟩
    · have h1 : 0 < n := by simp at hn; omega
      have h2 : ((n : Int) == 0) = false := by simp; omega
      have h3 : 0 < m := by simp at hm; omega
      have h4 : ((m : Int) == 0) = false := by simp; omega
      obtain ⟨ad, rfl, _, hc⟩ := ha.one (k := 0) (by simp)
      obtain ⟨bd, rfl, _, hd⟩ := hb.one (k := 0) (by simp)
      rw [List.getElem_cons_zero, addZero] at hc hd
      clear hn hm ha hb
      go_enter Tryz.func157, Tryz.ntmps157
      go_wp2
      go_quiet ((go_at_call 112; exact Calls.quiet_of_same (cmpCompare _ _ _)))
      go_wp2
      go_ret
      exact ⟨retInt HR.out, _, rfl⟩

def lenOf : Value → Nat | .slice _ n _ => n | _ => 0

set_option maxRecDepth 100000 in
/-- s[k:]: the slice behind the first k elements, under one name. -/
theorem cutTail (A : Option Addr) (n c k : Nat) (hk : k ≤ n) (kz : Int) (hz : kz = (k : Int)) : ∃ T : Option Addr, (∀ W, (Instr.sliceAt 33 (.slice A n c) (some (.int .i64 kz)) none none).run Tryz.prog W = .ok (.slice T (n - k) (c - k)) W) ∧
    (∀ (w : World) (l : List Int), l.length = n → Rd w A c l → Rd w T (c - k) (l.drop k)) ∧ ∀ ad, T = some ad → ∃ ad0, A = some ad0 ∧ ad.block = ad0.block := by
  subst hz
  refine ⟨if c = k then A else A.map (·.add k), fun W => ?_, fun w l hl hr => hr.drop k (by omega), fun ad h => ?_⟩
  rotate_left
  · split at h
    · exact ⟨ad, h, rfl⟩
    · obtain ⟨ad0, h0, rfl⟩ := Option.map_eq_some_iff.1 h
      exact ⟨ad0, h0, addBlock _ _⟩
  rw [run_sliceAt_slice (h := Tryz.underlying33), run_slice_l (ht := Tryz.underlying33) (h0 := by omega) (h1 := by omega)]
  have : (sizeOf (Tryz.prog.elem 33)).run Tryz.prog W = .ok 1 W := by kernel_rfl
  rw [this]
  simp [Result.andThen, sliced]
theorem cmpLt {p q : Int} {a b : List Int} (h : p < q) : cmpF (p :: a) (q :: b) = -1 := by simp [cmpF, Lib.compareInt, h]
theorem cmpGt {p q : Int} {a b : List Int} (h : q < p) : cmpF (p :: a) (q :: b) = 1 := by simp [cmpF, Lib.compareInt, h, show ¬ p < q by omega]
theorem cmpEq {p : Int} {a b : List Int} : cmpF (p :: a) (p :: b) = 0 := by simp [cmpF, Lib.compareInt]
theorem mrgLt (f : Bool → Bool → Bool) {p q : Int} {a b : List Int} (h : p < q) : mrg f (p :: a) (q :: b) = kp (f true false) p ++ mrg f a (q :: b) := by rw [mrg, if_pos h]
theorem mrgGt (f : Bool → Bool → Bool) {p q : Int} {a b : List Int} (h : q < p) : mrg f (p :: a) (q :: b) = kp (f false true) q ++ mrg f (p :: a) b := by rw [mrg, if_neg (by omega), if_pos h]
theorem mrgEq (f : Bool → Bool → Bool) {p : Int} {a b : List Int} : mrg f (p :: a) (p :: b) = kp (f true true) p ++ mrg f a b := by rw [mrg, if_neg (by omega), if_neg (by omega)]

theorem mrgA (f : Bool → Bool → Bool) {p : Int} {a : List Int} : mrg f (p :: a) [] = kp (f true false) p ++ mrg f a [] := by rw [mrg]
theorem mrgB (f : Bool → Bool → Bool) {q : Int} {b : List Int} : mrg f [] (q :: b) = kp (f false true) q ++ mrg f [] b := by rw [mrg]
theorem kpYes {s t r : List Int} {p : Int} (h : s ++ (kp true p ++ t) = r) : s ++ [p] ++ t = r := by rw [← h]; simp [kp]
theorem OwnI.drewN {w : World} {base : Nat} {v : Value} {l : List Int} (h : OwnI w base v l) (n : Nat) : OwnI (w.drewN n) base v l := h

set_option maxHeartbeats 4000000 in
theorem iMerge (f : Bool → Bool → Bool) (g : FuncId) (eg : ∀ args w, (callFunc g args).run Tryz.prog w = .ok (.enter g args) w) (hk : ∀ p q w, Calls Tryz.prog g #[.bool p, .bool q] w fun e w' => e = .returned (.bool (f p q)) ∧ w = w')
    (a b : List Int) (n m : Nat) (hn : a.length = n) (hm : b.length = m) (r : List Int) (hr : mrg f a b = r) (hs : n ≤ 65536) (hs' : m ≤ 65536) (A B : Option Addr) (c d : Nat) (w : World) (ha : Rd w A c a) (hb : Rd w B d b) :
    Calls Tryz.prog 144 #[.slice A n c, .slice B m d, .func (.func g) #[] #[]] w (GivesL r w) := by
  have HA := Lib.hid ha; clear ha
  have HB := Lib.hid hb; clear hb
  have HR := Lib.hid hr; clear hr
  have HN := Lib.hid hn; clear hn
  have HM := Lib.hid hm; clear hm
  have HK := Lib.hid hk; clear hk
  have hO := Lib.hid (OwnI.nil w w.heap.size)
  go_enter Tryz.func144, Tryz.ntmps144
  go_wp2
  go_loopw [0, 1, 7] (fun va vb vk wr => ∃ (x y s : List Int) (n m : Nat) (A B : Option Addr) (c d : Nat), va = .slice A n c ∧ vb = .slice B m d ∧ Hid (x.length = n) ∧ Hid (y.length = m) ∧ n ≤ 65536 ∧ m ≤ 65536 ∧ s.length + n + m ≤ 200000 ∧ Hid (s ++ mrg f x y = r) ∧ Hid (Rd w A c x) ∧ Hid (Rd w B d y) ∧ OwnI wr w.heap.size vk s ∧ Below w.heap.size w wr) (fun va vb _ _ => lenOf va + lenOf vb)
  case atStart => exact ⟨a, b, [], n, m, A, B, c, d, rfl, rfl, HN, HM, hs, hs', by simp; omega, HR, HA, HB, hO.out, Below.refl _ _⟩
  case round =>
    clear HA HB HR HN HM hO hs hs'
    clear A B c d n m
    obtain ⟨x, y, s, n, m, A, B, c, d, rfl, rfl, HN, HM, hn, hm, hsl, HR, HA, HB, os, hb⟩ := hrel
    have hla := HA.out.le
    have hlb := HB.out.le
    rw [HN.out] at hla
    rw [HM.out] at hlb
    have hca := HA.out.max
    have hcb := HB.out.max
    unfold maxLen at hca hcb
    -- ROUND
    rcases x with _ | ⟨p, x⟩
    · obtain rfl : n = 0 := by have := HN.out; simpa using this.symm
      rcases y with _ | ⟨q, y⟩
      · obtain rfl : m = 0 := by have := HM.out; simpa using this.symm
        have e : s = r := by have := HR.out; rw [mrg, List.append_nil] at this; exact this
        have HE := Lib.hid e; clear e
        obtain ⟨A', c', rfl, r1, _⟩ := os.rd
        go_wp2
        go_ret
        rw [← HE.out]
        exact ⟨A', c', rfl, r1, hb⟩
      · have hm0 : 0 < m := by have := HM.out; simp at this; omega
        have HC := Lib.hid (show cmpF [] (q :: y) = 1 from rfl)
        have HT := Lib.hid ((congrArg (s ++ ·) (mrgB f (q := q) (b := y))).symm.trans HR.out)
        obtain ⟨bd, rfl, _, hd⟩ := (HB.out.below hb).one (k := 0) (by simp)
        rw [List.getElem_cons_zero, addZero] at hd
        obtain ⟨TB, hTB, hRB, _⟩ := cutTail (some bd) m d 1 (by omega) 1 rfl
        have HY := Lib.hid (show Rd w TB (d - 1) y from hRB _ _ HM.out HB.out); clear hRB
        have HYN := Lib.hid (show y.length = m - 1 by have := HM.out; rw [List.length_cons] at this; omega)
        go_wp2_with fail
        refine (iFirst _ _ _ _ HN.out HM.out _ HC.out _ _ c d _ (HA.out.below hb) (HB.out.below hb)).mono ?_
        rintro e w' ⟨rfl, nq, rfl⟩
        go_wp2_with fail
        go_quiet (fail)
        go_wp2_with fail
        rcases hv : f false true with _ | _
        · rw [hv] at HT
          have HV := Lib.hid hv; clear hv
          refine (HK.out false true _).mono ?_
          rintro e w' ⟨rfl, rfl⟩
          rw [HV.out]
          go_wp2
          go_roundw
          case rel => exact ⟨[], y, s, _, _, _, _, _, _, rfl, rfl, HN, HYN, by omega, by omega, by omega, HT, HA, HY, os, belowDrewN hb _⟩
          case measure => simp [lenOf]; omega
        · rw [hv] at HT
          have HV := Lib.hid hv; clear hv
          have HS := Lib.hid (kpYes HT.out)
          refine (HK.out false true _).mono ?_
          rintro e w' ⟨rfl, rfl⟩
          rw [HV.out]
          go_wp2_with (at_builtin; refine appI _ rfl (.tmp 43) (.tmp 45) rfl w.heap.size _ _ rfl ((os.drewN _).alloc _) (some ⟨_, 0, none⟩) 1 1 [q] rfl rfl (Rd.lit _ [q] 3 (by simp)) (by simp; omega) (by have := hb.size; simp; omega) ?_; intro v1 w1 o1 _ b1; have B1 := stepA (belowDrewN hb _) b1)
          go_roundw
          case rel => exact ⟨[], y, _, _, _, _, _, _, _, rfl, rfl, HN, HYN, by omega, by omega, by rw [List.length_append]; simp; omega, HS, HA, HY, o1, B1⟩
          case measure => simp [lenOf]; omega
    · have hn0 : 0 < n := by have := HN.out; simp at this; omega
      rcases y with _ | ⟨q, y⟩
      · obtain rfl : m = 0 := by have := HM.out; simpa using this.symm
        have HC := Lib.hid (show cmpF (p :: x) [] = -1 from rfl)
        have HT := Lib.hid ((congrArg (s ++ ·) (mrgA f (p := p) (a := x))).symm.trans HR.out)
        obtain ⟨ad, rfl, _, hc⟩ := (HA.out.below hb).one (k := 0) (by simp)
        rw [List.getElem_cons_zero, addZero] at hc
        obtain ⟨TA, hTA, hRA, _⟩ := cutTail (some ad) n c 1 (by omega) 1 rfl
        have HX := Lib.hid (show Rd w TA (c - 1) x from hRA _ _ HN.out HA.out); clear hRA
        have HXN := Lib.hid (show x.length = n - 1 by have := HN.out; rw [List.length_cons] at this; omega)
        go_wp2_with fail
        refine (iFirst _ _ _ _ HN.out HM.out _ HC.out _ _ c d _ (HA.out.below hb) (HB.out.below hb)).mono ?_
        rintro e w' ⟨rfl, nq, rfl⟩
        go_wp2_with fail
        go_quiet (fail)
        go_wp2_with fail
        rcases hv : f true false with _ | _
        · rw [hv] at HT
          have HV := Lib.hid hv; clear hv
          refine (HK.out true false _).mono ?_
          rintro e w' ⟨rfl, rfl⟩
          rw [HV.out]
          go_wp2
          go_roundw
          case rel => exact ⟨x, [], s, _, _, _, _, _, _, rfl, rfl, HXN, HM, by omega, by omega, by omega, HT, HX, HB, os, belowDrewN hb _⟩
          case measure => simp [lenOf]; omega
        · rw [hv] at HT
          have HV := Lib.hid hv; clear hv
          have HS := Lib.hid (kpYes HT.out)
          refine (HK.out true false _).mono ?_
          rintro e w' ⟨rfl, rfl⟩
          rw [HV.out]
          go_wp2_with (at_builtin; refine appI _ rfl (.tmp 43) (.tmp 45) rfl w.heap.size _ _ rfl ((os.drewN _).alloc _) (some ⟨_, 0, none⟩) 1 1 [p] rfl rfl (Rd.lit _ [p] 3 (by simp)) (by simp; omega) (by have := hb.size; simp; omega) ?_; intro v1 w1 o1 _ b1; have B1 := stepA (belowDrewN hb _) b1)
          go_roundw
          case rel => exact ⟨x, [], _, _, _, _, _, _, _, rfl, rfl, HXN, HM, by omega, by omega, by rw [List.length_append]; simp; omega, HS, HX, HB, o1, B1⟩
          case measure => simp [lenOf]; omega
      · have hm0 : 0 < m := by have := HM.out; simp at this; omega
        rcases Int.lt_trichotomy p q with h | h | h
        · have HC := Lib.hid (cmpLt (a := x) (b := y) h)
          have HT := Lib.hid ((congrArg (s ++ ·) (mrgLt f (a := x) (b := y) h)).symm.trans HR.out)
          obtain ⟨ad, rfl, _, hc⟩ := (HA.out.below hb).one (k := 0) (by simp)
          rw [List.getElem_cons_zero, addZero] at hc
          obtain ⟨TA, hTA, hRA, _⟩ := cutTail (some ad) n c 1 (by omega) 1 rfl
          have HX := Lib.hid (show Rd w TA (c - 1) x from hRA _ _ HN.out HA.out); clear hRA
          have HXN := Lib.hid (show x.length = n - 1 by have := HN.out; rw [List.length_cons] at this; omega)
          go_wp2_with fail
          refine (iFirst _ _ _ _ HN.out HM.out _ HC.out _ _ c d _ (HA.out.below hb) (HB.out.below hb)).mono ?_
          rintro e w' ⟨rfl, nq, rfl⟩
          go_wp2_with fail
          go_quiet (fail)
          go_wp2_with fail
          rcases hv : f true false with _ | _
          · rw [hv] at HT
            have HV := Lib.hid hv; clear hv
            refine (HK.out true false _).mono ?_
            rintro e w' ⟨rfl, rfl⟩
            rw [HV.out]
            go_wp2
            go_roundw
            case rel => exact ⟨x, (q :: y), s, _, _, _, _, _, _, rfl, rfl, HXN, HM, by omega, by omega, by omega, HT, HX, HB, os, belowDrewN hb _⟩
            case measure => simp [lenOf]; omega
          · rw [hv] at HT
            have HV := Lib.hid hv; clear hv
            have HS := Lib.hid (kpYes HT.out)
            refine (HK.out true false _).mono ?_
            rintro e w' ⟨rfl, rfl⟩
            rw [HV.out]
            go_wp2_with (at_builtin; refine appI _ rfl (.tmp 43) (.tmp 45) rfl w.heap.size _ _ rfl ((os.drewN _).alloc _) (some ⟨_, 0, none⟩) 1 1 [p] rfl rfl (Rd.lit _ [p] 3 (by simp)) (by simp; omega) (by have := hb.size; simp; omega) ?_; intro v1 w1 o1 _ b1; have B1 := stepA (belowDrewN hb _) b1)
            go_roundw
            case rel => exact ⟨x, (q :: y), _, _, _, _, _, _, _, rfl, rfl, HXN, HM, by omega, by omega, by rw [List.length_append]; simp; omega, HS, HX, HB, o1, B1⟩
            case measure => simp [lenOf]; omega
        · subst h
          have HC := Lib.hid (cmpEq (p := p) (a := x) (b := y))
          have HT := Lib.hid ((congrArg (s ++ ·) (mrgEq f (p := p) (a := x) (b := y))).symm.trans HR.out)
          obtain ⟨ad, rfl, _, hc⟩ := (HA.out.below hb).one (k := 0) (by simp)
          rw [List.getElem_cons_zero, addZero] at hc
          obtain ⟨TA, hTA, hRA, _⟩ := cutTail (some ad) n c 1 (by omega) 1 rfl
          have HX := Lib.hid (show Rd w TA (c - 1) x from hRA _ _ HN.out HA.out); clear hRA
          have HXN := Lib.hid (show x.length = n - 1 by have := HN.out; rw [List.length_cons] at this; omega)
          obtain ⟨bd, rfl, _, hd⟩ := (HB.out.below hb).one (k := 0) (by simp)
          rw [List.getElem_cons_zero, addZero] at hd
          obtain ⟨TB, hTB, hRB, _⟩ := cutTail (some bd) m d 1 (by omega) 1 rfl
          have HY := Lib.hid (show Rd w TB (d - 1) y from hRB _ _ HM.out HB.out); clear hRB
          have HYN := Lib.hid (show y.length = m - 1 by have := HM.out; rw [List.length_cons] at this; omega)
          go_wp2_with fail
          refine (iFirst _ _ _ _ HN.out HM.out _ HC.out _ _ c d _ (HA.out.below hb) (HB.out.below hb)).mono ?_
          rintro e w' ⟨rfl, nq, rfl⟩
          go_wp2_with fail
          go_quiet (fail)
          go_wp2_with fail
          go_quiet (fail)
          go_wp2_with fail
          rcases hv : f true true with _ | _
          · rw [hv] at HT
            have HV := Lib.hid hv; clear hv
            refine (HK.out true true _).mono ?_
            rintro e w' ⟨rfl, rfl⟩
            rw [HV.out]
            go_wp2
            go_roundw
            case rel => exact ⟨x, y, s, _, _, _, _, _, _, rfl, rfl, HXN, HYN, by omega, by omega, by omega, HT, HX, HY, os, belowDrewN hb _⟩
            case measure => simp [lenOf]; omega
          · rw [hv] at HT
            have HV := Lib.hid hv; clear hv
            have HS := Lib.hid (kpYes HT.out)
            refine (HK.out true true _).mono ?_
            rintro e w' ⟨rfl, rfl⟩
            rw [HV.out]
            go_wp2_with (at_builtin; refine appI _ rfl (.tmp 43) (.tmp 45) rfl w.heap.size _ _ rfl ((os.drewN _).alloc _) (some ⟨_, 0, none⟩) 1 1 [p] rfl rfl (Rd.lit _ [p] 3 (by simp)) (by simp; omega) (by have := hb.size; simp; omega) ?_; intro v1 w1 o1 _ b1; have B1 := stepA (belowDrewN hb _) b1)
            go_roundw
            case rel => exact ⟨x, y, _, _, _, _, _, _, _, rfl, rfl, HXN, HYN, by omega, by omega, by rw [List.length_append]; simp; omega, HS, HX, HY, o1, B1⟩
            case measure => simp [lenOf]; omega
        · have HC := Lib.hid (cmpGt (a := x) (b := y) h)
          have HT := Lib.hid ((congrArg (s ++ ·) (mrgGt f (a := x) (b := y) h)).symm.trans HR.out)
          obtain ⟨bd, rfl, _, hd⟩ := (HB.out.below hb).one (k := 0) (by simp)
          rw [List.getElem_cons_zero, addZero] at hd
          obtain ⟨TB, hTB, hRB, _⟩ := cutTail (some bd) m d 1 (by omega) 1 rfl
          have HY := Lib.hid (show Rd w TB (d - 1) y from hRB _ _ HM.out HB.out); clear hRB
          have HYN := Lib.hid (show y.length = m - 1 by have := HM.out; rw [List.length_cons] at this; omega)
          go_wp2_with fail
          refine (iFirst _ _ _ _ HN.out HM.out _ HC.out _ _ c d _ (HA.out.below hb) (HB.out.below hb)).mono ?_
          rintro e w' ⟨rfl, nq, rfl⟩
          go_wp2_with fail
          go_quiet (fail)
          go_wp2_with fail
          rcases hv : f false true with _ | _
          · rw [hv] at HT
            have HV := Lib.hid hv; clear hv
            refine (HK.out false true _).mono ?_
            rintro e w' ⟨rfl, rfl⟩
            rw [HV.out]
            go_wp2
            go_roundw
            case rel => exact ⟨(p :: x), y, s, _, _, _, _, _, _, rfl, rfl, HN, HYN, by omega, by omega, by omega, HT, HA, HY, os, belowDrewN hb _⟩
            case measure => simp [lenOf]; omega
          · rw [hv] at HT
            have HV := Lib.hid hv; clear hv
            have HS := Lib.hid (kpYes HT.out)
            refine (HK.out false true _).mono ?_
            rintro e w' ⟨rfl, rfl⟩
            rw [HV.out]
            go_wp2_with (at_builtin; refine appI _ rfl (.tmp 43) (.tmp 45) rfl w.heap.size _ _ rfl ((os.drewN _).alloc _) (some ⟨_, 0, none⟩) 1 1 [q] rfl rfl (Rd.lit _ [q] 3 (by simp)) (by simp; omega) (by have := hb.size; simp; omega) ?_; intro v1 w1 o1 _ b1; have B1 := stepA (belowDrewN hb _) b1)
            go_roundw
            case rel => exact ⟨(p :: x), y, _, _, _, _, _, _, _, rfl, rfl, HN, HYN, by omega, by omega, by rw [List.length_append]; simp; omega, HS, HA, HY, o1, B1⟩
            case measure => simp [lenOf]; omega
    -- END
end Go.Proofs.YtpkagpobobmnfaaGreatDoor

namespace Go.Proofs.YtpkagpobobmnfaaGreatDoor
open Go.RowKit

theorem iSetOfN (l : List Int) (n : Nat) (hn : l.length = n) (r : List Int) (hr : mk l = r) (hs : n ≤ 65536) (A : Option Addr) (c : Nat) (w : World) (ha : Rd w A c l) :
    Calls Tryz.prog 97 #[.slice A n c] w (GivesL r w) := by
  subst hn; exact iSetOf l r hr hs A c w ha

theorem keepM (p q : Bool) (w : World) : Calls Tryz.prog 145 #[.bool p, .bool q] w fun e w' => e = .returned (.bool (fM p q)) ∧ w = w' := by
  cases p <;> cases q <;>
  (go_enter Tryz.func145, Tryz.ntmps145
   go_wp2
   go_ret
   exact ⟨rfl, rfl⟩)
theorem entM : ∀ args w, (callFunc 145 args).run Tryz.prog w = .ok (.enter 145 args) w := enters_of Tryz.func145 (by kernel_rfl) rfl

set_option maxHeartbeats 400000 in
theorem iMinus (l m : List Int) (n k : Nat) (hn : l.length = n) (hk : m.length = k) (r : List Int) (hr : min' l m = r) (hs : n ≤ 30000) (hs' : k ≤ 30000) (A B : Option Addr) (c d : Nat) (w : World) (ha : Rd w A c l) (hb : Rd w B d m) :
    Calls Tryz.prog 99 #[.slice A n c, .slice B k d] w (GivesL r w) := by
  have HA := Lib.hid ha; clear ha
  have HB := Lib.hid hb; clear hb
  have HR := Lib.hid ((mrgM l m).trans hr); clear hr
  have HN := Lib.hid hn; clear hn
  have HK := Lib.hid hk; clear hk
  go_enter Tryz.func99, Tryz.ntmps99
  go_wp2_with fail
  refine (iSetOfN l n HN.out _ rfl (by omega) A c _ HA.out).mono ?_
  rintro e w1 ⟨A1, c1, rfl, r1, b1⟩
  have hl1 := lenMk l
  have hl2 := lenMk m
  rw [HN.out] at hl1
  rw [HK.out] at hl2
  obtain ⟨n1, HN1⟩ : ∃ n1, Hid ((mk l).length = n1) := ⟨_, rfl⟩
  rw [HN1.out] at hl1 ⊢
  go_wp2_with fail
  refine (iSetOfN m k HK.out _ rfl (by omega) B d _ (HB.out.below b1)).mono ?_
  rintro e w2 ⟨A2, c2, rfl, r2, b2⟩
  obtain ⟨n2, HN2⟩ : ∃ n2, Hid ((mk m).length = n2) := ⟨_, rfl⟩
  rw [HN2.out] at hl2 ⊢
  go_wp2_with fail
  refine (iMerge fM 145 entM keepM (mk l) (mk m) n1 n2 HN1.out HN2.out r HR.out (by omega) (by omega) A1 A2 c1 c2 _ (r1.below b2) r2).mono ?_
  rintro e w3 ⟨A3, c3, rfl, r3, b3⟩
  go_wp2
  go_ret
  exact ⟨A3, c3, rfl, r3, belowThen (belowThen b1 b2) b3⟩

set_option maxHeartbeats 400000 in
theorem iRemove (l : List Int) (x : Int) (n : Nat) (hn : l.length = n) (r : List Int) (hr : min' l [x] = r) (hs : n ≤ 30000) (A : Option Addr) (c : Nat) (w : World) (ha : Rd w A c l) :
    Calls Tryz.prog 52 #[.slice A n c, .int .i64 x] w (GivesL r w) := by
  have HA := Lib.hid ha; clear ha
  have HR := Lib.hid hr; clear hr
  have HN := Lib.hid hn; clear hn
  have B0 : Below w.heap.size w (w.alloc (.cells #[.int .i64 x] 3)) := (Below.refl _ w).alloc (Nat.le_refl _) _
  go_enter Tryz.func52, Tryz.ntmps52
  go_wp2_with fail
  refine (iSetOfN [x] 1 rfl [x] (mkSelf (by simp [Srt])) (by omega) _ 1 _ (Rd.lit w [x] 3 (by simp))).mono ?_
  rintro e w1 ⟨A1, c1, rfl, r1, b1⟩
  have B1 := belowThen B0 b1
  go_wp2_with fail
  refine (iMinus l [x] n 1 HN.out rfl r HR.out hs (by omega) A A1 c c1 _ (HA.out.below B1) r1).mono ?_
  rintro e w3 ⟨A3, c3, rfl, r3, b3⟩
  go_wp2
  go_ret
  exact ⟨A3, c3, rfl, r3, belowThen B1 b3⟩

end Go.Proofs.YtpkagpobobmnfaaGreatDoor

namespace Go.Proofs.YtpkagpobobmnfaaGreatDoor
open Go.RowKit

set_option maxHeartbeats 400000 in
theorem rHas (l : List Int) (n : Int) (r : Bool) (hr : memB l n = r) (A : Option Addr) (c : Nat) (w : World) (ha : Rd w A c l) :
    Calls Tryz.prog 116 #[.slice A l.length c, .int .i64 n] w fun e w' => e = .returned (.bool r) ∧ w = w' := by
  have hla := ha.le
  have hca := ha.max
  unfold maxLen at hca
  have HA := Lib.hid ha; clear ha
  have HR := Lib.hid hr; clear hr
  go_enter Tryz.func116, Tryz.ntmps116
  go_wp2
  go_loop [5] (fun i => ∃ k : Nat, k ≤ l.length ∧ i = .int .i64 k ∧ Hid (∀ x ∈ l.take k, x ≠ n)) (fun i => l.length - (intOf i).toNat)
  case atStart => exact ⟨0, Nat.zero_le _, rfl, Lib.hid (by simp)⟩
  case round =>
    obtain ⟨k, hk, rfl, HT⟩ := hrel
    by_cases hlt : k < l.length
    · obtain ⟨ad, rfl, _, hc⟩ := HA.out.one hlt
      by_cases hx : l[k] = n
      · have HX := Lib.hid (HR.out.symm.trans (memB_yes hlt hx))
        rw [hx] at hc
        clear hx
        have hyy : (n == n) = true := by simp
        go_wp2
        go_ret
        exact ⟨retB HX.out.symm, rfl⟩
      · have HX := Lib.hid (neTakeSucc hlt HT.out hx)
        generalize l[k] = x at *
        have hyy : (x == n) = false := by simpa using hx
        go_wp2
        go_round
        case rel => exact ⟨k + 1, by omega, by go_num, HX⟩
        case measure => simp [intOf]; omega
    · have HX := Lib.hid (HR.out.symm.trans (memB_no (by omega) HT.out))
      go_wp2
      go_ret
      exact ⟨retB HX.out.symm, rfl⟩

set_option maxHeartbeats 400000 in
theorem rInsert (l : List Int) (n : Int) (r : List Int) (hr : ins n l = r) (hs : l.length ≤ 65536) (A : Option Addr) (c : Nat) (w : World) (ha : Rd w A c l) :
    Calls Tryz.prog 117 #[.slice A l.length c, .int .i64 n] w (GivesL r w) := by
  have hla := ha.le
  have hca := ha.max
  unfold maxLen at hca
  have HA := Lib.hid ha; clear ha
  have HR := Lib.hid hr; clear hr
  have hO := Lib.hid (OwnI.made w w.heap.size (Nat.le_refl _))
  go_enter Tryz.func117, Tryz.ntmps117
  go_wp2
  go_loop [5] (fun i => ∃ k : Nat, k ≤ l.length ∧ i = .int .i64 k ∧ Hid (∀ x ∈ l.take k, x < n)) (fun i => l.length - (intOf i).toNat)
  case atStart => exact ⟨0, Nat.zero_le _, rfl, Lib.hid (by simp)⟩
  case round =>
    obtain ⟨k, hk, rfl, HT⟩ := hrel
    by_cases hgo : ∃ h : k < l.length, l[k] < n
    · obtain ⟨hlt, hx⟩ := hgo
      obtain ⟨ad, rfl, _, hc⟩ := HA.out.one hlt
      have HX := Lib.hid (ltTakeSucc hlt HT.out hx)
      generalize l[k] = x at *
      go_wp2
      go_round
      case rel => exact ⟨k + 1, by omega, by go_num, HX⟩
      case measure => simp [intOf]; omega
    · have HX := Lib.hid (HR.out.symm.trans (insAt HT.out (fun h hh => hgo ⟨h, hh⟩) hk).symm)
      have HK := Lib.hid ((HA.out.below ((Below.refl _ w).alloc (Nat.le_refl _) (.cells #[] 3))).take k hk)
      have hkl : (l.take k).length = k := by rw [List.length_take]; omega
      have HKL := Lib.hid hkl; clear hkl
      by_cases hlt : k < l.length
      · obtain ⟨ad, rfl, _, hc⟩ := HA.out.one hlt
        have hx : ¬ l[k] < n := fun hh => hgo ⟨hlt, hh⟩
        generalize l[k] = x at *
        have hck : ¬ c = k := by omega
        have HD := HA.out.drop k hk
        rw [if_neg hck] at HD
        have HD' := Lib.hid HD; clear HD
        go_wp2_with (first
          | (at_builtin; refine appI _ rfl (.tmp 21) (.tmp 24) rfl w.heap.size _ [] rfl hO.out _ k c (l.take k) rfl HKL.out.symm HK.out (by simp; omega) (by simp) ?_; intro v1 w1 o1 _ b1; have B1 := stepA0 b1)
          | (at_builtin; refine appI _ rfl (.tmp 26) (.tmp 28) rfl w.heap.size _ _ rfl (o1.alloc _) (some ⟨w1.heap.size, 0, none⟩) 1 1 [n] rfl rfl (Rd.lit w1 [n] 3 (by simp)) (by simp; omega) (by have := B1.size; simp; omega) ?_; intro v2 w2 o2 _ b2; have B2 := stepA B1 b2)
          | (at_builtin; refine appI _ rfl (.tmp 30) (.tmp 33) rfl w.heap.size _ _ rfl o2 _ _ _ (l.drop k) rfl (by simp; done) (HD'.out.below B2) (by simp; omega) B2.size ?_; intro v3 w3 o3 _ b3; have B3 := B2.trans b3))
        rw [List.nil_append, ← HX.out] at o3
        obtain ⟨A3, c3, rfl, r3, _⟩ := o3.rd
        go_ret
        exact ⟨A3, c3, rfl, r3, B3⟩
      · have hkl : k = l.length := by omega
        subst hkl
        clear hgo
        have hz : (l.length - l.length : Nat) = 0 := by omega
        have HY := Lib.hid (show r = l.take l.length ++ [n] ++ [] by rw [HX.out, List.drop_length]; done)
        by_cases hck : c = l.length
        · have HD := HA.out.drop l.length hk
          rw [if_pos hck] at HD
          subst hck
          rw [Nat.sub_self, List.drop_length] at HD
          have HD' := Lib.hid HD; clear HD
          go_wp2_with (first
            | (at_builtin; refine appI _ rfl (.tmp 21) (.tmp 24) rfl w.heap.size _ [] rfl hO.out _ l.length l.length (l.take l.length) rfl HKL.out.symm HK.out (by simp; omega) (by simp) ?_; intro v1 w1 o1 _ b1; have B1 := stepA0 b1)
            | (at_builtin; refine appI _ rfl (.tmp 26) (.tmp 28) rfl w.heap.size _ _ rfl (o1.alloc _) (some ⟨w1.heap.size, 0, none⟩) 1 1 [n] rfl rfl (Rd.lit w1 [n] 3 (by simp)) (by simp; omega) (by have := B1.size; simp; omega) ?_; intro v2 w2 o2 _ b2; have B2 := stepA B1 b2)
            | (at_builtin; refine appI _ rfl (.tmp 30) (.tmp 33) rfl w.heap.size _ _ rfl o2 _ _ _ [] rfl (by simp; done) (HD'.out.below B2) (by simp; omega) B2.size ?_; intro v3 w3 o3 _ b3; have B3 := B2.trans b3))
          rw [List.nil_append, ← HY.out] at o3
          obtain ⟨A3, c3, rfl, r3, _⟩ := o3.rd
          go_ret
          exact ⟨A3, c3, rfl, r3, B3⟩

        · have HD := HA.out.drop l.length hk
          rw [if_neg hck] at HD
          rw [List.drop_length] at HD
          have HD' := Lib.hid HD; clear HD
          go_wp2_with (first
            | (at_builtin; refine appI _ rfl (.tmp 21) (.tmp 24) rfl w.heap.size _ [] rfl hO.out _ l.length c (l.take l.length) rfl HKL.out.symm HK.out (by simp; omega) (by simp) ?_; intro v1 w1 o1 _ b1; have B1 := stepA0 b1)
            | (at_builtin; refine appI _ rfl (.tmp 26) (.tmp 28) rfl w.heap.size _ _ rfl (o1.alloc _) (some ⟨w1.heap.size, 0, none⟩) 1 1 [n] rfl rfl (Rd.lit w1 [n] 3 (by simp)) (by simp; omega) (by have := B1.size; simp; omega) ?_; intro v2 w2 o2 _ b2; have B2 := stepA B1 b2)
            | (at_builtin; refine appI _ rfl (.tmp 30) (.tmp 33) rfl w.heap.size _ _ rfl o2 _ _ _ [] rfl (by simp; done) (HD'.out.below B2) (by simp; omega) B2.size ?_; intro v3 w3 o3 _ b3; have B3 := B2.trans b3))
          rw [List.nil_append, ← HY.out] at o3
          obtain ⟨A3, c3, rfl, r3, _⟩ := o3.rd
          go_ret
          exact ⟨A3, c3, rfl, r3, B3⟩


set_option maxHeartbeats 400000 in
theorem rMake (l : List Int) (r : List Int) (hr : mk l = r) (hs : l.length ≤ 65536) (A : Option Addr) (c : Nat) (w : World) (ha : Rd w A c l) :
    Calls Tryz.prog 65 #[.slice A l.length c] w (GivesL r w) := by
  have hla := ha.le
  have hca := ha.max
  unfold maxLen at hca
  have HA := Lib.hid ha; clear ha
  have HR := Lib.hid hr; clear hr
  go_enter Tryz.func65, Tryz.ntmps65
  go_wp2
  go_loopw [3, 4] (fun o i wr => ∃ (k : Nat) (A' : Option Addr) (c' : Nat) (s : List Int), k ≤ l.length ∧ i = .int .i64 k ∧ o = .slice A' s.length c' ∧ Hid (mk (l.take k) = s) ∧ Rd wr A' c' s ∧ Below w.heap.size w wr) (fun _ i _ => l.length - (intOf i).toNat)
  case atStart => exact ⟨0, some ⟨w.heap.size, 0, none⟩, 0, [], Nat.zero_le _, rfl, rfl, Lib.hid rfl, Rd.lit w [] 3 (by simp), (Below.refl _ _).alloc (Nat.le_refl _) _⟩
  case round =>
    obtain ⟨k, A', c', s, hk, rfl, rfl, HT, rs, hb⟩ := hrel
    have hsl : s.length ≤ k := by
      have := lenMk (l.take k); rw [HT.out, List.length_take] at this; omega
    by_cases hlt : k < l.length
    · obtain ⟨ad, rfl, _, hc⟩ := (HA.out.below hb).one hlt
      have HM := Lib.hid ((mkSucc hlt).trans (by rw [HT.out]))
      rcases hx : memB s l[k] with _ | _
      · have HX := Lib.hid (HM.out.trans (addNo hx))
        have HY := Lib.hid hx; clear hx
        generalize l[k] = x at *
        go_wp2_with fail
        refine (rHas s x false HY.out A' c' _ rs).mono ?_
        rintro e w' ⟨rfl, rfl⟩
        go_wp2_with fail
        refine (rInsert s x (ins x s) rfl (by omega) A' c' _ rs).mono ?_
        rintro e w1 ⟨A1, c1, rfl, r1, b1⟩
        go_wp2
        go_roundw
        case rel => exact ⟨k + 1, A1, c1, _, by omega, by go_num, rfl, HX, r1, belowThen hb b1⟩
        case measure => simp [intOf]; omega
      · have HX := Lib.hid (HM.out.trans (addYes hx))
        have HY := Lib.hid hx; clear hx
        generalize l[k] = x at *
        go_wp2_with fail
        refine (rHas s x true HY.out A' c' _ rs).mono ?_
        rintro e w' ⟨rfl, rfl⟩
        go_wp2
        go_roundw
        case rel => exact ⟨k + 1, A', c', _, by omega, by go_num, rfl, HX, rs, hb⟩
        case measure => simp [intOf]; omega
    · have hkl : k = l.length := by omega
      have e : r = s := by rw [← HR.out, ← HT.out, hkl, List.take_length]
      have HE := Lib.hid e; clear e
      clear hkl
      go_wp2
      go_ret
      rw [HE.out]
      exact ⟨A', c', rfl, rs, hb⟩

theorem rMakeN (l : List Int) (n : Nat) (hn : n = l.length) (r : List Int) (hr : mk l = r) (hs : l.length ≤ 65536) (A : Option Addr) (c : Nat) (w : World) (ha : Rd w A c l) :
    Calls Tryz.prog 65 #[.slice A n c] w (GivesL r w) := by
  subst hn; exact rMake l r hr hs A c w ha

end Go.Proofs.YtpkagpobobmnfaaGreatDoor

namespace Go.Proofs.YtpkagpobobmnfaaGreatDoor
open Go.RowKit Go.Maps

/-- The numbers that follow i, as they stand in the list. -/
def sl (l : Prs) (i : Nat) : List Int := l.filterMap fun p => if p.1 = (i : Int) then some p.2 else none
/-- The slices vs are rows of integers of the call's own, no two in one block. -/
def RowsI (w : World) (base : Nat) (vs : List Value) (C : Nat → List Int) (n : Nat) : Prop :=
  (∀ i, i < n → ∃ v, vs[i]? = some v ∧ OwnI w base v (C i)) ∧ ∀ i j u v g, i < n → j < n → i ≠ j → vs[i]? = some u → vs[j]? = some v → u.ownBlock = some g → v.ownBlock ≠ some g
theorem RowsI.chg {w w' : World} {F : Nat → Prop} {base : Nat} {vs : List Value} {C : Nat → List Int} {n : Nat} (h : RowsI w base vs C n) (hc : Chg w w' F) (hF : ∀ i v g, i < n → vs[i]? = some v → v.ownBlock = some g → F g) : RowsI w' base vs C n :=
  ⟨fun i hi => by obtain ⟨v, h1, h2⟩ := h.1 i hi; exact ⟨v, h1, h2.chg hc fun g hg => hF i v g hi h1 hg⟩, h.2⟩
theorem RowsI.start (w : World) (base n : Nat) (l : Prs) : RowsI w base (List.replicate n (.slice none 0 0)) (sl (l.take 0)) n :=
  ⟨fun i hi => ⟨_, by rw [List.getElem?_replicate, if_pos hi], by simp [sl]; exact OwnI.nil _ _⟩, fun i j u v g hi _ _ h1 _ h3 => by
    rw [List.getElem?_replicate, if_pos hi] at h1
    injection h1 with h1
    subst h1
    simp [Value.ownBlock] at h3⟩
theorem rowsPut {wr X w2 : World} {base bg g n i : Nat} {vs : List Value} {C : Nat → List Int} {v v' : Value} {y : Int} (h : RowsI wr base vs C n) (ho : OwnL wr bg (.slice (some ⟨g, 0, none⟩) n n) vs) (hlen : vs.length = n) (hi : i < n) (hv : vs[i]? = some v)
    (c1 : Below wr.heap.size wr X) (hg : X.grownBy w2 v.ownBlock) (hm : Moved X v v' (C i).length 1) (ho' : OwnI w2 base v' (C i ++ [y])) (C' : Nat → List Int) (hC : ∀ j, C' j = if j = i then C i ++ [y] else C j) :
    RowsI (w2.setCell ⟨g, i, none⟩ v') base (vs.set i v') C' n ∧ OwnL (w2.setCell ⟨g, i, none⟩ v') bg (.slice (some ⟨g, 0, none⟩) n n) (vs.set i v') := by
  have hX : RowsI X base vs C n := h.chg (Chg.ofBelow c1 fun _ => True) fun _ _ _ _ _ _ => trivial
  have hoX : OwnL X bg (.slice (some ⟨g, 0, none⟩) n n) vs := ho.chg (Chg.ofBelow c1 fun _ => True) fun _ _ => trivial
  have hc2 : Chg X w2 (fun k => v.ownBlock ≠ some k) := Chg.ofGrown hg fun k hk => hk
  obtain ⟨v0, e0, hown0⟩ := hX.1 i hi
  rw [hv] at e0
  injection e0 with e0
  subst e0
  have hgv : ∀ k, v.ownBlock = some k → k ≠ g := fun k hk e => ownApart hown0 hoX (by decide) hk (by rw [e]; rfl)
  have ho2 : OwnL w2 bg (.slice (some ⟨g, 0, none⟩) n n) vs := hoX.chg hc2 fun k hk hv2 => by
    have : g = k := by simpa [Value.ownBlock] using hk
    exact hgv k hv2 this.symm
  have hgv' : ∀ k, v'.ownBlock = some k → k ≠ g := fun k hk e => ownApart ho' ho2 (by decide) hk (by rw [e]; rfl)
  have hc3 : Chg w2 (w2.setCell ⟨g, i, none⟩ v') (fun k => k ≠ g) := Chg.setCell w2 ⟨g, i, none⟩ v'
  refine ⟨⟨fun j hj => ?_, fun j k a b q hj hk hjk ha hb hq => ?_⟩, ?_⟩
  · rw [hC j]
    by_cases e : j = i
    · subst e
      rw [if_pos rfl]
      exact ⟨v', by rw [List.getElem?_set_self (by omega)], ho'.chg hc3 hgv'⟩
    · rw [if_neg e]
      obtain ⟨u, h1, h2⟩ := hX.1 j hj
      refine ⟨u, by rw [List.getElem?_set_ne (Ne.symm e)]; exact h1, ((OwnI.chg h2 hc2 fun q hq hv2 => hX.2 j i u v q hj hi e h1 hv hq hv2).chg hc3 fun q hq e' => ?_)⟩
      exact ownApart h2 hoX (by decide) hq (by rw [e']; rfl)
  · have hb2 : ∀ q, v'.ownBlock = some q → v.ownBlock = some q ∨ X.heap.size ≤ q := fun q hq => by
      rcases movedBlock hm with e | e
      · exact .inl (by rw [← e]; exact hq)
      · exact .inr (by rw [e] at hq; injection hq with hq; omega)
    have hlt : ∀ m, m < n → m ≠ i → ∀ u q, vs[m]? = some u → u.ownBlock = some q → v.ownBlock ≠ some q ∧ q < X.heap.size := fun m hm hmi u q hu huq => by
      obtain ⟨u', h1, h2⟩ := hX.1 m hm
      rw [hu] at h1
      injection h1 with h1
      subst h1
      exact ⟨hX.2 m i u v q hm hi hmi hu hv huq, (h2.lt huq).2⟩
    by_cases ej : j = i
    · subst ej
      rw [List.getElem?_set_self (by omega)] at ha
      injection ha with ha
      subst ha
      rw [List.getElem?_set_ne hjk] at hb
      intro hbq
      obtain ⟨h1, h2⟩ := hlt k hk (Ne.symm hjk) b q hb hbq
      rcases hb2 q hq with h3 | h3
      · exact h1 h3
      · omega
    · rw [List.getElem?_set_ne (Ne.symm ej)] at ha
      obtain ⟨h1, h2⟩ := hlt j hj ej a q ha hq
      by_cases ek : k = i
      · subst ek
        rw [List.getElem?_set_self (by omega)] at hb
        injection hb with hb
        subst hb
        intro hbq
        rcases hb2 q hbq with h3 | h3
        · exact h1 h3
        · omega
      · rw [List.getElem?_set_ne (Ne.symm ek)] at hb
        exact hX.2 j k a b q hj hk hjk ha hb hq
  · subst hlen
    have := (World.ownsRow.stored ho2 i v').1
    unfold OwnL
    rw [List.length_set]
    exact this

/-- The slice reads as the slices C 0, .., C (n - 1). -/
def RdF (w : World) (A : Option Addr) (c : Nat) (C : Nat → List Int) (n : Nat) : Prop :=
  ∃ vs, Rds w A c vs ∧ vs.length = n ∧ ∀ i, i < n → ∃ A' c', vs[i]? = some (.slice A' (C i).length c') ∧ Rd w A' c' (C i)
section
variable {w w' : World} {A : Option Addr} {c n : Nat} {C : Nat → List Int}
theorem RdF.below (h : RdF w A c C n) (hb : Below w.heap.size w w') : RdF w' A c C n := by
  obtain ⟨vs, h1, h2, h3⟩ := h
  refine ⟨vs, h1.below hb, h2, fun i hi => ?_⟩
  obtain ⟨A', c', e, hr⟩ := h3 i hi
  exact ⟨A', c', e, hr.below hb⟩
theorem RdF.one (h : RdF w A c C n) {k : Nat} (hk : k < n) : ∃ ad A' c', A = some ad ∧ ad.block < w.heap.size ∧ w.cell? (ad.add k) = some (.slice A' (C k).length c') ∧ Rd w A' c' (C k) := by
  obtain ⟨vs, h1, h2, h3⟩ := h
  obtain ⟨A', c', e, hr⟩ := h3 k hk
  obtain ⟨ad, ea, hb, hc⟩ := h1.at_ (by omega)
  exact ⟨ad, A', c', ea, hb, hc k _ e, hr⟩
theorem RdF.le (h : RdF w A c C n) : n ≤ c := by obtain ⟨vs, h1, h2, _⟩ := h; rw [← h2]; exact h1.le
theorem RdF.max (h : RdF w A c C n) : c ≤ maxLen := by obtain ⟨vs, h1, _, _⟩ := h; exact h1.max
end
end Go.Proofs.YtpkagpobobmnfaaGreatDoor
