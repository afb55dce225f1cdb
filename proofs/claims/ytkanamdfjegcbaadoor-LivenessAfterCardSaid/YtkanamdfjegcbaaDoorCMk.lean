/-
  The contracts of the program's functions that make sets of integers: setOf (through the library's Sort and Compact) and Make.
-/
import Derived.Test.YtkanamdfjegcbaaDoorCPure
import Derived.Test.YtkanamdfjegcbaaDoorCOwn
import Derived.Test.YtkanamdfjegcbaaDoorShelf
namespace Go.Proofs.YtkanamdfjegcbaaDoor
open Go.RowKit Go.Sort

theorem compactFacts (s : List Int) (hs : s.Pairwise (· ≤ ·)) : ∀ m, m ≤ s.length → Srt (Lib.compactUpTo s.toArray m) ∧ ∀ x, x ∈ Lib.compactUpTo s.toArray m ↔ x ∈ s.take m := by
  intro m
  induction m with
  | zero => intro _; exact ⟨by simp [Lib.compactUpTo, Srt], by simp [Lib.compactUpTo]⟩
  | succ m ih =>
    intro hm
    obtain ⟨h1, h2⟩ := ih (by omega)
    have hg : s.toArray[m]! = s[m] := by simp [show m < s.length by omega]
    rw [Lib.compactUpTo_succ, List.take_succ_eq_append_getElem (by omega), hg]
    rcases hk : Lib.keeps s.toArray m with _ | _
    · have hk' : ¬ (m = 0 ∨ s.toArray[m]! ≠ s.toArray[m - 1]!) := by simpa [Lib.keeps] using hk
      have hm0 : 0 < m := by omega
      have hg' : s.toArray[m - 1]! = s[m - 1] := by simp [show m - 1 < s.length by omega]
      rw [hg, hg'] at hk'
      have e : s[m] = s[m - 1] := by omega
      simp only [Bool.false_eq_true, if_false, List.append_nil]
      refine ⟨h1, fun x => ?_⟩
      rw [h2, List.mem_append]
      constructor
      · exact Or.inl
      · rintro (h | h)
        · exact h
        · obtain rfl : x = s[m] := by simpa using h
          rw [e]
          exact List.mem_take_iff_getElem.2 ⟨m - 1, by omega, rfl⟩
    · have hk' : m = 0 ∨ s.toArray[m]! ≠ s.toArray[m - 1]! := by simpa [Lib.keeps] using hk
      simp only [if_true]
      refine ⟨List.pairwise_append.2 ⟨h1, by simp, fun x hx y hy => ?_⟩, fun x => by rw [List.mem_append, List.mem_append, h2]⟩
      obtain rfl : y = s[m] := by simpa using hy
      rw [h2] at hx
      obtain ⟨i, hi, rfl⟩ := List.mem_take_iff_getElem.1 hx
      rcases hk' with rfl | hk'
      · omega
      have hg' : s.toArray[m - 1]! = s[m - 1] := by simp [show m - 1 < s.length by omega]
      rw [hg, hg'] at hk'
      have a1 : s[m - 1] ≤ s[m] := List.pairwise_iff_getElem.1 hs (m - 1) m (by omega) (by omega) (by omega)
      by_cases e : i = m - 1
      · subst e; omega
      · have a2 : s[i] ≤ s[m - 1] := List.pairwise_iff_getElem.1 hs i (m - 1) (by omega) (by omega) (by omega)
        omega
theorem compactSort (l : List Int) : Lib.compact (l.mergeSort fun x y => decide (x ≤ y)) = mk l := by
  have hs : (l.mergeSort fun x y => decide (x ≤ y)).Pairwise (· ≤ ·) := by
    have := List.pairwise_mergeSort (le := fun x y : Int => decide (x ≤ y)) (fun a b c h1 h2 => by simp at *; omega) (fun a b => by simp; omega) l
    rw [List.pairwise_iff_getElem] at this ⊢
    intro i j hi hj hij
    simpa using this i j hi hj hij
  obtain ⟨h1, h2⟩ := compactFacts _ hs _ (Nat.le_refl _)
  refine mkEq h1 fun x => ?_
  show x ∈ Lib.compactUpTo _ _ ↔ _
  rw [h2, List.take_length]
  exact (List.mergeSort_perm l _).mem_iff

theorem OwnI.holds {w : World} {base : Nat} {v : Value} {l : List Int} (h : OwnI w base v l) (hl : 0 < l.length) : ∃ g cap, v = .slice (some ⟨g, 0, none⟩) l.length cap ∧ base ≤ g ∧ g < w.heap.size ∧ l.length ≤ cap ∧ cap ≤ maxLen ∧ Holds (Value.int .i64) w g 0 l.toArray := by
  rcases h.2 with ⟨_, h0⟩ | ⟨g, cap, cur, hv, hb, hg, hc, hm, hs, ht⟩
  · omega
  · have hlt : g < w.heap.size := (World.ownsRow.lt h g (by rw [hv]; rfl)).2
    refine ⟨g, cap, hv, hb, hlt, hc, hm, fun j hj => ⟨?_, ?_⟩⟩
    · have hj' : j < l.length := by simpa using hj
      have := World.ownsRow.cells h (g := g) (by rw [hv]; rfl) j (.int .i64 l[j]) (by simp [List.getElem?_eq_getElem hj'])
      rw [Addr.add_lit] at this
      rw [this]
      simp [hj']
    · simp [World.frozen?, hg]

theorem belowPut {B : Nat} {a w : World} (h : Below B a w) {g : Nat} (hg : B ≤ g) (d : Array Int) (off : Nat) : Below B a (putRow (Value.int .i64) w g off d) :=
  h.trans ⟨rfl, rfl, rfl, by simp, fun k hk => by
    simp only [putRow, mapBlock, Array.getElem?_modify]
    rw [if_neg (by omega)]⟩
theorem belowAhead {B : Nat} {a w : World} (h : Below B a w) (n : Nat) : Below B a (Sort.ahead w n) := ⟨h.os, h.tape, h.output, h.size, h.block⟩
theorem belowGrow {B : Nat} {a w : World} (h : Below B a w) (hB : B ≤ w.heap.size) (os : Array Obj) : Below B a (grow w os) :=
  h.trans ⟨rfl, rfl, rfl, by simp, fun k hk => heap_grow_old w os (by omega)⟩

/-- sorting and compacting an owned row, as the library does it -/
theorem sortCompact (l : List Int) (hl : 0 < l.length) (hs : l.length ≤ 100000) (w1 : World) (B g cap : Nat) (hB : B ≤ g) (hg : g < w1.heap.size) (hc : l.length ≤ cap) (hm : cap ≤ maxLen) (hH : Holds (Value.int .i64) w1 g 0 l.toArray) :
    Calls Tryd.prog 106 #[.slice (some ⟨g, 0, none⟩) l.length cap] w1 fun e w2 => e = .returned (.tuple #[]) ∧ Below B w1 w2 ∧
      Calls Tryd.prog 107 #[.slice (some ⟨g, 0, none⟩) l.length cap] w2 fun e w3 => e = .returned (.slice (some ⟨g, 0, none⟩) (mk l).length cap) ∧ Below B w2 w3 ∧ Rd w3 (some ⟨g, 0, none⟩) cap (mk l) := by
  refine (Tryd.slices_Sort_int g 0 cap l w1 hH hg (by omega)).mono ?_
  rintro e w2 ⟨rfl, n, os, rfl⟩
  have hsz : (l.mergeSort fun x y => decide (x ≤ y)).toArray.size = l.toArray.size := by simp [List.length_mergeSort]
  have hH1 := holds_putRow (Value.int .i64) (Sort.ahead w1 n) g 0 l.toArray (l.mergeSort fun x y => decide (x ≤ y)).toArray hH hsz
  have hH2 := holds_grow (Value.int .i64) _ os g 0 _ (by simpa using hg) hH1
  have hlen : (l.mergeSort fun x y => decide (x ≤ y)).length = l.length := List.length_mergeSort l
  refine ⟨rfl, belowGrow (belowPut (belowAhead (Below.refl _ _) n) hB _ _) (by simp; omega) _, ?_⟩
  have hcon := Tryd.slices_Compact_int g 0 cap (l.mergeSort fun x y => decide (x ≤ y)) _ hH2 (by rw [hlen]; omega) (by rw [hlen]; exact hc)
  rw [hlen, compactSort] at hcon
  refine hcon.mono ?_
  rintro e w3 ⟨rfl, q, rfl⟩
  refine ⟨rfl, belowPut (belowAhead (Below.refl _ _) q) hB _ _, ⟨?_, hm, fun _ => ⟨_, rfl, by simp; omega, fun j u hu => ?_⟩⟩⟩
  · have := lenMk l; simp; omega
  · have hj : j < (mk l).length := by have := (List.getElem?_eq_some_iff.1 hu).1; simpa using this
    have hml := lenMk l
    have hu' : u = .int .i64 (mk l)[j] := by
      rw [iv, List.getElem?_map, List.getElem?_eq_getElem hj] at hu
      exact (Option.some.inj hu).symm
    have hp := cell?_putRow (Value.int .i64) (Sort.ahead (grow (putRow (Value.int .i64) (Sort.ahead w1 n) g 0 (l.mergeSort fun x y => decide (x ≤ y)).toArray) os) q) g 0 (l.mergeSort fun x y => decide (x ≤ y)).toArray
      (mk l ++ List.replicate (l.length - (mk l).length) 0).toArray hH2 (by simp [List.length_mergeSort]; omega) j (by simp; omega)
    rw [Addr.add_lit, hp, hu']
    simp [getElem!_def, List.getElem?_append_left hj, List.getElem?_eq_getElem hj]

set_option maxHeartbeats 400000 in
theorem iSetOf (l : List Int) (r : List Int) (hr : mk l = r) (hs : l.length ≤ 65536) (A : Option Addr) (c : Nat) (w : World) (ha : Rd w A c l) :
    Calls Tryd.prog 108 #[.slice A l.length c] w (GivesL r w) := by
  have HA := Lib.hid ha; clear ha
  have HR := Lib.hid hr; clear hr
  have hO := Lib.hid (OwnI.nil w w.heap.size)
  rcases Nat.eq_zero_or_pos l.length with h0 | h0
  · obtain rfl : l = [] := List.eq_nil_of_length_eq_zero h0
    clear h0
    go_enter Tryd.func108, Tryd.ntmps108
    go_wp2_with (first
      | (at_builtin; refine appI _ rfl (.const (.slice none 0 0)) (.tmp 4) rfl w.heap.size _ [] rfl hO.out A 0 c [] rfl rfl HA.out (by simp) (Nat.le_refl _) ?_; intro v1 w1 o1 _ b1; rw [List.nil_append] at o1; obtain ⟨A1, c1, rfl, r1, _⟩ := o1.rd)
      | fail)
    refine (Tryd.slices_Sort_int_none A1 c1 w1).mono ?_
    rintro e w' ⟨rfl, rfl⟩
    go_wp2_with fail
    refine (Tryd.slices_Compact_int_empty A1 c1 w').mono ?_
    rintro e w2 ⟨rfl, rfl⟩
    go_wp2
    go_ret
    rw [← HR.out]
    exact ⟨A1, c1, rfl, r1, b1⟩
  · go_enter Tryd.func108, Tryd.ntmps108
    go_wp2_with (first
      | (at_builtin; refine appI _ rfl (.const (.slice none 0 0)) (.tmp 4) rfl w.heap.size _ [] rfl hO.out A l.length c l rfl rfl HA.out (by simp; omega) (Nat.le_refl _) ?_; intro v1 w1 o1 _ b1; rw [List.nil_append] at o1; obtain ⟨g, c1, rfl, hg, hlt, hc, hm, hH⟩ := o1.holds h0; have HH := Lib.hid hH; clear hH)
      | fail)
    refine (sortCompact l h0 (by omega) w1 w.heap.size g c1 hg hlt hc hm HH.out).mono ?_
    rintro e w2 ⟨rfl, b2, hcon⟩
    have HC := Lib.hid hcon; clear hcon
    go_wp2_with fail
    refine HC.out.mono ?_
    rintro e w3 ⟨rfl, b3, r3⟩
    rw [HR.out] at r3 ⊢
    go_wp2
    go_ret
    exact ⟨_, c1, rfl, r3, b1.trans (b2.trans b3)⟩

set_option maxHeartbeats 400000 in
theorem iMake (l : List Int) (r : List Int) (hr : mk l = r) (hs : l.length ≤ 65536) (A : Option Addr) (c : Nat) (w : World) (ha : Rd w A c l) :
    Calls Tryd.prog 69 #[.slice A l.length c] w (GivesL r w) := by
  go_enter Tryd.func69, Tryd.ntmps69
  have HA := Lib.hid ha; clear ha
  have HR := Lib.hid hr; clear hr
  go_wp2_with fail
  refine (iSetOf l r HR.out hs A c _ HA.out).mono ?_
  rintro e w3 ⟨A3, c3, rfl, r3, b3⟩
  go_wp2
  go_ret
  exact ⟨A3, c3, rfl, r3, b3⟩
end Go.Proofs.YtkanamdfjegcbaaDoor

namespace Go.Proofs.YtkanamdfjegcbaaDoor
open Go.RowKit

def lenOf : Value → Nat | .slice _ n _ => n | _ => 0

theorem OwnI.drewN {w : World} {base : Nat} {v : Value} {l : List Int} (h : OwnI w base v l) (n : Nat) : OwnI (w.drewN n) base v l := h

end Go.Proofs.YtkanamdfjegcbaaDoor
