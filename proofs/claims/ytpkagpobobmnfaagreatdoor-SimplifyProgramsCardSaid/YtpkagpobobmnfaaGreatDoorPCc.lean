/-
  The library's iterators: the sorted keys of a set, and what an iterator gives, collected.
-/
import Derived.Test.YtpkagpobobmnfaaGreatDoorPCb
import Derived.Test.YtpkagpobobmnfaaGreatDoorIterShelf
import Derived.Deep.RegionWith
import Derived.Maps.RangeWalk
import Derived.Lib.AppendZeros
namespace Go.Proofs.YtpkagpobobmnfaaGreatDoor
open Go Go.RowKit Go.Shelf Go.Maps
attribute [local go_sem] Oper.semAt_some

theorem sortMk {D : List Nat} (hn : D.Nodup) {ss : List Int} (hp : ss.Perm (D.map Int.ofNat)) : ss.mergeSort (fun x y => decide (x ≤ y)) = mk (D.map Int.ofNat) := by
  have hnd : (D.map Int.ofNat).Nodup := List.Pairwise.map _ (fun a b hab e => hab (Int.ofNat.inj e)) hn
  have hq := (List.mergeSort_perm ss (fun x y => decide (x ≤ y))).trans hp
  refine mkEq ?_ fun x => hq.mem_iff
  have tr : ∀ a b c : Int, decide (a ≤ b) = true → decide (b ≤ c) = true → decide (a ≤ c) = true := fun a b c h1 h2 => by simp only [decide_eq_true_eq] at *; omega
  have tot : ∀ a b : Int, (decide (a ≤ b) || decide (b ≤ a)) = true := fun a b => by simp only [Bool.or_eq_true, decide_eq_true_eq]; omega
  have h1 := List.pairwise_mergeSort tr tot ss
  have h2 : (ss.mergeSort (fun x y => decide (x ≤ y))).Nodup := hq.nodup_iff.2 hnd
  unfold Srt
  refine (h1.and h2).imp fun h => ?_
  have := of_decide_eq_true h.1
  have := h.2
  omega
theorem sortsA (m : Nat) : AnyZI.SortsIn Tryz.prog Tryz.sortedA_ren Fence.wide m :=
  ⟨fun blk off cap ss W hH hblk hsz => callsIn_wide.2 (AnyM.slices_Sort_int Tryz.sortA blk off cap ss W hH hblk hsz),
   fun p cap W => callsIn_wide.2 (AnyM.slices_Sort_int_none Tryz.sortA p cap W)⟩
theorem MapSc.perm {w : World} {b : Nat} {D : List Nat} {T : DataW Value} (hown : w.ownsMap Tryz.prog 3 RW9 b D.length T) (hn : D.Nodup) (hh : ∀ x : Int, Maps.has T (.int .i64 x) = decide (x ∈ D.map Int.ofNat)) : (D.map Int.ofNat).Perm (intKeys T) :=
  CollectedI.perm (left := fun _ => false) ⟨List.Pairwise.map _ (fun a b hab e => hab (Int.ofNat.inj e)) hn, fun x => by rw [hh x]; simp⟩ hown keyedInt Tryz.underlying3 (fun _ => rfl)
set_option maxHeartbeats 1000000 in
theorem iSorted (gm : Nat) (D : List Nat) (hn : D.Nodup) (hl : D.length ≤ 1000) (w : World) (h : MapSc w gm D) :
    Calls Tryz.prog 34 #[.map (some gm)] w (GivesL (mk (D.map Int.ofNat)) w) := by
  obtain ⟨T, hown, hsz, hh, _⟩ := h
  have hperm := MapSc.perm hown hn hh
  have hbl := hown.lt
  refine (callsIn_wide (n := 6)).1 ?_
  have hseq : SeqGives Fence.wide 2 Tryz.prog 119 #[.pointer (some ⟨w.heap.size, 0, none⟩)] encZ (fun ss => ss.Perm (intKeys T)) (Maps.size T) (w.alloc (.cells #[.map (some gm)] 71)) :=
    AnyZI.keys_gives (ρ := Tryz.keysA_ren) { Tryz.keysA with } Fence.wide _ trivial rfl (by omega) w.heap.size gm D.length T _ (by simp) (by simp) (by
      obtain ⟨es, clock, hb, Ft, hs, hD⟩ := hown
      exact ⟨es, clock, (Below.heap_alloc _ _ gm hbl).trans hb, Ft, hs, hD⟩)
  have cK : ∀ mb W, CallsIn Fence.wide 5 Tryz.prog 71 #[.map mb] W fun e w' => e = .returned (.func (.func 119) #[] #[.pointer (some ⟨W.heap.size, 0, none⟩)]) ∧ w' = W.alloc (.cells #[.map mb] 71) := fun mb W => AnyZI.keys_in Tryz.keysA Fence.wide 5 trivial rfl mb W
  have cS := AnyZI.sorted_in Tryz.sortedA Fence.wide 5 trivial trivial trivial trivial rfl (by omega) (sortsA _) (enters_of Tryz.func118 (by kernel_rfl) rfl) 119 #[.pointer (some ⟨w.heap.size, 0, none⟩)] trivial (enters_of Tryz.func119 (by kernel_rfl) rfl) _ _ (by rw [hsz]; unfold maxLen; omega) (by rw [hsz]; omega) _ hseq
  change CallsIn _ _ Tryz.prog 70 _ _ _ at cS
  have hfK : Fence.wide.fn 71 := trivial
  have hfS : Fence.wide.fn 70 := trivial
  have HP := Lib.hid hperm
  have HN := Lib.hid hn
  clear hperm hn hh hsz hown hl hseq
  refine callsIn_of_wp Tryz.func34 rfl trivial ?_ rfl
  simp only [Tryz.ntmps34, List.size_toArray, List.length_cons, List.length_nil, Nat.reduceAdd, Nat.reduceSub, Array.replicate_succ, Array.replicate_zero, List.push_toArray, List.append_toArray, List.nil_append, List.cons_append]
  gi_wp2_with (first
    | (gi_at_call 71; refine (cK _ _).mono ?_; rintro e w' ⟨rfl, rfl⟩)
    | (gi_at_call 70; refine cS.mono ?_; rintro e w' ⟨v, ss, rfl, hS, hrow, hnil, hb⟩))
  go_ret
  have hsp := hS.trans HP.out.symm
  have e := sortMk HN.out hsp
  rw [e] at hrow
  have hlen : (mk (D.map Int.ofNat)).length = ss.length := by rw [← e, List.length_mergeSort]
  have ho : OwnI w' (w.heap.size + 1) v (mk (D.map Int.ofNat)) := by
    unfold OwnI
    rw [hlen]
    rw [World.size_alloc] at hrow
    exact hrow
  obtain ⟨A, c, rfl, hr, _⟩ := ho.rd
  exact ⟨A, c, rfl, hr, ((Below.refl _ w).alloc (Nat.le_refl _) _).trans (hb.mono (by simp))⟩
theorem litI9 (w : World) (y : Int) (T : TypeId) : Rd (w.alloc (.cells #[.int .i64 y] T)) (some ⟨w.heap.size, 0, none⟩) 1 [y] :=
  ⟨Nat.le_refl _, by unfold maxLen; omega, fun _ => ⟨_, rfl, by simp, fun j u hu => by
    have hj : j = 0 := by
      have := (List.getElem?_eq_some_iff.1 hu).1
      simpa using this
    subst hj
    have : u = .int .i64 y := by simpa [iv] using hu.symm
    subst this
    exact (Blk.new w T #[.int .i64 y]).cell 0⟩⟩
end Go.Proofs.YtpkagpobobmnfaaGreatDoor

namespace Go.Proofs.YtpkagpobobmnfaaGreatDoor
open Go Go.RowKit Go.Shelf Go.Maps

theorem entRw1 : ∀ args w, (callFunc 69 args).run Tryz.prog w = .ok (.enter 69 args) w := enters_of Tryz.func69 (by kernel_rfl) rfl
theorem retB9 {a b : Bool} (h : a = b) : Ending.returned (.bool a) = .returned (.bool b) := by rw [h]
theorem iRw1 (n k b1 b2 c : Nat) (d : Int) (A : Option Addr) (X : World) (hk : k ≤ n) (h1 : X.cell? ⟨b1, 0, none⟩ = some (.int .i64 d)) (h2 : X.cell? ⟨b2, 0, none⟩ = some (.slice A n c)) :
    Calls Tryz.prog 69 #[.int .i64 (k : Int), .pointer (some ⟨b1, 0, none⟩), .pointer (some ⟨b2, 0, none⟩)] X fun e Y => e = .returned (.bool (avd n d k)) ∧ Below X.heap.size X Y := by
  obtain ⟨r, hr⟩ : ∃ r, avd n d k = r := ⟨_, rfl⟩
  rw [hr]
  by_cases hd : (k : Int) = d
  · have HX := Lib.hid (show false = r by rw [← hr]; unfold avd; rw [decide_eq_false (show ¬ ((k : Int) ≠ d) from fun h => h hd), Bool.and_false])
    clear hr
    subst hd
    go_enter Tryz.func69, Tryz.ntmps69
    go_wp2
    all_goals first
      | (exfalso; omega)
      | (go_ret; exact ⟨retB9 HX.out, by first | exact Below.refl _ _ | exact belowDrewN (Below.refl _ _) _⟩)
  · have hne : ((k : Int) != d) = true := by simpa using hd
    by_cases hkn : k = n
    · have HX := Lib.hid (show false = r by rw [← hr]; unfold avd; rw [decide_eq_false (show ¬ k < n by omega), Bool.false_and])
      have hq : ((k : Int) != (n : Int)) = false := by simp; omega
      clear hr hd
      go_enter Tryz.func69, Tryz.ntmps69
      go_wp2
      all_goals first
        | (exfalso; omega)
        | (go_ret; exact ⟨retB9 HX.out, by first | exact Below.refl _ _ | exact belowDrewN (Below.refl _ _) _⟩)
    · have HX := Lib.hid (show true = r by rw [← hr]; unfold avd; rw [decide_eq_true (show k < n by omega), decide_eq_true hd]; rfl)
      have hq : ((k : Int) != (n : Int)) = true := by simp; omega
      clear hr hd
      go_enter Tryz.func69, Tryz.ntmps69
      go_wp2
      all_goals first
        | (exfalso; omega)
        | (go_ret; exact ⟨retB9 HX.out, by first | exact Below.refl _ _ | exact belowDrewN (Below.refl _ _) _⟩)
/-- The call gives a set, in block gm, of the numbers D. -/
def GivesM9 (P : Nat → Prop) (w : World) (e : Ending) (w' : World) : Prop := ∃ gm D, e = .returned (.map (some gm)) ∧ MapSc w' gm D ∧ D.Nodup ∧ (∀ x, x ∈ D ↔ P x) ∧ w.heap.size ≤ gm ∧ Below w.heap.size w w'
set_option maxRecDepth 100000 in
set_option maxHeartbeats 1000000 in
theorem iReachW (C : List I8) (hok : CfOk C) (n : Nat) (hn : C.length = n) (A : Option Addr) (c : Nat) (d : Int) (w : World) (hr : RdE 8 EI w A c C) :
    Calls Tryz.prog 33 #[.slice A n c, .int .i64 d] w (GivesM9 (fun x => rcB n (sc C) d x = true) w) := by
  obtain ⟨V, hV⟩ : ∃ V, ((w.alloc (.cells #[.slice A n c] 60)).alloc (.cells #[.int .i64 d] 3)).alloc (.cells #[.int .i64 0] 3) = V := ⟨_, rfl⟩
  have hbV : Below w.heap.size w V := by rw [← hV]; exact ((belowAlloc w _).alloc (by simp) _).alloc (by simp; omega) _
  have hzV : V.heap.size = w.heap.size + 3 := by rw [← hV]; simp
  have c1 : V.cell? ⟨w.heap.size, 0, none⟩ = some (.slice A n c) := by rw [← hV]; exact (((Blk.new w _ _).alloc _).alloc _).cell 0
  have c2 : V.cell? ⟨w.heap.size + 1, 0, none⟩ = some (.int .i64 d) := by rw [← hV]; exact ((Blk.new1 w _ _ _).alloc _).cell 0
  have hl1 : w.heap.size < V.heap.size := by omega
  have hl2 : w.heap.size + 1 < V.heap.size := by omega
  have h64 := hok.len
  have hle := hr.le
  have hmx := hr.max
  rw [hn] at hle h64
  unfold maxLen at hmx
  have hp : SeOk ⟨28, #[.slice A n c], #[], 69, #[.pointer (some ⟨w.heap.size + 1, 0, none⟩), .pointer (some ⟨w.heap.size, 0, none⟩)], n, sc C, avd n d, n⟩ V :=
    ⟨nextSt C hok n hn A c V (hr.below stabI hbV), ⟨entRw1, fun X k hX hk => by
      have := iRw1 n k (w.heap.size + 1) w.heap.size c d A X hk (hX.cell (a := ⟨w.heap.size + 1, 0, none⟩) hl2 c2) (hX.cell (a := ⟨w.heap.size, 0, none⟩) hl1 c1)
      simpa using this⟩, fun x hx => (avdIff.1 hx).1, fun x y hy => hn ▸ (scLe hok hy).2, by show n ≤ 1000; omega, by show n ≤ 1000; omega⟩
  have hl : Rd V (some ⟨w.heap.size + 1 + 1, 0, none⟩) 1 ([0].map Int.ofNat) := by
    rw [← hV]
    have h := litI9 ((w.alloc (.cells #[.slice A n c] 60)).alloc (.cells #[.int .i64 d] 3)) 0 3
    rw [World.size_alloc, World.size_alloc] at h
    exact h
  have HC := Lib.hid (iSearch [0] 1 rfl (fun s hs => by rw [List.mem_singleton] at hs; subst hs; exact Nat.zero_le _) (some ⟨w.heap.size + 1 + 1, 0, none⟩) 1 V hp hl)
  have HBV := Lib.hid hbV
  have HZ := Lib.hid hzV
  clear hp hl hbV hzV hl1 hl2 c2 hr
  go_enter Tryz.func33, Tryz.ntmps33
  go_wp2_with fail
  refine HC.out.mono ?_
  rintro e w1 ⟨gm, D, rfl, h1, h2, h3, h5, h4⟩
  go_wp2
  go_ret
  refine ⟨gm, D, rfl, h1, h2, fun x => by rw [h3]; show _ ↔ rcB n (sc C) d x = true; rw [rcIff]; simp, by have := HZ.out; omega, belowThen HBV.out h4⟩

/-! ### A range over a set -/
section
variable {w w' : World} {b r n cnt : Nat} {S L : Nat → Bool}
end
end Go.Proofs.YtpkagpobobmnfaaGreatDoor

namespace Go.Proofs.YtpkagpobobmnfaaGreatDoor
open Go Go.RowKit Go.Shelf

/-- The call gives a list and an error. -/
def GivesE9 (l : List Int) (k : Int) (w : World) (e : Ending) (w' : World) : Prop := ∃ A c, e = .returned (.tuple #[.slice A l.length c, .int .i64 k]) ∧ Rd w' A c l ∧ Below w.heap.size w w'
theorem cdV0 {C : List I8} {A : Option Addr} {n c : Nat} (h : cfE C = 0) : cdV C A n c = .slice A n c := by unfold cdV; rw [if_pos h]
theorem cdV1 {C : List I8} {A : Option Addr} {n c : Nat} (h : cfE C ≠ 0) : cdV C A n c = .slice none 0 0 := by unfold cdV; rw [if_neg h]
theorem scSLen {C : List I8} {k : Nat} : (scS C k).length ≤ 2 := by
  unfold scS
  have := lenMk ((sc C k).map Int.ofNat)
  rw [List.length_map] at this
  exact Nat.le_trans this scLen
end Go.Proofs.YtpkagpobobmnfaaGreatDoor
