/-
  The specification's fields, uses, known, Count.
-/
import Derived.Test.YtiaendggmamnkaaGreatDoorEAsRb
import Derived.Deep.RegionHeld3
import Derived.IntWalk
import Derived.Test.YtiaendggmamnkaaGreatDoorELe
import Derived.Test.YtiaendggmamnkaaGreatDoorEAsAv
namespace Go.Proofs.YtiaendggmamnkaaGreatDoor
open Go Go.RowKit

theorem rKnown16 (k : Int) (w : World) : Calls Tryz.prog 117 #[.int .i64 k] w fun e w' => e = .returned (.bool (kdOk k)) ∧ w = w' := by
  unfold kdOk
  by_cases h1 : 1 ≤ k
  · by_cases h2 : k ≤ 20
    · rw [decide_eq_true h1, decide_eq_true h2]
      go_enter Tryz.func117, Tryz.ntmps117
      go_wp2
      all_goals first
        | (exfalso; omega)
        | (go_ret; exact ⟨rfl, rfl⟩)
    · rw [decide_eq_true h1, decide_eq_false h2]
      go_enter Tryz.func117, Tryz.ntmps117
      go_wp2
      all_goals first
        | (exfalso; omega)
        | (go_ret; exact ⟨rfl, rfl⟩)
  · rw [decide_eq_false h1]
    go_enter Tryz.func117, Tryz.ntmps117
    go_wp2
    all_goals first
      | (exfalso; omega)
      | (go_ret; exact ⟨rfl, rfl⟩)
/-- The letters of the fields of each kind. -/
def flL : List (List UInt8) := [[78, 49], [78, 118, 79], [118, 79, 49], [78, 118, 79, 49], [78, 118, 79, 49], [78, 118, 79, 50], [], [78, 118, 70, 79, 49], [109], [109], [78, 109], [99, 77], [99], [99], [78, 112, 49], [49], [49], [49, 66, 69], [49, 66], []]
def flS : List ByteArray := flL.map fun l => ⟨⟨l⟩⟩
abbrev flV : Array Value := #[.string { data := #[78, 49] }, .string { data := #[78, 118, 79] }, .string { data := #[118, 79, 49] }, .string { data := #[78, 118, 79, 49] }, .string { data := #[78, 118, 79, 49] }, .string { data := #[78, 118, 79, 50] }, .string { data := #[] }, .string { data := #[78, 118, 70, 79, 49] }, .string { data := #[109] }, .string { data := #[109] }, .string { data := #[78, 109] }, .string { data := #[99, 77] }, .string { data := #[99] }, .string { data := #[99] }, .string { data := #[78, 112, 49] }, .string { data := #[49] }, .string { data := #[49] }, .string { data := #[49, 66, 69] }, .string { data := #[49, 66] }, .string { data := #[] }]
theorem flVIs : flV = (flS.map Value.string).toArray := by kernel_rfl
theorem flVAt (j : Nat) (hj : j < flS.length) : flV[j]? = some (.string flS[j]) := by rw [flVIs]; simp [hj]
/-- Does the kind with number j + 1 use a field? -/
def usB (j : Nat) (c : UInt8) : Bool := decide (c ∈ flL.getD j [])
set_option maxRecDepth 100000 in
set_option maxHeartbeats 1000000 in
theorem rFields16 (j : Nat) (hj : j < 20) (w : World) : Calls Tryz.prog 173 #[.int .i64 ((j : Int) + 1)] w fun e w' => e = .returned (.string (flS[j]'(hj))) ∧ Below w.heap.size w w' := by
  obtain ⟨W, hW⟩ : ∃ W, w.alloc (.cells flV 9) = W := ⟨_, rfl⟩
  have hB : Blk W w.heap.size 9 flV := by rw [← hW]; exact Blk.new _ _ _
  obtain ⟨s, hs⟩ : ∃ s, flS[j]'(hj) = s := ⟨_, rfl⟩
  have hc : W.cell? ⟨w.heap.size, j, none⟩ = some (.string s) := by rw [← hs]; exact (hB.cell j).trans (flVAt j hj)
  have HL := Lib.hid (show Below w.heap.size w W by rw [← hW]; exact belowAlloc _ _)
  have HW := Lib.hid hW
  rw [hs]
  have e1 : ((j : Int) + 1) - 1 = j := by omega
  have e2 : IntKind.i64.wrap (((j : Int) + 1) - 1) = j := by rw [e1]; exact IntWalk.i64_in _ (by omega)
  have e3 : IntKind.i64.wrap (j : Int) = j := IntWalk.i64_in _ (by omega)
  have hj0 : (0 : Int) ≤ j := by omega
  have hj1 : (j : Int) < 20 := by omega
  clear hW hB hs
  go_enter Tryz.func173, Tryz.ntmps173
  go_upto_region 2 with fail
  rw [HW.out]
  go_wp2_with fail
  go_ret
  exact ⟨rfl, HL.out⟩
set_option maxRecDepth 100000 in
set_option maxHeartbeats 1000000 in
theorem rUses16 (j : Nat) (hj : j < 20) (c : UInt8) (w : World) : Calls Tryz.prog 118 #[.int .i64 ((j : Int) + 1), .int .u8 (c.toNat : Int)] w fun e w' => e = .returned (.bool (usB j c)) ∧ Below w.heap.size w w' := by
  have HF := Lib.hid (rFields16 j hj w)
  have hlen : (flS[j]'(hj)).size ≤ 5 := by
    have : ∀ j : Nat, (h : j < 20) → (flS[j]'(h)).size ≤ 5 := by decide
    exact this j hj
  have hmem : usB j c = decide (∃ i, ∃ h : i < (flS[j]'(hj)).size, (flS[j]'(hj))[i] = c) := by
    unfold usB
    rw [Bool.eq_iff_iff, decide_eq_true_iff, decide_eq_true_iff]
    have e0 : ∀ j : Nat, (h : j < 20) → flL.getD j [] = (flS[j]'(h)).data.toList := by decide
    have e := e0 j hj
    rw [e, List.mem_iff_getElem]
    constructor
    · rintro ⟨i, h, he⟩
      exact ⟨i, by simpa using h, by rw [← he]; simp [ByteArray.getElem_eq_getElem_data]⟩
    · rintro ⟨i, h, he⟩
      exact ⟨i, by simpa using h, by rw [← he]; simp [ByteArray.getElem_eq_getElem_data]⟩
  obtain ⟨s, hs⟩ : ∃ s, flS[j]'(hj) = s := ⟨_, rfl⟩
  obtain ⟨r, hr⟩ : ∃ r, usB j c = r := ⟨_, rfl⟩
  rw [hs] at HF
  simp only [hs] at hlen hmem
  rw [hr] at hmem ⊢
  have HM := Lib.hid hmem
  have HC := Lib.hid hj
  obtain ⟨C, hC⟩ : ∃ C : Int, (c.toNat : Int) = C := ⟨_, rfl⟩
  rw [hC]
  have HCC := Lib.hid hC
  clear hr hmem hC
  go_enter Tryz.func118, Tryz.ntmps118
  go_wp2_with fail
  refine HF.out.mono ?_
  rintro e w1 ⟨rfl, hb⟩
  have HB := Lib.hid hb
  clear hb
  go_wp2_with fail
  go_loop [6] (fun i => ∃ k : Nat, k ≤ s.size ∧ i = .int .i64 k ∧ Hid (∀ i, i < k → ∀ h : i < s.size, s[i] ≠ c)) (fun i => s.size - (intOf i).toNat)
  case atStart => exact ⟨0, Nat.zero_le _, rfl, Lib.hid fun i h => by omega⟩
  case round =>
    obtain ⟨k, hk, rfl, HA⟩ := hrel
    by_cases hlt : k < s.size
    · by_cases he : s[k] = c
      · have h1 : (s[k].toNat : Int) = C := by rw [he, HCC.out]
        have HX := Lib.hid (show r = true by rw [HM.out]; exact decide_eq_true ⟨k, hlt, he⟩)
        clear he
        go_wp2
        all_goals first
          | (go_ret; exact ⟨retBl HX.out.symm, HB.out⟩)
          | (exfalso; simp_all; done)
          | (exfalso; simp_all; omega)
      · have h1 : ¬ (s[k].toNat : Int) = C := by
          rw [← HCC.out]
          intro h
          exact he (UInt8.toNat_inj.1 (by omega))
        have HX := Lib.hid (show ∀ i, i < k + 1 → ∀ h : i < s.size, s[i] ≠ c from fun i hi h => by
          rcases Nat.lt_or_ge i k with h' | h'
          · exact HA.out i h' h
          · obtain rfl : i = k := by omega
            exact he)
        clear he
        go_wp2
        all_goals first
          | exact ⟨⟨k + 1, by omega, by go_num, HX⟩, by simp [intOf]; omega⟩
          | (exfalso; simp_all; done)
          | (exfalso; simp_all; omega)
    · have HX := Lib.hid (show r = false by rw [HM.out]; exact decide_eq_false fun ⟨i, h, e⟩ => HA.out i (by omega) h e)
      go_wp2
      go_ret
      exact ⟨retBl HX.out.symm, HB.out⟩
theorem usNm : ∀ j : Nat, j < 20 → usB j 78 = (rw16 ((j : Int) + 1)).nm := by decide
theorem szLApp {β : Type} : ∀ a b : List (Tr β), Tr.szL (a ++ b) = Tr.szL a + Tr.szL b
  | [], b => by simp [Tr.szL]
  | t :: r, b => by rw [List.cons_append, Tr.szL, szLApp r b, Tr.szL, Nat.add_assoc]
theorem szLTake {β : Type} {l : List (Tr β)} {j : Nat} (hj : j < l.length) : Tr.szL (l.take (j + 1)) = Tr.szL (l.take j) + 1 + Tr.szL l[j].fst + Tr.szL l[j].snd := by
  rw [List.take_succ_eq_append_getElem hj, szLApp, Tr.szL, Tr.szL]
  cases l[j] with
  | mk v a b => rw [Tr.sz]; simp only [Tr.fst, Tr.snd]; omega
theorem szLPre {β : Type} {l : List (Tr β)} (j : Nat) : Tr.szL (l.take j) ≤ Tr.szL l := by
  conv => rhs; rw [← List.take_append_drop j l, szLApp]
  omega
set_option maxRecDepth 100000 in
set_option maxHeartbeats 2000000 in
theorem rCount16 (dx : Nat) : ∀ (D : Nat) (ts : List Sm) (n c : Nat) (_ : ts.length = n) (_ : Tr.szL ts ≤ 4000000) (A : Option Addr) (w : World) (_ : RdE 9 (EM dx D) w A c ts),
    Calls Tryz.prog 27 #[.slice A n c] w fun e w' => e = .returned (.int .i64 (Tr.szL ts : Int)) ∧ Below w.heap.size w w'
  | D, ts, n, c, hn, hsz, A, w, hr => by
    have HI := Lib.hid (show ∀ D', D' < D → ∀ (ts : List Sm) (n c : Nat) (_ : ts.length = n) (_ : Tr.szL ts ≤ 4000000) (A : Option Addr) (w : World) (_ : RdE 9 (EM dx D') w A c ts), Calls Tryz.prog 27 #[.slice A n c] w fun e w' => e = .returned (.int .i64 (Tr.szL ts : Int)) ∧ Below w.heap.size w w' from fun D' h ts n c hn hsz A w hr => rCount16 dx D' ts n c hn hsz A w hr)
    have hm := hr.max
    have hle := hr.le
    rw [hn] at hle
    unfold maxLen at hm
    have HR := Lib.hid hr
    have HN := Lib.hid hn
    have HZ := Lib.hid hsz
    clear hr hn hsz
    go_enter Tryz.func27, Tryz.ntmps27
    go_wp2
    go_loopw [3, 4] (fun x i wr => ∃ j : Nat, x = .int .i64 ((Tr.szL (ts.take j) : Nat) : Int) ∧ i = .int .i64 j ∧ j ≤ n ∧ Hid (Below w.heap.size w wr)) (fun _ i _ => n - (intOf i).toNat)
    case atStart => exact ⟨0, rfl, rfl, Nat.zero_le _, Lib.hid (Below.refl _ _)⟩
    case round =>
      obtain ⟨j, rfl, rfl, hj, HB⟩ := hrel
      by_cases hlt : j < n
      · have hjl : j < ts.length := by rw [HN.out]; exact hlt
        have hj0 : (0 : Int) ≤ j := by omega
        have hj1 : (j : Int) < n := by omega
        cases D with
        | zero => exact ((HR.out.below (stabM dx _) HB.out).one hjl).elim fun _ h => h.elim fun _ h => h.2.2.elim
        | succ D1 =>
          obtain ⟨b, o, hA, hlb, _, _, _, _, _, _, _, ⟨v7, x7, A7, c7, rfl, r7⟩, v8, x8, A8, c8, rfl, r8⟩ := (HR.out.below (stabM dx _) HB.out).one hjl
          subst hA
          have hnx := szLTake hjl
          have hzz := szLPre (l := ts) (j + 1)
          have hZ := HZ.out
          obtain ⟨P, hP⟩ : ∃ x, ts[j] = x := ⟨_, rfl⟩
          rw [hP] at x7 x8 r7 r8 hnx
          obtain ⟨n7, hn7⟩ : ∃ n, P.fst.length = n := ⟨_, rfl⟩
          obtain ⟨n8, hn8⟩ : ∃ n, P.snd.length = n := ⟨_, rfl⟩
          obtain ⟨M, hM⟩ : ∃ n, Tr.szL (ts.take j) = n := ⟨_, rfl⟩
          obtain ⟨K7, hK7⟩ : ∃ n, Tr.szL P.fst = n := ⟨_, rfl⟩
          obtain ⟨K8, hK8⟩ : ∃ n, Tr.szL P.snd = n := ⟨_, rfl⟩
          rw [hn7] at x7
          rw [hn8] at x8
          rw [hM, hK7, hK8] at hnx
          rw [hM]
          have HC7 := Lib.hid (fun X (hX : Below wr.heap.size wr X) => HI.out D1 (Nat.lt_succ_self _) P.fst n7 c7 hn7 (by omega) A7 X (r7.below (stabM dx _) hX))
          have HC8 := Lib.hid (fun X (hX : Below wr.heap.size wr X) => HI.out D1 (Nat.lt_succ_self _) P.snd n8 c8 hn8 (by omega) A8 X (r8.below (stabM dx _) hX))
          rw [hK7] at HC7
          rw [hK8] at HC8
          have HC := Lib.hid (show ∀ X, Below wr.heap.size wr X → ∀ (v : Value) (K : Nat), (v = .slice A7 n7 c7 ∧ K = K7) ∨ (v = .slice A8 n8 c8 ∧ K = K8) → Calls Tryz.prog 27 #[v] X fun e w' => e = .returned (.int .i64 (K : Int)) ∧ Below X.heap.size X w' from fun X hX v K h => by
            rcases h with ⟨rfl, rfl⟩ | ⟨rfl, rfl⟩
            · exact HC7.out X hX
            · exact HC8.out X hX)
          have HS := Lib.hid (fun X (hX : Below wr.heap.size wr X) => (⟨hX, (hX.cell hlb).trans x7, (hX.cell hlb).trans x8⟩ : Below wr.heap.size wr X ∧ X.cell? ⟨b, o + j * 9 + 7, none⟩ = some (.slice A7 n7 c7) ∧ X.cell? ⟨b, o + j * 9 + 8, none⟩ = some (.slice A8 n8 c8)))
          have HS0 := HS.out wr.drew ((Below.refl _ wr).drew)
          have hs : M + 1 + K7 + K8 ≤ 4000000 := by omega
          have a1 : IntKind.i64.wrap ((M : Int) + 1) = (M : Int) + 1 := IntWalk.i64_in _ (by omega)
          have a2 : IntKind.i64.wrap ((M : Int) + 1 + K7) = (M : Int) + 1 + K7 := IntWalk.i64_in _ (by omega)
          have a3 : IntKind.i64.wrap ((M : Int) + 1 + K7 + K8) = (M : Int) + 1 + K7 + K8 := IntWalk.i64_in _ (by omega)
          have HNX := Lib.hid hnx
          clear hP hn7 hn8 hM hK7 hK8 hnx hzz hZ r7 r8
          go_wp2_with fail
          go_region_held3 (fun X => Below wr.heap.size wr X ∧ X.cell? ⟨b, o + j * 9 + 7, none⟩ = some (.slice A7 n7 c7) ∧ X.cell? ⟨b, o + j * 9 + 8, none⟩ = some (.slice A8 n8 c8)) (first | assumption | exact HS.out _ (by assumption)) (first
            | (go_at_call 27; refine (HC.out _ (‹Below wr.heap.size wr _ ∧ _›).1 _ _ (by first | exact .inl ⟨rfl, rfl⟩ | exact .inr ⟨rfl, rfl⟩)).mono ?_; rintro e u2 ⟨rfl, y2⟩; have q2 := belowThen (‹Below wr.heap.size wr _ ∧ _›).1 y2))
          have hfin : Below wr.heap.size wr u2 := q2
          have HFI := Lib.hid (belowThen HB.out hfin)
          clear a1 a2 a3
          go_wp2
          go_roundw
          case rel => exact ⟨j + 1, by rw [HNX.out]; exact congrArg (Value.int .i64) (by omega), by go_num, by omega, HFI⟩
          case measure => simp [intOf]; omega
      · have hjn : j = n := by omega
        subst hjn
        rw [← HN.out, List.take_length, HN.out]
        go_wp2
        go_ret
        exact ⟨rfl, HB.out⟩
termination_by D => D
end Go.Proofs.YtiaendggmamnkaaGreatDoor

namespace Go.Proofs.YtiaendggmamnkaaGreatDoor
open Go Go.RowKit

def GivesBlB (w : World) (e : Ending) (w' : World) : Prop := ∃ b : Bool, e = .returned (.bool b) ∧ Below w.heap.size w w'
def GivesIntB (w : World) (e : Ending) (w' : World) : Prop := ∃ v : Int, e = .returned (.int .i64 v) ∧ Below w.heap.size w w'
set_option maxRecDepth 100000 in
set_option maxHeartbeats 2000000 in
theorem rSize16 (dx : Nat) : ∀ (D : Nat) (ts : List Sm) (n c : Nat) (_ : ts.length = n) (A : Option Addr) (k : Int) (w : World) (_ : RdE 9 (EM dx D) w A c ts),
    Calls Tryz.prog 42 #[.slice A n c, .int .i64 k] w (GivesIntB w)
  | D, ts, n, c, hn, A, k, w, hr => by
    have HI := Lib.hid (show ∀ D', D' < D → ∀ (ts : List Sm) (n c : Nat) (_ : ts.length = n) (A : Option Addr) (k : Int) (w : World) (_ : RdE 9 (EM dx D') w A c ts), Calls Tryz.prog 42 #[.slice A n c, .int .i64 k] w (GivesIntB w) from fun D' h ts n c hn A k w hr => rSize16 dx D' ts n c hn A k w hr)
    have hm := hr.max
    have hle := hr.le
    rw [hn] at hle
    unfold maxLen at hm
    have HR := Lib.hid hr
    have HN := Lib.hid hn
    clear hr hn
    go_enter Tryz.func42, Tryz.ntmps42
    go_wp2
    go_loopw [5, 6] (fun x i wr => ∃ (v : Int) (j : Nat), x = .int .i64 v ∧ i = .int .i64 j ∧ j ≤ n ∧ Hid (Below w.heap.size w wr)) (fun _ i _ => n - (intOf i).toNat)
    case atStart => exact ⟨_, 0, rfl, rfl, Nat.zero_le _, Lib.hid (Below.refl _ _)⟩
    case round =>
      obtain ⟨v, j, rfl, rfl, hj, HB⟩ := hrel
      by_cases hlt : j < n
      · by_cases hk : 0 < k
        · have hjl : j < ts.length := by rw [HN.out]; exact hlt
          have hj0 : (0 : Int) ≤ j := by omega
          have hj1 : (j : Int) < n := by omega
          cases D with
          | zero => exact ((HR.out.below (stabM dx _) HB.out).one hjl).elim fun _ h => h.elim fun _ h => h.2.2.elim
          | succ D1 =>
            obtain ⟨b, o, hA, hlb, _, _, _, _, _, _, ⟨v6, x6, A6, c6, rfl, r6⟩, ⟨v7, x7, A7, c7, rfl, r7⟩, v8, x8, A8, c8, rfl, r8⟩ := (HR.out.below (stabM dx _) HB.out).one hjl
            subst hA
            obtain ⟨P, hP⟩ : ∃ x, ts[j] = x := ⟨_, rfl⟩
            rw [hP] at x6 x7 x8 r6 r7 r8
            obtain ⟨n6, hn6⟩ : ∃ n, P.val.exprs.length = n := ⟨_, rfl⟩
            obtain ⟨n7, hn7⟩ : ∃ n, P.fst.length = n := ⟨_, rfl⟩
            obtain ⟨n8, hn8⟩ : ∃ n, P.snd.length = n := ⟨_, rfl⟩
            rw [hn6] at x6
            rw [hn7] at x7
            rw [hn8] at x8
            have HE := Lib.hid (fun X (hX : Below wr.heap.size wr X) => rNodes dx P.val.exprs n6 c6 hn6 A6 40 X (r6.below (stabX dx) hX))
            have HC := Lib.hid (show ∀ X, Below wr.heap.size wr X → ∀ (v : Value) (k : Int), (v = .slice A7 n7 c7 ∨ v = .slice A8 n8 c8) → Calls Tryz.prog 42 #[v, .int .i64 k] X (GivesIntB X) from fun X hX v k h => by
              rcases h with rfl | rfl
              · exact HI.out D1 (Nat.lt_succ_self _) P.fst n7 c7 hn7 A7 k X (r7.below (stabM dx _) hX)
              · exact HI.out D1 (Nat.lt_succ_self _) P.snd n8 c8 hn8 A8 k X (r8.below (stabM dx _) hX))
            have HS := Lib.hid (fun X (hX : Below wr.heap.size wr X) => (⟨hX, (hX.cell hlb).trans x6, (hX.cell hlb).trans x7, (hX.cell hlb).trans x8⟩ : Below wr.heap.size wr X ∧ X.cell? ⟨b, o + j * 9 + 6, none⟩ = some (.slice A6 n6 c6) ∧ X.cell? ⟨b, o + j * 9 + 7, none⟩ = some (.slice A7 n7 c7) ∧ X.cell? ⟨b, o + j * 9 + 8, none⟩ = some (.slice A8 n8 c8)))
            have HS0 := HS.out wr.drew ((Below.refl _ wr).drew)
            clear hP hn6 hn7 hn8 r6 r7 r8
            go_wp2_with fail
            go_region_held3 (fun X => Below wr.heap.size wr X ∧ X.cell? ⟨b, o + j * 9 + 6, none⟩ = some (.slice A6 n6 c6) ∧ X.cell? ⟨b, o + j * 9 + 7, none⟩ = some (.slice A7 n7 c7) ∧ X.cell? ⟨b, o + j * 9 + 8, none⟩ = some (.slice A8 n8 c8)) (first | assumption | exact HS.out _ (by assumption)) (first
              | (go_at_call 54; refine (HE.out _ (‹Below wr.heap.size wr _ ∧ _›).1).mono ?_; rintro e u1 ⟨z1, rfl, rfl⟩)
              | (go_at_call 42; refine (HC.out _ (‹Below wr.heap.size wr _ ∧ _›).1 _ _ (by first | exact .inl rfl | exact .inr rfl)).mono ?_; rintro e u2 ⟨z2, rfl, y2⟩; have q2 := belowThen (‹Below wr.heap.size wr _ ∧ _›).1 y2))
            have hfin : Below wr.heap.size wr u2 := q2
            have HFI := Lib.hid (belowThen HB.out hfin)
            go_wp2
            go_roundw
            case rel => exact ⟨_, j + 1, rfl, by go_num, by omega, HFI⟩
            case measure => simp [intOf]; omega
        · go_wp2
          all_goals first
            | (exfalso; omega)
            | (go_ret; exact ⟨_, rfl, HB.out⟩)
      · go_wp2
        all_goals first
          | (exfalso; omega)
          | (go_ret; exact ⟨_, rfl, HB.out⟩)
termination_by D => D
set_option maxRecDepth 100000 in
set_option maxHeartbeats 2000000 in
theorem rFewU16 (dx d : Nat) (a : PgA) (u : Un) (w : World) (hu : UnR w a u dx d) : Calls Tryz.prog 14 #[a.val] w (GivesBlB w) := by
  have hm := hu.procs.max
  have hle := hu.procs.le
  rw [hu.l4] at hle
  unfold maxLen at hm
  obtain ⟨A1, n1, c1, A2, n2, c2, A3, n3, c3, A4, n4, c4, A5, n5, c5⟩ := a
  simp only at hm hle
  have HR := Lib.hid hu.procs
  have HN := Lib.hid hu.l4
  simp only at HR HN
  simp only [PgA.val, PgA.fs]
  obtain ⟨W, hW⟩ : ∃ W, w.alloc (.cells #[.slice A1 n1 c1, .slice A2 n2 c2, .slice A3 n3 c3, .slice A4 n4 c4, .slice A5 n5 c5] 27) = W := ⟨_, rfl⟩
  have B : Blk W w.heap.size 27 #[.slice A1 n1 c1, .slice A2 n2 c2, .slice A3 n3 c3, .slice A4 n4 c4, .slice A5 n5 c5] := by rw [← hW]; exact Blk.new _ _ _
  have HB0 := Lib.hid (And.intro (show Below w.heap.size w W by rw [← hW]; exact belowAlloc _ _) B)
  have HW := Lib.hid hW
  have f1 := B.cell 0
  have f2 := B.cell 1
  have f3 := B.cell 2
  have f4 := B.cell 3
  have f5 := B.cell 4
  simp only [List.getElem?_toArray, List.getElem?_cons_zero, List.getElem?_cons_succ] at f1 f2 f3 f4 f5
  clear hu hW B
  go_enter Tryz.func14, Tryz.ntmps14
  go_upto_region 1 with fail
  rw [HW.out]
  go_wp2_with fail
  go_loopw [3, 4] (fun x i wr => ∃ (v : Int) (j : Nat), x = .int .i64 v ∧ i = .int .i64 j ∧ j ≤ n4 ∧ Hid (Below w.heap.size w wr ∧ Blk wr w.heap.size 27 #[.slice A1 n1 c1, .slice A2 n2 c2, .slice A3 n3 c3, .slice A4 n4 c4, .slice A5 n5 c5])) (fun _ i _ => n4 - (intOf i).toNat)
  case atStart => exact ⟨_, 0, rfl, rfl, Nat.zero_le _, HB0⟩
  case round =>
    obtain ⟨v, j, rfl, rfl, hj, HB⟩ := hrel
    have f4 : wr.cell? ⟨w.heap.size, 3, none⟩ = some (.slice A4 n4 c4) := HB.out.2.cell 3
    by_cases hlt : j < n4
    · by_cases hk : (j : Int) < 100
      · have hjl : j < u.procs.length := by rw [HN.out]; exact hlt
        have hj0 : (0 : Int) ≤ j := by omega
        have hj1 : (j : Int) < n4 := by omega
        obtain ⟨b, o, hA, hlb, _, _, v2, x2, Ab, cb, rfl, rb⟩ := (HR.out.below (stabPc dx d) HB.out.1).one hjl
        subst hA
        obtain ⟨P, hP⟩ : ∃ x, u.procs[j] = x := ⟨_, rfl⟩
        rw [hP] at x2 rb
        obtain ⟨nb, hnb⟩ : ∃ n, P.body.length = n := ⟨_, rfl⟩
        rw [hnb] at x2
        have HC := Lib.hid (rSize16 dx d P.body nb cb hnb Ab 40 wr rb)
        clear hP hnb rb
        go_wp2_with fail
        refine HC.out.mono ?_
        rintro e w2 ⟨z, rfl, hb2⟩
        have HB2 := Lib.hid (And.intro (belowThen HB.out.1 hb2) (HB.out.2.below' hb2))
        clear hb2
        go_wp2_with fail
        go_roundw
        case rel => exact ⟨_, j + 1, rfl, by go_num, by omega, HB2⟩
        case measure => simp [intOf]; omega
      · go_wp2
        all_goals first
          | (exfalso; omega)
          | (go_ret; exact ⟨_, rfl, HB.out.1⟩)
    · go_wp2
      all_goals first
        | (exfalso; omega)
        | (go_ret; exact ⟨_, rfl, HB.out.1⟩)
end Go.Proofs.YtiaendggmamnkaaGreatDoor

namespace Go.Proofs.YtiaendggmamnkaaGreatDoor
open Go Go.RowKit

/-- The names that statements assign, behind D. -/
def nmT (D : List ByteArray) (t : Sm) : List ByteArray := ((Tr.nds 0 t).map (·.2)).foldl lcS D
def nmL (D : List ByteArray) (l : List Sm) : List ByteArray := ((Tr.ndsL 0 l).map (·.2)).foldl lcS D
theorem nmLCons (D : List ByteArray) (t : Sm) (r : List Sm) : nmL D (t :: r) = nmL (nmT D t) r := by
  unfold nmL nmT
  rw [Tr.ndsL, List.map_append, List.foldl_append]
theorem nmLApp (D : List ByteArray) : ∀ a b : List Sm, nmL D (a ++ b) = nmL (nmL D a) b
  | [], _ => rfl
  | t :: r, b => by rw [List.cons_append, nmLCons, nmLCons, nmLApp _ r b]
theorem nmTIs (D : List ByteArray) (t : Sm) : nmT D t = nmL (nmL (lcS D t) t.fst) t.snd := by
  unfold nmL nmT
  cases t with
  | mk v a b => rw [Tr.nds, List.map_cons, List.foldl_cons, List.map_append, List.foldl_append, ndsLLv (0 + 1) 0 a, ndsLLv (0 + 1) 0 b]; rfl
theorem nmLTake {D : List ByteArray} {l : List Sm} {j : Nat} (hj : j < l.length) : nmL D (l.take (j + 1)) = nmL (nmL (lcS (nmL D (l.take j)) l[j]) l[j].fst) l[j].snd := by
  rw [List.take_succ_eq_append_getElem hj, nmLApp, nmLCons, nmTIs]
  rfl
theorem lcSLen (D : List ByteArray) (t : Sm) : (lcS D t).length ≤ D.length + 1 := by
  unfold lcS adL
  split
  · split <;> simp
  · omega
theorem nmLLen (D : List ByteArray) (l : List Sm) : (nmL D l).length ≤ D.length + Tr.szL l := by
  have key : ∀ (l : List Sm) (D : List ByteArray), (l.foldl lcS D).length ≤ D.length + l.length := by
    intro l
    induction l with
    | nil => intro D; simp
    | cons t r ih =>
      intro D
      have h1 := ih (lcS D t)
      have h2 := lcSLen D t
      rw [List.foldl_cons, List.length_cons]
      omega
  have h := key ((Tr.ndsL 0 l).map (·.2)) D
  rw [List.length_map, Tr.ndsLLen] at h
  exact h
theorem lcFIs (D : List ByteArray) : ∀ (k : Nat) (l : List (Nat × Sm)), lcF D (numb k l) = (l.map (·.2)).foldl lcS D := by
  intro k l
  induction l generalizing k D with
  | nil => rfl
  | cons q r ih =>
    obtain ⟨a, t⟩ := q
    rw [numb, List.map_cons, List.foldl_cons, ← ih (lcS D t) (k + 1)]
    rfl
theorem lcPIs (p : Pc) : lcP p = nmL (pmL p) p.body := by
  unfold lcP nmL
  rw [lcFIs, ndsLLv 1 0]
/-- What names leaves: its result in a row of the call's own; nothing else is changed. -/
structure NmS (w0 w : World) (v v' : Value) (D : List ByteArray) (X : World) : Prop where
  row : OwnS6 X w0.heap.size v' D
  chg : Chg w X (fun q => v.ownBlock ≠ some q)
  own : ∀ g, v'.ownBlock = some g → v.ownBlock = some g ∨ w.heap.size ≤ g
theorem NmS.trans {w0 w X Y : World} {v v1 v2 : Value} {D1 D2 : List ByteArray} (h1 : NmS w0 w v v1 D1 X) (h2 : NmS w0 X v1 v2 D2 Y) : NmS w0 w v v2 D2 Y :=
  ⟨h2.row, h1.chg.trans h2.chg fun q hq hF e => (h1.own q e).elim hF fun h => by omega, fun g hg => (h2.own g hg).elim (h1.own g) fun h => .inr (Nat.le_trans h1.chg.size h)⟩
theorem NmS.below {w0 w X Y : World} {v v1 : Value} {D1 : List ByteArray} (h : NmS w0 w v v1 D1 X) (hb : Below X.heap.size X Y) : NmS w0 w v v1 D1 Y :=
  ⟨h.row.below hb, h.chg.trans (Chg.ofBelow hb fun _ => True) fun _ _ _ => trivial, h.own⟩
theorem NmS.low {w0 w X : World} {v v1 : Value} {D D1 : List ByteArray} (h : NmS w0 w v v1 D1 X) (hb : Below w0.heap.size w0 w) (ho : OwnS6 w w0.heap.size v D) : Below w0.heap.size w0 X :=
  ⟨h.chg.os.trans hb.os, h.chg.tape.trans hb.tape, h.chg.output.trans hb.output, Nat.le_trans hb.size h.chg.size, fun q hq => (h.chg.block q (Nat.lt_of_lt_of_le hq hb.size) fun e => by have := (ho.lt e).1; omega).trans (hb.block q hq)⟩
def NamesSaid (w0 : World) (dx D : Nat) : Prop := ∀ (ts : List Sm) (n c : Nat) (_ : ts.length = n) (A : Option Addr) (_ : RdE 9 (EM dx D) w0 A c ts) (Al : Option Addr) (nl cl : Nat) (Dl : List ByteArray) (w : World) (_ : Below w0.heap.size w0 w) (_ : OwnS6 w w0.heap.size (.slice Al nl cl) Dl) (_ : Dl.length + Tr.szL ts ≤ 9000000),
    Calls Tryz.prog 61 #[.slice Al nl cl, .slice A n c] w fun e w' => ∃ v', e = .returned v' ∧ NmS w0 w (.slice Al nl cl) v' (nmL Dl ts) w'
set_option maxRecDepth 100000 in
set_option maxHeartbeats 8000000 in
theorem rNames16 (w0 : World) (dx : Nat) (D : Nat) : NamesSaid w0 dx D := by
  induction D using Nat.strongRecOn with
  | ind D ih =>
    intro ts n c hn A hr Al nl cl Dl w hb ho hsz
    have HI := Lib.hid ih
    clear ih
    have hm := hr.max
    have hle := hr.le
    rw [hn] at hle
    unfold maxLen at hm
    have HR := Lib.hid hr
    have HN := Lib.hid hn
    have HW0 := Lib.hid hb
    have HO := Lib.hid ho
    have HZ := Lib.hid hsz
    have H00 := Lib.hid (show NmS w0 w (.slice Al nl cl) (.slice Al nl cl) (nmL Dl (ts.take 0)) w from ⟨ho, Chg.refl _ _, fun g h => .inl h⟩)
    obtain ⟨v0, hv0⟩ : ∃ v, Value.slice Al nl cl = v := ⟨_, rfl⟩
    have HV0 := Lib.hid hv0
    clear hr hn hb ho hsz hv0
    go_enter Tryz.func61, Tryz.ntmps61
    go_wp2
    go_loopw [0, 5] (fun l i wr => ∃ (j : Nat) (A1 : Option Addr) (n1 c1 : Nat), l = .slice A1 n1 c1 ∧ i = .int .i64 j ∧ j ≤ n ∧ Hid (NmS w0 w (.slice Al nl cl) (.slice A1 n1 c1) (nmL Dl (ts.take j)) wr)) (fun _ i _ => n - (intOf i).toNat)
    case atStart => exact ⟨0, _, _, _, rfl, rfl, Nat.zero_le _, H00⟩
    case round =>
      obtain ⟨j, A1, n1, c1, rfl, rfl, hj, HS⟩ := hrel
      by_cases hlt : j < n
      · have hjl : j < ts.length := by rw [HN.out]; exact hlt
        have hj0 : (0 : Int) ≤ j := by omega
        have hj1 : (j : Int) < n := by omega
        cases D with
        | zero => exact (HR.out.one hjl).elim fun _ h => h.elim fun _ h => h.2.2.elim
        | succ D1 =>
          obtain ⟨b, o, hA, hlb, y0, y1, y2, y3, y4, y5, ⟨v6, y6, A6, c6, rfl, r6⟩, ⟨v7, y7, A7, c7, rfl, r7⟩, v8, y8, A8, c8, rfl, r8⟩ := HR.out.one hjl
          subst hA
          have hnx := nmLTake (D := Dl) hjl
          have hzz := szLTake hjl
          have hzp := szLPre (l := ts) (j + 1)
          have hln := nmLLen Dl (ts.take j)
          have hZ := HZ.out
          have hlow := HS.out.low HW0.out HO.out
          obtain ⟨P, hP⟩ : ∃ x, ts[j] = x := ⟨_, rfl⟩
          rw [hP] at y0 y1 y2 y3 y4 y5 y6 y7 y8 r7 r8 hnx hzz
          obtain ⟨DD, hDD⟩ : ∃ x, nmL Dl (ts.take j) = x := ⟨_, rfl⟩
          rw [hDD] at HS hnx hln
          obtain ⟨⟨k, nm, ob, ot, fn, od, ex⟩, pf, ps⟩ := P
          simp only [Tr.val, Tr.fst, Tr.snd] at y0 y1 y2 y3 y4 y5 y6 y7 y8 r7 r8 hnx hzz
          obtain ⟨n6, hn6⟩ : ∃ n, ex.length = n := ⟨_, rfl⟩
          obtain ⟨n7, hn7⟩ : ∃ n, pf.length = n := ⟨_, rfl⟩
          obtain ⟨n8, hn8⟩ : ∃ n, ps.length = n := ⟨_, rfl⟩
          rw [hn6] at y6
          rw [hn7] at y7
          rw [hn8] at y8
          have x0 := (hlow.cell hlb).trans y0
          have x1 := (hlow.cell hlb).trans y1
          have x2 := (hlow.cell hlb).trans y2
          have x3 := (hlow.cell hlb).trans y3
          have x4 := (hlow.cell hlb).trans y4
          have x5 := (hlow.cell hlb).trans y5
          have x6 := (hlow.cell hlb).trans y6
          have x7 := (hlow.cell hlb).trans y7
          have x8 := (hlow.cell hlb).trans y8
          have HLC : Hid (∀ q, asg (.mk ⟨k, nm, ob, ot, fn, od, ex⟩ pf ps) = q → lcS DD (.mk ⟨k, nm, ob, ot, fn, od, ex⟩ pf ps) = if q = true then adL nm DD else DD) := Lib.hid fun q h => by unfold lcS; rw [h]; rfl
          have HAS : Hid (asg (.mk ⟨k, nm, ob, ot, fn, od, ex⟩ pf ps) = (kdOk k && (rw16 k).nm)) := Lib.hid rfl
          have hl2 := lcSLen DD (.mk ⟨k, nm, ob, ot, fn, od, ex⟩ pf ps)
          obtain ⟨D2, hD2⟩ : ∃ x, lcS DD (.mk ⟨k, nm, ob, ot, fn, od, ex⟩ pf ps) = x := ⟨_, rfl⟩
          rw [hD2] at hnx hl2
          rw [hD2] at HLC
          have hl7 := nmLLen D2 pf
          have HB7 := Lib.hid (show D2.length + Tr.szL pf ≤ 9000000 by omega)
          have HB8 := Lib.hid (show (nmL D2 pf).length + Tr.szL ps ≤ 9000000 by omega)
          have HDL := Lib.hid (show DD.length ≤ 10000000 by omega)
          have HNX := Lib.hid hnx
          have HLOW := Lib.hid hlow
          have HN7 := Lib.hid hn7
          have HN8 := Lib.hid hn8
          have HR7 := Lib.hid r7
          have HR8 := Lib.hid r8
          obtain ⟨W1, hW1⟩ : ∃ W1, wr.alloc (.cells #[.int .i64 k, .string nm, .string ob, .string ot, .int .i64 fn, .int .i64 od, .slice A6 n6 c6, .slice A7 n7 c7, .slice A8 n8 c8] 54) = W1 := ⟨_, rfl⟩
          have hb1 : Below wr.heap.size wr W1 := by rw [← hW1]; exact belowAlloc _ _
          have B1 : Blk W1 wr.heap.size 54 #[.int .i64 k, .string nm, .string ob, .string ot, .int .i64 fn, .int .i64 od, .slice A6 n6 c6, .slice A7 n7 c7, .slice A8 n8 c8] := by rw [← hW1]; exact Blk.new _ _ _
          have HS1 := Lib.hid (HS.out.below hb1)
          have HX1 := Lib.hid B1
          have HNE1 := Lib.hid (fun g (hg : (Value.slice A1 n1 c1).ownBlock = some g) => (show g ≠ wr.heap.size from by have := (HS.out.row.lt hg).2; omega))
          have f0 : W1.cell? ⟨wr.heap.size, 0, none⟩ = some (.int .i64 k) := B1.cell 0
          have f7 : W1.cell? ⟨wr.heap.size, 7, none⟩ = some (.slice A7 n7 c7) := B1.cell 7
          have HW1 := Lib.hid hW1
          have HK := Lib.hid (rKnown16 k W1)
          clear hnx hzz hzp hln hZ hlow hP hDD hn6 hn7 hn8 r6 r7 r8 y0 y1 y2 y3 y4 y5 y6 y7 y8 hl2 hl7 hb1 B1 hW1
          go_upto_region 5 with fail
          rw [HW1.out]
          clear x0 x1 x2 x3 x4 x5 x6 x7 x8
          cases hkd : kdOk k
          · rw [hkd] at HK
            have HD2 := Lib.hid (show D2 = DD from (HLC.out false (by rw [HAS.out, hkd]; rfl)).trans (if_neg (by decide)))
            have HS5 := HS1
            rw [← HD2.out] at HS5
            clear hkd
            go_wp2_with (go_at_call 117; refine HK.out.mono ?_; rintro e w' ⟨rfl, rfl⟩)
            have HC7 := Lib.hid (HI.out D1 (Nat.lt_succ_self _) pf n7 c7 HN7.out A7 HR7.out A1 n1 c1 D2 W1 (HS5.out.low HW0.out HO.out) HS5.out.row HB7.out)
            refine HC7.out.mono ?_
            rintro e W7 ⟨v3, rfl, h7⟩
            obtain ⟨A3, q3, rfl⟩ := h7.row.sl
            obtain ⟨n3, hn3⟩ : ∃ n, (nmL D2 pf).length = n := ⟨_, rfl⟩
            rw [hn3] at h7 ⊢
            have HX7 := Lib.hid (show Blk W7 wr.heap.size 54 _ from (h7.chg.block _ HX1.out.lt fun e => HNE1.out _ e rfl).trans HX1.out)
            have g8 : W7.cell? ⟨wr.heap.size, 8, none⟩ = some (.slice A8 n8 c8) := HX7.out.cell 8
            have HS7 := Lib.hid (HS5.out.trans h7)
            have HC8 := Lib.hid (HI.out D1 (Nat.lt_succ_self _) ps n8 c8 HN8.out A8 HR8.out A3 n3 q3 (nmL D2 pf) W7 (HS7.out.low HW0.out HO.out) HS7.out.row HB8.out)
            clear h7 hn3
            go_wp2_with fail
            refine HC8.out.mono ?_
            rintro e W8 ⟨v4, rfl, h8⟩
            obtain ⟨A4, q4, rfl⟩ := h8.row.sl
            obtain ⟨n4, hn4⟩ : ∃ n, (nmL (nmL D2 pf) ps).length = n := ⟨_, rfl⟩
            rw [hn4] at h8 ⊢
            have HS8 := Lib.hid (HS7.out.trans h8)
            rw [← HNX.out] at HS8
            clear h8 hn4
            go_wp2_with fail
            go_roundw
            case rel => exact ⟨j + 1, _, _, _, rfl, by go_num, by omega, HS8⟩
            case measure => simp [intOf]; omega
          · rw [hkd] at HK
            obtain ⟨jk, hjk, rfl⟩ : ∃ jk : Nat, jk < 20 ∧ k = (jk : Int) + 1 := ⟨(k - 1).toNat, by unfold kdOk at hkd; simp at hkd; omega, by unfold kdOk at hkd; simp at hkd; omega⟩
            have HU := Lib.hid (rUses16 jk hjk 78 W1)
            rw [usNm jk hjk] at HU
            cases hnmb : (rw16 ((jk : Int) + 1)).nm
            · rw [hnmb] at HU
              have HD2 := Lib.hid (show D2 = DD from (HLC.out false (by rw [HAS.out, hkd, hnmb]; rfl)).trans (if_neg (by decide)))
              have HS5 := HS1
              rw [← HD2.out] at HS5
              clear hkd hnmb
              go_wp2_with (first | (go_at_call 117; refine HK.out.mono ?_; rintro e w' ⟨rfl, rfl⟩) | (go_at_call 118; refine HU.out.mono ?_; rintro e W2 ⟨rfl, hb2⟩; have HS6 := Lib.hid (HS5.out.below hb2); have HX2 := Lib.hid (HX1.out.below' hb2); have g7 : W2.cell? ⟨wr.heap.size, 7, none⟩ = some (.slice A7 n7 c7) := HX2.out.cell 7; clear hb2))
              have HC7 := Lib.hid (HI.out D1 (Nat.lt_succ_self _) pf n7 c7 HN7.out A7 HR7.out A1 n1 c1 D2 W2 (HS6.out.low HW0.out HO.out) HS6.out.row HB7.out)
              refine HC7.out.mono ?_
              rintro e W7 ⟨v3, rfl, h7⟩
              obtain ⟨A3, q3, rfl⟩ := h7.row.sl
              obtain ⟨n3, hn3⟩ : ∃ n, (nmL D2 pf).length = n := ⟨_, rfl⟩
              rw [hn3] at h7 ⊢
              have HX7 := Lib.hid (show Blk W7 wr.heap.size 54 _ from (h7.chg.block _ HX2.out.lt fun e => HNE1.out _ e rfl).trans HX2.out)
              have g8 : W7.cell? ⟨wr.heap.size, 8, none⟩ = some (.slice A8 n8 c8) := HX7.out.cell 8
              have HS7 := Lib.hid (HS6.out.trans h7)
              have HC8 := Lib.hid (HI.out D1 (Nat.lt_succ_self _) ps n8 c8 HN8.out A8 HR8.out A3 n3 q3 (nmL D2 pf) W7 (HS7.out.low HW0.out HO.out) HS7.out.row HB8.out)
              clear h7 hn3
              go_wp2_with fail
              refine HC8.out.mono ?_
              rintro e W8 ⟨v4, rfl, h8⟩
              obtain ⟨A4, q4, rfl⟩ := h8.row.sl
              obtain ⟨n4, hn4⟩ : ∃ n, (nmL (nmL D2 pf) ps).length = n := ⟨_, rfl⟩
              rw [hn4] at h8 ⊢
              have HS8 := Lib.hid (HS7.out.trans h8)
              rw [← HNX.out] at HS8
              clear h8 hn4
              go_wp2_with fail
              go_roundw
              case rel => exact ⟨j + 1, _, _, _, rfl, by go_num, by omega, HS8⟩
              case measure => simp [intOf]; omega
            · rw [hnmb] at HU
              have HLA := Lib.hid (show D2 = adL nm DD from (HLC.out true (by rw [HAS.out, hkd, hnmb]; rfl)).trans (if_pos rfl))
              clear hkd hnmb
              go_wp2_with (first | (go_at_call 117; refine HK.out.mono ?_; rintro e w' ⟨rfl, rfl⟩) | (go_at_call 118; refine HU.out.mono ?_; rintro e W2 ⟨rfl, hb2⟩; have HS2 := Lib.hid (HS1.out.below hb2); have HX2 := Lib.hid (HX1.out.below' hb2); have f1 : W2.cell? ⟨wr.heap.size, 1, none⟩ = some (.string nm) := HX2.out.cell 1; have g7 : W2.cell? ⟨wr.heap.size, 7, none⟩ = some (.slice A7 n7 c7) := HX2.out.cell 7; clear hb2))
              have HIN := Lib.hid (show Calls Tryz.prog 53 #[.slice A1 n1 c1, .string nm] W2 fun e w' => e = .returned (.bool (inS nm DD)) ∧ W2 = w' from by
                obtain ⟨A9, c9, e9, r9⟩ := HS2.out.row.rd
                injection e9 with e1 e2 e3
                subst e1 e3
                exact rIn16 DD n1 c1 e2.symm A1 nm W2 r9)
              cases hin : inS nm DD
              · rw [hin] at HIN
                have HD2 := Lib.hid (show D2 = DD ++ [nm] from HLA.out.trans (by unfold adL; rw [hin, if_neg (by decide)]))
                clear hin
                refine HIN.out.mono ?_
                rintro e w' ⟨rfl, rfl⟩
                obtain ⟨U, hU⟩ : ∃ U, W2.alloc (.cells #[.string nm] 9) = U := ⟨_, rfl⟩
                have hbU : Below W2.heap.size W2 U := by rw [← hU]; exact belowAlloc _ _
                have hBU : Blk U W2.heap.size 9 #[.string nm] := by rw [← hU]; exact Blk.new _ _ _
                have hzU : U.heap.size = W2.heap.size + 1 := by rw [← hU]; simp
                have hS3 := HS2.out.below hbU
                obtain ⟨v', W3, hrun, ho2, hg2, hblk⟩ := hS3.row.push HDL.out (Nat.le_trans HLOW.out.size (by have h1 := HX2.out.lt; omega)) hBU 23
                have c2 : Chg U W3 (fun q => (Value.slice A1 n1 c1).ownBlock ≠ some q) := Chg.ofGrown hg2 fun _ h => h
                have hown : ∀ g, v'.ownBlock = some g → (Value.slice A1 n1 c1).ownBlock = some g ∨ U.heap.size ≤ g := fun g hg => by
                  rcases hblk with e | e
                  · exact .inl (e ▸ hg)
                  · rw [e] at hg
                    injection hg with hg
                    exact .inr (by omega)
                have hS4 : NmS w0 w (.slice Al nl cl) v' (DD ++ [nm]) W3 := hS3.trans ⟨ho2, c2, hown⟩
                rw [← HD2.out] at hS4
                obtain ⟨A2, q2, rfl⟩ := ho2.sl
                obtain ⟨n2, hn2⟩ : ∃ n, (DD ++ [nm]).length = n := ⟨_, rfl⟩
                rw [hn2] at hrun hS4 hown
                have HNE2 := Lib.hid (fun g (hg : (Value.slice A2 n2 q2).ownBlock = some g) => (show g ≠ wr.heap.size from (hown g hg).elim (HNE1.out g) fun h => by have := HX2.out.lt; omega))
                have HX3 := Lib.hid (show Blk W3 wr.heap.size 54 _ from (c2.block _ (by have := HX2.out.lt; omega) fun e => HNE1.out _ e rfl).trans (HX2.out.below' hbU))
                have HS5 := Lib.hid hS4
                have g7' : W3.cell? ⟨wr.heap.size, 7, none⟩ = some (.slice A7 n7 c7) := HX3.out.cell 7
                clear hS3 ho2 hg2 hblk c2 hown hS4 hn2 hbU hBU hzU
                subst hU
                go_wp2_with (at_builtin; refine Lib.wpList_append_run _ rfl _ _ _ _ rfl _ _ rfl rfl _ _ hrun ?_)
                have HC7 := Lib.hid (HI.out D1 (Nat.lt_succ_self _) pf n7 c7 HN7.out A7 HR7.out A2 n2 q2 D2 W3 (HS5.out.low HW0.out HO.out) HS5.out.row HB7.out)
                refine HC7.out.mono ?_
                rintro e W7 ⟨v3, rfl, h7⟩
                obtain ⟨A3, q3, rfl⟩ := h7.row.sl
                obtain ⟨n3, hn3⟩ : ∃ n, (nmL D2 pf).length = n := ⟨_, rfl⟩
                rw [hn3] at h7 ⊢
                have HX7 := Lib.hid (show Blk W7 wr.heap.size 54 _ from (h7.chg.block _ HX3.out.lt fun e => HNE2.out _ e rfl).trans HX3.out)
                have g8 : W7.cell? ⟨wr.heap.size, 8, none⟩ = some (.slice A8 n8 c8) := HX7.out.cell 8
                have HS7 := Lib.hid (HS5.out.trans h7)
                have HC8 := Lib.hid (HI.out D1 (Nat.lt_succ_self _) ps n8 c8 HN8.out A8 HR8.out A3 n3 q3 (nmL D2 pf) W7 (HS7.out.low HW0.out HO.out) HS7.out.row HB8.out)
                clear h7 hn3
                go_wp2_with fail
                refine HC8.out.mono ?_
                rintro e W8 ⟨v4, rfl, h8⟩
                obtain ⟨A4, q4, rfl⟩ := h8.row.sl
                obtain ⟨n4, hn4⟩ : ∃ n, (nmL (nmL D2 pf) ps).length = n := ⟨_, rfl⟩
                rw [hn4] at h8 ⊢
                have HS8 := Lib.hid (HS7.out.trans h8)
                rw [← HNX.out] at HS8
                clear h8 hn4
                go_wp2_with fail
                go_roundw
                case rel => exact ⟨j + 1, _, _, _, rfl, by go_num, by omega, HS8⟩
                case measure => simp [intOf]; omega
              · rw [hin] at HIN
                have HD2 := Lib.hid (show D2 = DD from HLA.out.trans (by unfold adL; rw [hin, if_pos rfl]))
                have HS5 := HS2
                rw [← HD2.out] at HS5
                clear hin
                refine HIN.out.mono ?_
                rintro e w' ⟨rfl, rfl⟩
                go_wp2_with fail
                have HC7 := Lib.hid (HI.out D1 (Nat.lt_succ_self _) pf n7 c7 HN7.out A7 HR7.out A1 n1 c1 D2 W2 (HS5.out.low HW0.out HO.out) HS5.out.row HB7.out)
                refine HC7.out.mono ?_
                rintro e W7 ⟨v3, rfl, h7⟩
                obtain ⟨A3, q3, rfl⟩ := h7.row.sl
                obtain ⟨n3, hn3⟩ : ∃ n, (nmL D2 pf).length = n := ⟨_, rfl⟩
                rw [hn3] at h7 ⊢
                have HX7 := Lib.hid (show Blk W7 wr.heap.size 54 _ from (h7.chg.block _ HX2.out.lt fun e => HNE1.out _ e rfl).trans HX2.out)
                have g8 : W7.cell? ⟨wr.heap.size, 8, none⟩ = some (.slice A8 n8 c8) := HX7.out.cell 8
                have HS7 := Lib.hid (HS5.out.trans h7)
                have HC8 := Lib.hid (HI.out D1 (Nat.lt_succ_self _) ps n8 c8 HN8.out A8 HR8.out A3 n3 q3 (nmL D2 pf) W7 (HS7.out.low HW0.out HO.out) HS7.out.row HB8.out)
                clear h7 hn3
                go_wp2_with fail
                refine HC8.out.mono ?_
                rintro e W8 ⟨v4, rfl, h8⟩
                obtain ⟨A4, q4, rfl⟩ := h8.row.sl
                obtain ⟨n4, hn4⟩ : ∃ n, (nmL (nmL D2 pf) ps).length = n := ⟨_, rfl⟩
                rw [hn4] at h8 ⊢
                have HS8 := Lib.hid (HS7.out.trans h8)
                rw [← HNX.out] at HS8
                clear h8 hn4
                go_wp2_with fail
                go_roundw
                case rel => exact ⟨j + 1, _, _, _, rfl, by go_num, by omega, HS8⟩
                case measure => simp [intOf]; omega
      · have hjn : j = n := by omega
        subst hjn
        have HE := Lib.hid (show nmL Dl (ts.take j) = nmL Dl ts by rw [← HN.out, List.take_length])
        rw [HE.out] at HS
        go_wp2
        go_ret
        exact ⟨_, rfl, HS.out⟩
end Go.Proofs.YtiaendggmamnkaaGreatDoor

namespace Go.Proofs.YtiaendggmamnkaaGreatDoor
open Go Go.RowKit

theorem sizeNil (s : ByteArray) : s.size = 0 ↔ s.toList = [] := by
  have h := szDec s
  rw [Bool.eq_iff_iff, beq_iff_eq, decide_eq_true_iff] at h
  exact h
set_option maxRecDepth 100000 in
set_option maxHeartbeats 4000000 in
theorem rLocals16 (dx D : Nat) (p : Pc) (Ab : Option Addr) (nb cb : Nat) (hn : p.body.length = nb) (hsz : Tr.szL p.body ≤ 4000000) (w : World) (hr : RdE 9 (EM dx D) w Ab cb p.body) :
    Calls Tryz.prog 25 #[.agg #[.string p.name, .string p.param, .slice Ab nb cb]] w fun e w' => ∃ v, e = .returned v ∧ OwnS6 w' w.heap.size v (lcP p) ∧ Below w.heap.size w w' := by
  obtain ⟨W1, hW1⟩ : ∃ W, w.alloc (.cells #[.string p.name, .string p.param, .slice Ab nb cb] 44) = W := ⟨_, rfl⟩
  obtain ⟨W2, hW2⟩ : ∃ W, W1.alloc (.cells #[] 9) = W := ⟨_, rfl⟩
  have hb1 : Below w.heap.size w W1 := by rw [← hW1]; exact belowAlloc _ _
  have hb2 : Below W1.heap.size W1 W2 := by rw [← hW2]; exact belowAlloc _ _
  have hz1 : W1.heap.size = w.heap.size + 1 := by rw [← hW1]; simp
  have hz2 : W2.heap.size = W1.heap.size + 1 := by rw [← hW2]; simp
  have B1 : Blk W1 w.heap.size 44 #[.string p.name, .string p.param, .slice Ab nb cb] := by rw [← hW1]; exact Blk.new _ _ _
  have R0 : Blk W2 W1.heap.size 9 #[] := by rw [← hW2]; exact Blk.new _ _ _
  have B2 := B1.below' hb2
  have hbw := belowThen hb1 hb2
  have o2 : OwnS6 W2 w.heap.size (.slice (some ⟨W1.heap.size, 0, none⟩) 0 0) [] := ⟨rfl, .inr ⟨W1.heap.size, 0, #[], rfl, by omega, R0, Nat.le_refl _, by unfold maxLen; omega, rfl, rfl⟩⟩
  have f1 : W2.cell? ⟨w.heap.size, 1, none⟩ = some (.string p.param) := B2.cell 1
  have f2 : W2.cell? ⟨w.heap.size, 2, none⟩ = some (.slice Ab nb cb) := B2.cell 2
  have HLC := Lib.hid (lcPIs p)
  have HNM := Lib.hid (rNames16 w dx D p.body nb cb hn Ab hr)
  have HZ := Lib.hid hsz
  have HB := Lib.hid hbw
  have HO := Lib.hid o2
  have HX := Lib.hid B2
  have HN := Lib.hid (sizeNil p.param)
  have HPM : Hid (pmL p = if p.param.size = 0 then [] else [p.param]) := Lib.hid rfl
  have HE := Lib.hid (And.intro hz1 hz2)
  have HW1 := Lib.hid hW1
  have HW2 := Lib.hid hW2
  obtain ⟨s, hs⟩ : ∃ s, p.param = s := ⟨_, rfl⟩
  rw [hs] at f1 HN HPM HX HW1 ⊢
  clear hs hW1 hW2 hb1 hb2 hz1 hz2 B1 R0 B2 hbw o2 hn hr hsz
  by_cases hp : s.toList = []
  · have HP := Lib.hid (show pmL p = [] from HPM.out.trans (if_pos (HN.out.2 hp)))
    have hp3 : s.toList.isEmpty = true := by rw [hp]; rfl
    have HC := Lib.hid (HNM.out (some ⟨W1.heap.size, 0, none⟩) 0 0 [] W2 HB.out HO.out (by have := HZ.out; simp; omega))
    go_enter Tryz.func25, Tryz.ntmps25
    go_upto_region 1 with fail
    rw [HW1.out]
    go_upto_region 2 with fail
    rw [HW2.out]
    go_wp2_with fail
    refine HC.out.mono ?_
    rintro e W3 ⟨v3, rfl, h3⟩
    have HF := Lib.hid h3
    clear h3
    go_wp2_with fail
    go_ret
    exact ⟨v3, rfl, by rw [HLC.out, HP.out]; exact HF.out.row, HF.out.low HB.out HO.out⟩
  · have HP := Lib.hid (show pmL p = [s] from HPM.out.trans (if_neg fun h => hp (HN.out.1 h)))
    obtain ⟨U, hU⟩ : ∃ U, W2.alloc (.cells #[.string s] 9) = U := ⟨_, rfl⟩
    have hbU : Below W2.heap.size W2 U := by rw [← hU]; exact belowAlloc _ _
    have hBU : Blk U W2.heap.size 9 #[.string s] := by rw [← hU]; exact Blk.new _ _ _
    have hzU : U.heap.size = W2.heap.size + 1 := by rw [← hU]; simp
    obtain ⟨v', W3, hrun, ho2, hg2, hblk⟩ := (HO.out.below hbU).push (by simp) (by have := HE.out; omega) hBU 23
    have c2 : Chg U W3 (fun q => (Value.slice (some ⟨W1.heap.size, 0, none⟩) 0 0).ownBlock ≠ some q) := Chg.ofGrown hg2 fun _ h => h
    have hne : ∀ q, q ≠ W1.heap.size → (Value.slice (some ⟨W1.heap.size, 0, none⟩) 0 0).ownBlock ≠ some q := fun q hq e => hq (Option.some.inj e).symm
    have hX3 : Blk W3 w.heap.size 44 _ := (c2.block _ (by have := HX.out.lt; omega) (hne _ (by have := HE.out; omega))).trans (HX.out.below' hbU)
    have hB3 : Below w.heap.size w W3 := by
      have hb := belowThen HB.out hbU
      exact ⟨c2.os.trans hb.os, c2.tape.trans hb.tape, c2.output.trans hb.output, Nat.le_trans hb.size c2.size, fun q hq => (c2.block q (Nat.lt_of_lt_of_le hq hb.size) (hne q (by have := HE.out; omega))).trans (hb.block q hq)⟩
    obtain ⟨A2, q2, rfl⟩ := ho2.sl
    have HC := Lib.hid (HNM.out A2 _ q2 _ W3 hB3 ho2 (by have := HZ.out; simp; omega))
    have HO3 := Lib.hid ho2
    have HB3 := Lib.hid hB3
    have g2 : W3.cell? ⟨w.heap.size, 2, none⟩ = some (.slice Ab nb cb) := hX3.cell 2
    simp only [List.nil_append, List.length_cons, List.length_nil, Nat.zero_add] at hrun HC HO3
    have hp3 : s.toList.isEmpty = false := by simpa using hp
    clear hbU hBU hzU ho2 hg2 hblk c2 hne hX3 hB3
    go_enter Tryz.func25, Tryz.ntmps25
    go_upto_region 1 with fail
    rw [HW1.out]
    go_upto_region 2 with fail
    rw [HW2.out]
    subst hU
    go_wp2_with (at_builtin; refine Lib.wpList_append_run _ rfl _ _ _ _ rfl _ _ rfl rfl _ _ hrun ?_)
    refine HC.out.mono ?_
    rintro e W4 ⟨v4, rfl, h4⟩
    have HF := Lib.hid h4
    clear h4
    go_wp2_with fail
    go_ret
    exact ⟨v4, rfl, by rw [HLC.out, HP.out]; exact HF.out.row, HF.out.low HB3.out HO3.out⟩
end Go.Proofs.YtiaendggmamnkaaGreatDoor

namespace Go.Proofs.YtiaendggmamnkaaGreatDoor
open Go Go.RowKit

set_option maxRecDepth 100000 in
set_option maxHeartbeats 4000000 in
theorem lawShape (dx D : Nat) (p : Pc) (hp : WfP p) (Ab : Option Addr) (nb cb : Nat) (hn : p.body.length = nb) (w : World) (hT : RwsT w) (hr : RdE 9 (EM dx D) w Ab cb p.body) :
    Calls Tryz.prog 5 #[.agg #[.string p.name, .string p.param, .slice Ab nb cb]] w fun e w' => e = .returned (.bool true) ∧ Below w.heap.size w w' := by
  obtain ⟨W, hW⟩ : ∃ W, w.alloc (.cells #[.string p.name, .string p.param, .slice Ab nb cb] 44) = W := ⟨_, rfl⟩
  obtain ⟨W2, hW2⟩ : ∃ W2, W.alloc (.cells #[.string p.name, .string p.param, .slice Ab nb cb] 44) = W2 := ⟨_, rfl⟩
  have hb : Below w.heap.size w W := by rw [← hW]; exact belowAlloc _ _
  have hb2 : Below W.heap.size W W2 := by rw [← hW2]; exact belowAlloc _ _
  have B : Blk W w.heap.size 44 #[.string p.name, .string p.param, .slice Ab nb cb] := by rw [← hW]; exact Blk.new _ _ _
  have B2 : Blk W2 W.heap.size 44 #[.string p.name, .string p.param, .slice Ab nb cb] := by rw [← hW2]; exact Blk.new _ _ _
  have hbw := belowThen hb hb2
  have hrow : RdE 3 (EPc dx D) W2 (some ⟨W.heap.size, 0, none⟩) 1 [p] := litRow B2 rfl (by decide) fun j hj => by
    have : j = 0 := by simpa using hj
    subst this
    exact ⟨B2.cell 0, B2.cell 1, _, B2.cell 2, Ab, cb, by rw [← hn]; rfl, hr.below (stabM dx D) hbw⟩
  have hu : UnR W2 ⟨none, 0, 0, none, 0, 0, none, 0, 0, some ⟨W.heap.size, 0, none⟩, 1, 1, none, 0, 0⟩ ⟨[], [], [], [p], []⟩ dx D := ⟨rfl, rfl, rfl, rfl, rfl, RdE.nil, RdE.nil, RdE.nil, hrow, RdE.nil⟩
  have HF := Lib.hid (show Calls Tryz.prog 14 #[.agg #[.slice none 0 0, .slice none 0 0, .slice none 0 0, .slice (some ⟨W.heap.size, 0, none⟩) 1 1, .slice none 0 0]] W2 (GivesBlB W2) from rFewU16 dx D ⟨none, 0, 0, none, 0, 0, none, 0, 0, some ⟨W.heap.size, 0, none⟩, 1, 1, none, 0, 0⟩ ⟨[], [], [], [p], []⟩ W2 hu)
  have H1 := Lib.hid (fun (X : World) (hX : Below w.heap.size w X) => iLocals16 dx D p hp Ab nb cb hn X (hT.below hX) (hr.below (stabM dx D) hX))
  have H2 := Lib.hid (fun (X : World) (hX : Below w.heap.size w X) => rLocals16 dx D p Ab nb cb hn hp.body.sz X (hr.below (stabM dx D) hX))
  have H3 := Lib.hid (fun (X : World) (hX : Below w.heap.size w X) => iCount16 dx D Ab nb cb p.body hn hp.body.sz X (hr.below (stabM dx D) hX))
  have H4 := Lib.hid (fun (X : World) (hX : Below w.heap.size w X) => rCount16 dx D p.body nb cb hn hp.body.sz Ab X (hr.below (stabM dx D) hX))
  have HA := Lib.hid (fun (X : World) (hX : Below w.heap.size w X) => awake1 X (hT.below hX))
  obtain ⟨L, hL⟩ : ∃ k, lcP p = k := ⟨_, rfl⟩
  obtain ⟨K, hK⟩ : ∃ k, Tr.szL p.body = k := ⟨_, rfl⟩
  obtain ⟨pn, hpn⟩ : ∃ k, p.name = k := ⟨_, rfl⟩
  obtain ⟨pp, hpp⟩ : ∃ k, p.param = k := ⟨_, rfl⟩
  rw [hL, hpn, hpp] at H1 H2
  rw [hK] at H3 H4
  rw [hpn, hpp] at hW hW2 B ⊢
  have HB := Lib.hid (And.intro hbw (B.below' hb2))
  have f0 : W.cell? ⟨w.heap.size, 0, none⟩ = some (.string pn) := B.cell 0
  have f1 : W.cell? ⟨w.heap.size, 1, none⟩ = some (.string pp) := B.cell 1
  have f2 : W.cell? ⟨w.heap.size, 2, none⟩ = some (.slice Ab nb cb) := B.cell 2
  have HW := Lib.hid hW
  have HW2 := Lib.hid hW2
  obtain ⟨nl, hnl⟩ : ∃ k, L.length = k := ⟨_, rfl⟩
  have HNL := Lib.hid hnl
  clear hW hW2 hb hb2 B B2 hbw hrow hu hL hK hpn hpp hp hn hT hr hnl
  go_enter Tryz.func5, Tryz.ntmps5
  go_upto_region 1 with fail
  rw [HW.out]
  go_wp2_with fail
  rw [HW2.out]
  refine HF.out.mono ?_
  rintro e w2 ⟨b, rfl, hb2⟩
  have HB2 := Lib.hid (And.intro (belowThen HB.out.1 hb2) (HB.out.2.below' hb2))
  clear hb2 f0 f1 f2 HB
  cases b
  · go_wp2_with fail
    refine (HA.out _ HB2.out.1).mono ?_
    rintro e w3 ⟨rfl, hb3⟩
    have HB3 := Lib.hid (belowThen HB2.out.1 hb3)
    clear hb3
    go_wp2_with fail
    go_ret
    exact ⟨rfl, HB3.out⟩
  · have HS : Hid (∀ X : World, Below w2.heap.size w2 X → Below w2.heap.size w2 X ∧ X.cell? ⟨w.heap.size, 0, none⟩ = some (.string pn) ∧ X.cell? ⟨w.heap.size, 1, none⟩ = some (.string pp) ∧ X.cell? ⟨w.heap.size, 2, none⟩ = some (.slice Ab nb cb)) := Lib.hid fun X hX =>
      have B := HB2.out.2.below' hX
      ⟨hX, B.cell 0, B.cell 1, B.cell 2⟩
    have HS0 := HS.out w2.drew ((Below.refl _ w2).drew)
    have C0 := Lib.hid (fun X (hX : Below w2.heap.size w2 X) => HA.out X (belowThen HB2.out.1 hX))
    have C1 := Lib.hid (fun X (hX : Below w2.heap.size w2 X) => H1.out X (belowThen HB2.out.1 hX))
    have C2 := Lib.hid (fun X (hX : Below w2.heap.size w2 X) => H2.out X (belowThen HB2.out.1 hX))
    have C3 := Lib.hid (fun X (hX : Below w2.heap.size w2 X) => H3.out X (belowThen HB2.out.1 hX))
    have C4 := Lib.hid (fun X (hX : Below w2.heap.size w2 X) => H4.out X (belowThen HB2.out.1 hX))
    clear HA H1 H2 H3 H4 HF
    go_wp2_with fail
    go_region_held3 (fun X => Below w2.heap.size w2 X ∧ X.cell? ⟨w.heap.size, 0, none⟩ = some (.string pn) ∧ X.cell? ⟨w.heap.size, 1, none⟩ = some (.string pp) ∧ X.cell? ⟨w.heap.size, 2, none⟩ = some (.slice Ab nb cb)) (first | assumption | exact HS.out _ (by assumption)) (first
      | (go_at_call 15; refine (C0.out _ (‹Below w2.heap.size w2 _ ∧ _›).1).mono ?_; rintro e u1 ⟨rfl, y1⟩; have q1 := belowThen (‹Below w2.heap.size w2 _ ∧ _›).1 y1; clear C0)
      | (go_at_call 24; refine (C1.out _ (‹Below w2.heap.size w2 _ ∧ _›).1).mono ?_; rintro e u2 ⟨v2, rfl, o2, y2⟩; have q2 := belowThen (‹Below w2.heap.size w2 _ ∧ _›).1 y2; obtain ⟨A2, c2, rfl, r2⟩ := o2.rd; have HR2 := Lib.hid r2; rw [HNL.out]; clear C1 o2 r2)
      | (go_at_call 25; refine (C2.out _ (‹Below w2.heap.size w2 _ ∧ _›).1).mono ?_; rintro e u3 ⟨v3, rfl, o3, y3⟩; have q3 := belowThen (‹Below w2.heap.size w2 _ ∧ _›).1 y3; obtain ⟨A3, c3, rfl, r3⟩ := o3.rd; have HR3 := Lib.hid (And.intro (HR2.out.below stabS y3) r3); rw [HNL.out]; clear C2 o3 r3)
      | (go_at_call 23; refine (rStrings16 L L nl nl HNL.out HNL.out _ _ _ _ _ HR3.out.1 HR3.out.2).mono ?_; rintro e u4 ⟨rfl, y4⟩; have q4 := belowThen (‹Below w2.heap.size w2 _ ∧ _›).1 y4; rw [decide_eq_true (Eq.refl L)])
      | (go_at_call 26; refine (C3.out _ (‹Below w2.heap.size w2 _ ∧ _›).1).mono ?_; rintro e u5 ⟨rfl, y5⟩; have q5 := belowThen (‹Below w2.heap.size w2 _ ∧ _›).1 y5; clear C3)
      | (go_at_call 27; refine (C4.out _ (‹Below w2.heap.size w2 _ ∧ _›).1).mono ?_; rintro e u6 ⟨rfl, y6⟩; have q6 := belowThen (‹Below w2.heap.size w2 _ ∧ _›).1 y6; clear C4))
    have hfin : Below w2.heap.size w2 u6 := q6
    go_wp2
    go_ret
    exact ⟨rfl, belowThen HB2.out.1 hfin⟩
end Go.Proofs.YtiaendggmamnkaaGreatDoor
