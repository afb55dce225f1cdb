/-
  The specification's Keywords, Name, Depth.
-/
import Derived.Test.YtiaendggmamnkaaGreatDoorEAsRa
import Derived.Test.YtiaendggmamnkaaGreatDoorEAsTm
import Derived.Test.YtiaendggmamnkaaGreatDoorEAw
namespace Go.Proofs.YtiaendggmamnkaaGreatDoor
open Go Go.RowKit

/-- The keywords as strings. -/
def kwS : List ByteArray := kwL.map fun l => ⟨⟨l⟩⟩
theorem kwSIs (s : ByteArray) : inS s kwS = kwB s := by
  unfold inS kwS kwB
  rw [List.any_map, Bool.eq_iff_iff, List.any_eq_true, decide_eq_true_iff]
  constructor
  · rintro ⟨l, h1, h2⟩
    have h3 : l = s.data.toList := of_decide_eq_true h2
    exact h3 ▸ h1
  · exact fun h => ⟨_, h, by simp⟩
abbrev kwV : Array Value := #[.string { data := #[118, 97, 114] }, .string { data := #[109, 117, 116, 101, 120] }, .string { data := #[99, 111, 110, 100] }, .string { data := #[112, 114, 111, 99] }, .string { data := #[116, 104, 114, 101, 97, 100] }, .string { data := #[108, 111, 97, 100] }, .string { data := #[115, 116, 111, 114, 101] }, .string { data := #[115, 119, 97, 112] }, .string { data := #[102, 101, 116, 99, 104, 97, 100, 100] }, .string { data := #[99, 97, 115] }, .string { data := #[102, 101, 110, 99, 101] }, .string { data := #[97, 119, 97, 105, 116] }, .string { data := #[108, 111, 99, 107] }, .string { data := #[117, 110, 108, 111, 99, 107] }, .string { data := #[116, 114, 121, 108, 111, 99, 107] }, .string { data := #[119, 97, 105, 116] }, .string { data := #[115, 105, 103, 110, 97, 108] }, .string { data := #[98, 114, 111, 97, 100, 99, 97, 115, 116] }, .string { data := #[115, 112, 97, 119, 110] }, .string { data := #[106, 111, 105, 110] }, .string { data := #[97, 115, 115, 101, 114, 116] }, .string { data := #[105, 102] }, .string { data := #[101, 108, 115, 101] }, .string { data := #[119, 104, 105, 108, 101] }, .string { data := #[114, 101, 116, 117, 114, 110] }, .string { data := #[112, 108, 97, 105, 110] }, .string { data := #[114, 101, 108, 97, 120, 101, 100] }, .string { data := #[114, 101, 108, 97, 99, 113] }, .string { data := #[97, 100, 100] }, .string { data := #[115, 117, 98] }, .string { data := #[109, 117, 108] }, .string { data := #[97, 110, 100] }, .string { data := #[111, 114] }, .string { data := #[120, 111, 114] }, .string { data := #[101, 113] }, .string { data := #[110, 101] }, .string { data := #[108, 116] }, .string { data := #[108, 101] }]
theorem kwVIs : kwV = (kwS.map Value.string).toArray := by kernel_rfl
theorem kwVAt (j : Nat) (hj : j < kwS.length) : kwV[j]? = some (.string kwS[j]) := by rw [kwVIs]; simp [hj]
set_option maxRecDepth 100000 in
set_option maxHeartbeats 1000000 in
theorem rKw (w : World) : Calls Tryz.prog 162 #[] w fun e w' => ∃ A, e = .returned (.slice A 38 38) ∧ RdE 1 ES w' A 38 kwS ∧ Below w.heap.size w w' := by
  obtain ⟨W, hW⟩ : ∃ W, w.alloc (.cells kwV 9) = W := ⟨_, rfl⟩
  have hB : Blk W w.heap.size 9 kwV := by rw [← hW]; exact Blk.new _ _ _
  have hr : RdE 1 ES W (some ⟨w.heap.size, 0, none⟩) 38 kwS := litRow hB rfl (by decide) fun j hj => by
    unfold ES
    rw [Nat.mul_one]
    exact (hB.cell j).trans (kwVAt j hj)
  have HR := Lib.hid hr
  have HL := Lib.hid (show Below w.heap.size w W by rw [← hW]; exact belowAlloc _ _)
  have HW := Lib.hid hW
  clear hW hB hr
  go_enter Tryz.func162, Tryz.ntmps162
  go_wp2_with fail
  rw [HW.out]
  go_ret
  exact ⟨_, rfl, HR.out, HL.out⟩
theorem rName16 (s : ByteArray) (hs : s.size ≤ maxLen) (w : World) : Calls Tryz.prog 109 #[.string s] w fun e w' => e = .returned (.bool (nmA s)) ∧ Below w.heap.size w w' := by
  have HV := Lib.hid (rValidName s hs w)
  have HK := Lib.hid (rKw w)
  have HI := Lib.hid (fun A (X : World) (h : RdE 1 ES X A 38 kwS) => rIn16 kwS 38 38 rfl A s X h)
  rw [kwSIs] at HI
  have HL0 := Lib.hid (Below.refl w.heap.size w)
  unfold nmA
  cases h1 : nameB s
  · rw [h1] at HV
    clear h1
    go_enter Tryz.func109, Tryz.ntmps109
    go_wp2_with (go_at_call 161; refine HV.out.mono ?_; rintro e w' ⟨rfl, rfl⟩)
    go_ret
    exact ⟨rfl, HL0.out⟩
  · rw [h1] at HV
    clear h1
    obtain ⟨b, hb⟩ : ∃ b, kwB s = b := ⟨_, rfl⟩
    rw [hb] at HI
    rw [hb]
    clear hb
    cases b
    all_goals
      go_enter Tryz.func109, Tryz.ntmps109
      go_wp2_with (first | (go_at_call 161; refine HV.out.mono ?_; rintro e w' ⟨rfl, rfl⟩) | (go_at_call 162; refine HK.out.mono ?_; rintro e w2 ⟨A, rfl, hr, hl⟩; have HR := Lib.hid hr; have HL := Lib.hid hl; clear hr hl) | (go_at_call 53; refine (HI.out _ _ HR.out).mono ?_; rintro e w' ⟨rfl, rfl⟩))
      go_ret
      exact ⟨rfl, HL.out⟩
namespace Tr
variable {β : Type}
theorem dpLApp : ∀ a b : List (Tr β), dpL (a ++ b) = max (dpL a) (dpL b)
  | [], b => by simp [dpL]
  | t :: r, b => by rw [List.cons_append, dpL, dpLApp r b, dpL, Nat.max_assoc]
theorem dpLTake {l : List (Tr β)} {j : Nat} (hj : j < l.length) : dpL (l.take (j + 1)) = max (dpL (l.take j)) (dp l[j]) := by
  rw [List.take_succ_eq_append_getElem hj, dpLApp, dpL, dpL, Nat.max_zero]
theorem dpLIn {l : List (Tr β)} {j : Nat} (hj : j < l.length) : dp l[j] ≤ dpL l := by
  induction l generalizing j with
  | nil => simp at hj
  | cons t r ih =>
    rw [dpL]
    cases j with
    | zero => exact Nat.le_max_left _ _
    | succ j => exact Nat.le_trans (ih (by simpa using hj)) (Nat.le_max_right _ _)
theorem dpLPre {l : List (Tr β)} (j : Nat) : dpL (l.take j) ≤ dpL l := by
  conv => rhs; rw [← List.take_append_drop j l, dpLApp]
  exact Nat.le_max_left _ _
theorem dpFst {t : Tr β} (hs : t.snd = []) : dp t = 1 + dpL t.fst := by
  cases t with
  | mk v a b =>
    change b = [] at hs
    subst hs
    rw [dp, dpL, Nat.max_zero]
    rfl
mutual
theorem dpLe : ∀ t : Tr β, dp t ≤ sz t
  | .mk v a b => by
    have h1 := dpLLe a
    have h2 := dpLLe b
    rw [dp, sz]
    omega
theorem dpLLe : ∀ l : List (Tr β), dpL l ≤ szL l
  | [] => Nat.zero_le _
  | t :: r => by
    have h1 := dpLe t
    have h2 := dpLLe r
    rw [dpL, szL]
    omega
end
end Tr
theorem maxIte (a b : Nat) : (if a < b then (b : Int) else a) = ((max a b : Nat) : Int) := by
  by_cases h : a < b
  · rw [if_pos h]; omega
  · rw [if_neg h]; omega
set_option maxRecDepth 100000 in
set_option maxHeartbeats 1000000 in
theorem rDepth16 : ∀ (d : Nat) (t : Ex) (_ : t.snd = []) (_ : Tr.dp t ≤ 4000000) (A4 : Option Addr) (n4 c4 : Nat) (_ : t.fst.length = n4) (w : World) (_ : RdE 5 (EX d) w A4 c4 t.fst),
    Calls Tryz.prog 22 #[.agg (exC t.val.kind t.val.n t.val.name t.val.fn (.slice A4 n4 c4))] w fun e w' => e = .returned (.int .i64 (Tr.dp t : Int)) ∧ Below w.heap.size w w'
  | d, t, hs, hd, A4, n4, c4, hn, w, hr => by
    have HI := Lib.hid (show ∀ d', d' < d → ∀ (t : Ex) (_ : t.snd = []) (_ : Tr.dp t ≤ 4000000) (A4 : Option Addr) (n4 c4 : Nat) (_ : t.fst.length = n4) (w : World) (_ : RdE 5 (EX d') w A4 c4 t.fst),
      Calls Tryz.prog 22 #[.agg (exC t.val.kind t.val.n t.val.name t.val.fn (.slice A4 n4 c4))] w fun e w' => e = .returned (.int .i64 (Tr.dp t : Int)) ∧ Below w.heap.size w w' from fun d' h t hs hd A4 n4 c4 hn w hr => rDepth16 d' t hs hd A4 n4 c4 hn w hr)
    have hm := hr.max
    have hle := hr.le
    rw [hn] at hle
    unfold maxLen at hm
    rw [Tr.dpFst hs] at hd ⊢
    obtain ⟨⟨k, m, s, f⟩, a, sn⟩ := t
    change a.length = n4 at hn
    change RdE 5 (EX d) w A4 c4 a at hr
    change 1 + Tr.dpL a ≤ 4000000 at hd
    dsimp only [Tr.val, Tr.fst]
    clear hs
    obtain ⟨W, hW⟩ : ∃ W, w.alloc (.cells (exC k m s f (.slice A4 n4 c4)) 37) = W := ⟨_, rfl⟩
    have B : Blk W w.heap.size 37 (exC k m s f (.slice A4 n4 c4)) := by rw [← hW]; exact Blk.new _ _ _
    have HB0 := Lib.hid (And.intro (show Below w.heap.size w W by rw [← hW]; exact belowAlloc _ _) B)
    have HR := Lib.hid hr
    have HN := Lib.hid hn
    have HD := Lib.hid hd
    unfold exC at hW HI ⊢
    have HW := Lib.hid hW
    clear hr hn hd hW B
    go_enter Tryz.func22, Tryz.ntmps22
    go_upto_region 1 with fail
    rw [HW.out]
    go_wp2_with fail
    go_loopw [3, 4] (fun x i wr => ∃ j : Nat, x = .int .i64 ((Tr.dpL (a.take j) : Nat) : Int) ∧ i = .int .i64 j ∧ j ≤ n4 ∧ Hid (Below w.heap.size w wr ∧ Blk wr w.heap.size 37 (exC k m s f (.slice A4 n4 c4)))) (fun _ i _ => n4 - (intOf i).toNat)
    case atStart => exact ⟨0, rfl, rfl, Nat.zero_le _, HB0⟩
    case round =>
      obtain ⟨j, rfl, rfl, hj, HB⟩ := hrel
      have f4 : wr.cell? ⟨w.heap.size, 4, none⟩ = some (.slice A4 n4 c4) := HB.out.2.cell 4
      by_cases hlt : j < n4
      · have hjl : j < a.length := by rw [HN.out]; exact hlt
        have hj0 : (0 : Int) ≤ j := by omega
        have hj1 : (j : Int) < n4 := by omega
        have HR2 := Lib.hid (HR.out.below (stabX d) HB.out.1)
        cases d with
        | zero => exact (HR2.out.one hjl).elim fun _ h => h.elim fun _ h => h.2.2.elim
        | succ d1 =>
          obtain ⟨b, o, hA, hlb, g0, g1, g2, g3, hsn, v4, x4, A5, c5, rfl, r5⟩ := HR2.out.one hjl
          subst hA
          obtain ⟨M, hM⟩ : ∃ M, Tr.dpL (a.take j) = M := ⟨_, rfl⟩
          obtain ⟨P, hP⟩ : ∃ x, a[j] = x := ⟨_, rfl⟩
          have hnx := Tr.dpLTake hjl
          have hin := Tr.dpLIn hjl
          have hpr := Tr.dpLPre (l := a) j
          have hD := HD.out
          rw [hM, hP] at hnx
          rw [hP] at hin g0 g1 g2 g3 hsn x4 r5
          rw [hM] at hpr
          rw [hM]
          obtain ⟨n5, hn5⟩ : ∃ n, P.fst.length = n := ⟨_, rfl⟩
          rw [hn5] at x4
          have HC := Lib.hid (fun hd => HI.out d1 (Nat.lt_succ_self _) P hsn hd A5 n5 c5 hn5 wr r5)
          obtain ⟨K, hK⟩ : ∃ K, Tr.dp P = K := ⟨_, rfl⟩
          rw [hK] at HC hnx hin
          have HC := Lib.hid (HC.out (by omega))
          have hM9 : M ≤ 4000000 := by omega
          have hK9 : K ≤ 4000000 := by omega
          have HNX := Lib.hid hnx
          clear hP hn5 r5 hM hK hnx hin hpr hD hsn
          go_wp2_with fail
          refine HC.out.mono ?_
          rintro e w2 ⟨rfl, hb2⟩
          have HB2 := Lib.hid (And.intro (belowThen HB.out.1 hb2) (HB.out.2.below' hb2))
          clear hb2
          go_wp2_with fail
          go_roundw
          case rel => exact ⟨j + 1, by rw [HNX.out, ← maxIte], by go_num, by omega, HB2⟩
          case measure => simp [intOf]; omega
      · have hjn : j = n4 := by omega
        subst hjn
        rw [← HN.out, List.take_length]
        have hD := HD.out
        rw [HN.out]
        go_wp2_with fail
        go_ret
        exact ⟨congrArg (fun z : Int => Ending.returned (.int .i64 z)) (by omega), HB.out.1⟩
termination_by d => d
end Go.Proofs.YtiaendggmamnkaaGreatDoor
