/-
  The law FrameLists.
-/
import Derived.Test.YtcbipokohjajoaaFLives
import Derived.Deep.RegionHeld3
namespace Go.Proofs.Ytcbipokohjajoaa
open Go.RowKit

/-- Block b holds the argument. -/
def BoxL (W : World) (b : Nat) (A : Option Addr) (n c : Nat) (most : Int) (B : Option Addr) (m d : Nat) (s : ByteArray) : Prop := W.heap[b]? = some (.cells #[.slice A n c, .int .i64 most, .slice B m d, .string s] 32 (0, 0))
section
variable {W W' : World} {b : Nat} {A : Option Addr} {n c : Nat} {most : Int} {B : Option Addr} {m d : Nat} {s : ByteArray}
theorem BoxL.new (w : World) : BoxL (w.alloc (.cells #[.slice A n c, .int .i64 most, .slice B m d, .string s] 32)) w.heap.size A n c most B m d s := heap_alloc_new w _
theorem BoxL.lt (h : BoxL W b A n c most B m d s) : b < W.heap.size := (Array.getElem?_eq_some_iff.1 h).1
theorem BoxL.below (h : BoxL W b A n c most B m d s) (hb : Below W.heap.size W W') : BoxL W' b A n c most B m d s := (hb.block _ h.lt).trans h
theorem BoxL.facts (h : BoxL W b A n c most B m d s) : W.cell? ⟨b, 0, none⟩ = some (.slice A n c) ∧ W.cell? ⟨b, 1, none⟩ = some (.int .i64 most) ∧ W.cell? ⟨b, 2, none⟩ = some (.slice B m d) ∧ W.cell? ⟨b, 3, none⟩ = some (.string s) :=
  ⟨cell_of_row W b 0 _ _ _ h, cell_of_row W b 1 _ _ _ h, cell_of_row W b 2 _ _ _ h, cell_of_row W b 3 _ _ _ h⟩
end
theorem rEqualT (l : List Int) (n k : Nat) (hn : l.length = n) (hk : l.length = k) (A B : Option Addr) (c d : Nat) (w : World) (ha : Rd w A c l) (hb : Rd w B d l) :
    Calls Try.prog 24 #[.slice A n c, .slice B k d] w fun e w' => e = .returned (.bool true) ∧ Below w.heap.size w w' := by
  subst hn
  subst hk
  refine (rEqual l l true (eqB_yes rfl) A B c d w ha hb).mono ?_
  rintro e w' ⟨rfl, q, rfl⟩
  exact ⟨rfl, belowN w q⟩
set_option maxRecDepth 100000 in
set_option maxHeartbeats 8000000 in
theorem lawLists (l : List UInt8) (n : Nat) (hn : l.length = n) (most : Int) (L : List Int) (m : Nat) (hm : L.length = m) (hL : ∀ x ∈ L, -9223372036854775808 ≤ x ∧ x ≤ 9223372036854775807) (s : ByteArray) (A B : Option Addr) (c d : Nat) (w : World) (ha : Rb w A c l) (hb : Rd w B d L) :
    Calls Try.prog 4 #[.agg #[.slice A n c, .int .i64 most, .slice B m d, .string s]] w fun e w' => e = .returned (.bool true) ∧ Below w.heap.size w w' := by
  obtain ⟨V, hV⟩ : ∃ V, w.alloc (.cells #[.slice A n c, .int .i64 most, .slice B m d, .string s] 32) = V := ⟨_, rfl⟩
  have BX : Hid (BoxL V w.heap.size A n c most B m d s) := by rw [← hV]; exact Lib.hid (BoxL.new w)
  have HBV : Hid (Below w.heap.size w V) := by rw [← hV]; exact Lib.hid (belowAlloc w _)
  obtain ⟨c0, c1, c2, c3⟩ := BX.out.facts
  have HLV := Lib.hid (livesOk V)
  by_cases h1 : n > 200
  · go_enter Try.func4, Try.ntmps4
    go_wp2_with fail
    refine HLV.out.mono ?_
    rintro e w1 ⟨rfl, b1⟩
    go_wp2
    go_ret
    exact ⟨rfl, belowThen HBV.out b1⟩
  have d1 : ¬ (n : Int) > 200 := by omega
  by_cases h2 : m > 50
  · go_enter Try.func4, Try.ntmps4
    go_wp2_with fail
    refine HLV.out.mono ?_
    rintro e w1 ⟨rfl, b1⟩
    go_wp2
    go_ret
    exact ⟨rfl, belowThen HBV.out b1⟩
  have d2 : ¬ (m : Int) > 50 := by omega
  by_cases h3 : s.size > 200
  · go_enter Try.func4, Try.ntmps4
    go_wp2_with fail
    refine HLV.out.mono ?_
    rintro e w1 ⟨rfl, b1⟩
    go_wp2
    go_ret
    exact ⟨rfl, belowThen HBV.out b1⟩
  have d3 : ¬ (s.size : Int) > 200 := by omega
  clear HLV
  have HA := Lib.hid (ha.below HBV.out)
  have HB := Lib.hid (hb.below HBV.out)
  have HN := Lib.hid hn
  have HM := Lib.hid hm
  have HL := Lib.hid hL
  obtain ⟨T, hT⟩ : ∃ T, intsD l most = T := ⟨_, rfl⟩
  obtain ⟨TL, TR, TE⟩ := T
  obtain ⟨S, hS⟩ : ∃ S, strT l most = S := ⟨_, rfl⟩
  obtain ⟨R, hR⟩ : ∃ R, resT l most = R := ⟨_, rfl⟩
  obtain ⟨E, hE⟩ : ∃ E, errT l most = E := ⟨_, rfl⟩
  obtain ⟨M, hM⟩ : ∃ M, appIs l L = M := ⟨_, rfl⟩
  obtain ⟨Q, hQ⟩ : ∃ Q, l ++ encL s.size ++ s.data.toList = Q := ⟨_, rfl⟩
  have HT := Lib.hid hT
  have HS := Lib.hid hS
  have HR := Lib.hid hR
  have HE := Lib.hid hE
  have HMM := Lib.hid hM
  have HQ := Lib.hid hQ
  clear ha hb hn hm hL hT hS hR hE hM hQ
  go_enter Try.func4, Try.ntmps4
  have C1 := Lib.hid (iInts l most n HN.out (by omega) A c V HA.out)
  rw [HT.out] at C1
  go_wp2_with fail
  refine C1.out.mono ?_
  rintro e w1 ⟨A1, q1, e1, D1, k1, f1, rfl, hq1, hk1, l1, r1, b1⟩
  dsimp only at hq1 hk1 l1 r1
  have L1 := Lib.hid l1
  have R1 := Lib.hid r1
  have BX1 := Lib.hid (BX.out.below b1)
  have HB1 := Lib.hid b1
  obtain ⟨c0, c1, c2, c3⟩ := BX1.out.facts
  have C2 := Lib.hid (rIntsR l most n HN.out (by omega) A c w1 (HA.out.below b1))
  rw [HT.out] at C2
  clear C1 l1 r1 b1
  go_wp2_with fail
  refine C2.out.mono ?_
  rintro e w2 ⟨A2, q2, e2, D2, k2, f2, rfl, hq2, hk2, l2, r2, b2⟩
  dsimp only at hq2 hk2 l2 r2
  have L2 := Lib.hid l2
  have R2 := Lib.hid r2
  have L1 := Lib.hid (L1.out.below b2)
  have R1 := Lib.hid (R1.out.below b2)
  have BX2 := Lib.hid (BX1.out.below b2)
  have HB2 := Lib.hid (belowThen HB1.out b2)
  obtain ⟨c0, c1, c2, c3⟩ := BX2.out.facts
  have C3 := Lib.hid (iStr l most n HN.out (by omega) A c w2 (HA.out.below HB2.out))
  rw [HS.out, HR.out, HE.out] at C3
  clear C2 l2 r2 b2
  go_wp2_with fail
  refine C3.out.mono ?_
  rintro e w3 ⟨D3, k3, f3, rfl, hk3, r3, b3⟩
  have R3 := Lib.hid r3
  have L1 := Lib.hid (L1.out.below b3)
  have R1 := Lib.hid (R1.out.below b3)
  have L2 := Lib.hid (L2.out.below b3)
  have R2 := Lib.hid (R2.out.below b3)
  have BX3 := Lib.hid (BX2.out.below b3)
  have HB3 := Lib.hid (belowThen HB2.out b3)
  obtain ⟨c0, c1, c2, c3⟩ := BX3.out.facts
  have C4 := Lib.hid (rStr l most n HN.out (by omega) A c w3 (HA.out.below HB3.out))
  rw [HS.out, HR.out, HE.out] at C4
  clear C3 r3 b3
  go_wp2_with fail
  refine C4.out.mono ?_
  rintro e w4 ⟨D4, k4, f4, rfl, hk4, r4, b4⟩
  have R4 := Lib.hid r4
  have R3 := Lib.hid (R3.out.below b4)
  have L1 := Lib.hid (L1.out.below b4)
  have R1 := Lib.hid (R1.out.below b4)
  have L2 := Lib.hid (L2.out.below b4)
  have R2 := Lib.hid (R2.out.below b4)
  have BX4 := Lib.hid (BX3.out.below b4)
  have HB4 := Lib.hid (belowThen HB3.out b4)
  clear C4 r4 b4 c0 c1 c2 c3
  have C5 := Lib.hid (rEqualT TL q1 q2 hq1.out hq2.out A1 A2 e1 e2 w4 L1.out L2.out)
  go_wp2_with fail
  refine C5.out.mono ?_
  rintro e w5 ⟨rfl, b5⟩
  have R4 := Lib.hid (R4.out.below b5)
  have R3 := Lib.hid (R3.out.below b5)
  have R1 := Lib.hid (R1.out.below b5)
  have R2 := Lib.hid (R2.out.below b5)
  have BX5 := Lib.hid (BX4.out.below b5)
  have HB5 := Lib.hid (belowThen HB4.out b5)
  clear C5 b5 L1 L2
  have C6 := Lib.hid (rSame TR TR true (eqLy rfl) k1 k2 hk1.out hk2.out D1 D2 f1 f2 w5 R1.out R2.out)
  go_wp2_with fail
  refine C6.out.mono ?_
  rintro e w' ⟨rfl, rfl⟩
  clear C6
  have C7 := Lib.hid (rSame R R true (eqLy rfl) k3 k4 hk3.out hk4.out D3 D4 f3 f4 w5 R3.out R4.out)
  go_wp2_with fail
  refine C7.out.mono ?_
  rintro e w' ⟨rfl, rfl⟩
  clear C7 R1 R2 R3 R4
  have hlt := BX5.out.lt
  obtain ⟨c0, _, c2, c3⟩ := BX5.out.facts
  have HKP := Lib.hid (show ∀ w', Below w5.heap.size w5 w' → w'.cell? ⟨w.heap.size, 0, none⟩ = some (.slice A n c) ∧ w'.cell? ⟨w.heap.size, 2, none⟩ = some (.slice B m d) ∧ w'.cell? ⟨w.heap.size, 3, none⟩ = some (.string s) ∧ Below w5.heap.size w5 w' from fun w' b =>
    ⟨(b.cell (by exact hlt)).trans c0, (b.cell (by exact hlt)).trans c2, (b.cell (by exact hlt)).trans c3, b⟩)
  have hbd : Below w5.heap.size w5 w5.drew := (Below.refl _ w5).drew
  have HA := Lib.hid (HA.out.below HB5.out)
  have HB := Lib.hid (HB.out.below HB5.out)
  have hss : s.size ≤ 100000 := by omega
  have hnn : n ≤ 100000 := by omega
  have hmm : m ≤ 10000 := by omega
  clear c0 c2 c3
  go_wp2_with fail
  go_region_held3 (fun w' => w'.cell? ⟨w.heap.size, 0, none⟩ = some (.slice A n c) ∧ w'.cell? ⟨w.heap.size, 2, none⟩ = some (.slice B m d) ∧ w'.cell? ⟨w.heap.size, 3, none⟩ = some (.string s) ∧ Below w5.heap.size w5 w')
    (first
      | assumption
      | exact HKP.out _ hbd
      | exact HKP.out _ (belowThen (‹_ ∧ _ ∧ _ ∧ Below w5.heap.size w5 _›).2.2.2 bL)
      | exact HKP.out _ (belowThen (‹_ ∧ _ ∧ _ ∧ Below w5.heap.size w5 _›).2.2.2 bD)
      | exact HKP.out _ (belowThen (‹_ ∧ _ ∧ _ ∧ Below w5.heap.size w5 _›).2.2.2 bC)
      | exact HKP.out _ (belowThen (‹_ ∧ _ ∧ _ ∧ Below w5.heap.size w5 _›).2.2.2 bB)
      | exact HKP.out _ (belowThen (‹_ ∧ _ ∧ _ ∧ Below w5.heap.size w5 _›).2.2.2 bA))
    (first
      | (go_at_call 25; refine (iAppIs l L n m HN.out HM.out hnn hmm HL.out A B c d _ (HA.out.below (‹_ ∧ _ ∧ _ ∧ Below w5.heap.size w5 _›).2.2.2) (HB.out.below (‹_ ∧ _ ∧ _ ∧ Below w5.heap.size w5 _›).2.2.2)).mono ?_; rintro e w6 ⟨A6, q6, e6, rfl, hq6, o6, bA⟩; rw [HMM.out] at hq6 o6; have R6 := Lib.hid o6.rb.1; clear o6)
      | (go_at_call 26; refine (rAppIs l L n m HN.out HM.out hnn hmm HL.out A B c d _ (HA.out.below (‹_ ∧ _ ∧ _ ∧ Below w5.heap.size w5 _›).2.2.2) (HB.out.below (‹_ ∧ _ ∧ _ ∧ Below w5.heap.size w5 _›).2.2.2)).mono ?_; rintro e w7 ⟨A7, q7, e7, rfl, hq7, o7, bB⟩; rw [HMM.out] at hq7 o7; have R7 := Lib.hid o7.rb.1; clear o7)
      | (go_at_call 27; refine (iAppS l n HN.out hnn s hss A c _ (HA.out.below (‹_ ∧ _ ∧ _ ∧ Below w5.heap.size w5 _›).2.2.2)).mono ?_; rintro e w8 ⟨A8, q8, e8, rfl, hq8, o8, bC⟩; rw [HQ.out] at hq8 o8; have R8 := Lib.hid o8.rb.1; clear o8)
      | (go_at_call 28; refine (rAppS l n HN.out hnn s hss A c _ (HA.out.below (‹_ ∧ _ ∧ _ ∧ Below w5.heap.size w5 _›).2.2.2)).mono ?_; rintro e w9 ⟨A9, q9, e9, rfl, hq9, o9, bD⟩; rw [HQ.out] at hq9 o9; have R9 := Lib.hid o9.rb.1; clear o9)
      | (go_at_call 15; (with_reducible show Calls _ _ #[.slice A6 q6 e6, .slice A7 q7 e7] _ _); refine (rSame M M true (eqLy rfl) q6 q7 hq6.out hq7.out A6 A7 e6 e7 _ (by first | exact R6.out | exact R6.out.below bA | exact R6.out.below bB | exact R6.out.below bC | exact R6.out.below bD) (by first | exact R7.out | exact R7.out.below bA | exact R7.out.below bB | exact R7.out.below bC | exact R7.out.below bD)).mono ?_; (rintro e w' ⟨rfl, rfl⟩))
      | (go_at_call 15; (with_reducible show Calls _ _ #[.slice A8 q8 e8, .slice A9 q9 e9] _ _); refine (rSame Q Q true (eqLy rfl) q8 q9 hq8.out hq9.out A8 A9 e8 e9 _ (by first | exact R8.out | exact R8.out.below bA | exact R8.out.below bB | exact R8.out.below bC | exact R8.out.below bD) (by first | exact R9.out | exact R9.out.below bA | exact R9.out.below bB | exact R9.out.below bC | exact R9.out.below bD)).mono ?_; (rintro e w' ⟨rfl, rfl⟩))
      | (go_at_call 10; refine (livesOk _).mono ?_; rintro e w10 ⟨rfl, bL⟩))
  have b10 := (‹_ ∧ _ ∧ _ ∧ Below w5.heap.size w5 w10›).2.2.2
  go_wp2
  go_ret
  exact ⟨rfl, belowThen HBV.out (belowThen HB5.out b10)⟩
end Go.Proofs.Ytcbipokohjajoaa
