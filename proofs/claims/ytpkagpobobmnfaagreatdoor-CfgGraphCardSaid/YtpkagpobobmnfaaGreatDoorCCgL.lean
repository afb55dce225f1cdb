/-
  The law CfgGraph returns true for every function, where the tables are laid.
-/
import Derived.Test.YtpkagpobobmnfaaGreatDoorCGs
import Derived.Test.YtpkagpobobmnfaaGreatDoorCEx
import Derived.Test.YtpkagpobobmnfaaGreatDoorCLf
import Derived.Test.YtpkagpobobmnfaaGreatDoorCSfR
import Derived.Test.YtpkagpobobmnfaaGreatDoorCRs
import Derived.Test.YtpkagpobobmnfaaGreatDoorCOwn
namespace Go.Proofs.YtpkagpobobmnfaaGreatDoor
open Go Go.RowKit Go.Shelf

def GivesEq7 (l : List Int) (q : Nat) (k : Int) (w : World) (e : Ending) (w' : World) : Prop := ∃ A c, e = .returned (.tuple #[.slice A q c, .int .i64 k]) ∧ Rd w' A c l ∧ Below w.heap.size w w'
theorem toEq7 {l : List Int} {q : Nat} {k : Int} {w w' : World} {e : Ending} (hq : l.length = q) (h : GivesE9 l k w e w') : GivesEq7 l q k w e w' := by
  subst hq; exact h
def GivesEp7 (N : Int) (l : Prs) (q : Nat) (k : Int) (w : World) (e : Ending) (w' : World) : Prop := ∃ A c, e = .returned (.tuple #[relV N A q c, .int .i64 k]) ∧ Rp w' A c l ∧ Below w.heap.size w w'
theorem toEp7 {N : Int} {l : Prs} {q : Nat} {k : Int} {w w' : World} {e : Ending} (hq : l.length = q) (h : GivesE N l k w e w') : GivesEp7 N l q k w e w' := by
  subst hq; exact h
theorem reachSame (C : List I8) : rhR C = rchO C := rfl
theorem lenRow9 (f : Nat → Nat → Bool) (a : Nat) : ∀ k b, (rowP f a b k).length ≤ k
  | 0, _ => Nat.zero_le _
  | k + 1, b => by
    rw [rowP, List.length_append]
    have := lenRow9 f a k (b + 1)
    split <;> simp <;> omega
theorem lenNrmFrom9 (f : Nat → Nat → Bool) (n : Nat) : ∀ k a, (nrmFrom f n a k).length ≤ k * n
  | 0, _ => Nat.zero_le _
  | k + 1, a => by
    rw [nrmFrom, List.length_append, Nat.add_mul, Nat.one_mul]
    have := lenRow9 f a n 0
    have := lenNrmFrom9 f n k (a + 1)
    omega
theorem lenNrm9 (n : Nat) (f : Nat → Nat → Bool) : (nrm n f).length ≤ n * n := lenNrmFrom9 f n n 0
theorem grPLen (C : List I8) : (grP C).length ≤ 65536 := by
  unfold grP nrmL
  split
  · split
    · rename_i h
      have h1 := lenNrm9 ((C.length : Int) + 1).toNat (hasP (grL C C.length))
      have h2 : ((C.length : Int) + 1) ≤ 64 := by unfold okR at h; exact (of_decide_eq_true h).2.1
      have h3 : ((C.length : Int) + 1).toNat ≤ 64 := by omega
      exact Nat.le_trans h1 (Nat.le_trans (Nat.mul_le_mul h3 h3) (by decide))
    · exact Nat.zero_le _
  · exact Nat.zero_le _
set_option maxRecDepth 100000 in
set_option maxHeartbeats 8000000 in
theorem lawGraph (nm : ByteArray) (C : List I8) (n : Nat) (hn : C.length = n) (A : Option Addr) (c : Nat) (w : World) (h : CdW w A c C) :
    Calls Tryz.prog 3 #[fnV nm A n c] w (LawOkC w) := by
  obtain ⟨W, hW⟩ : ∃ W, w.alloc (.cells #[.string nm, .slice A n c] 24) = W := ⟨_, rfl⟩
  have hbW : Below w.heap.size w W := by rw [← hW]; exact belowAlloc w _
  have hB : Blk W w.heap.size 24 #[.string nm, .slice A n c] := by rw [← hW]; exact Blk.new w _ _
  have k0 : W.cell? ⟨w.heap.size, 0, none⟩ = some (.string nm) := hB.cell 0
  have k1 : W.cell? ⟨w.heap.size, 1, none⟩ = some (.slice A n c) := hB.cell 1
  have HK := Lib.hid (fun X (hX : Below W.heap.size W X) => (⟨(hB.below' hX).cell 0, (hB.below' hX).cell 1⟩ : X.cell? ⟨w.heap.size, 0, none⟩ = some (.string nm) ∧ X.cell? ⟨w.heap.size, 1, none⟩ = some (.slice A n c)))
  have hcd := h.below hbW
  have HEX := Lib.hid (fun X (hX : Below W.heap.size W X) => exHolds X (hcd.ld.below hX))
  have HG := Lib.hid (fun X (hX : Below W.heap.size W X) => iGraph nm C n hn A c X (hcd.below hX))
  have HH := Lib.hid (fun X (hX : Below W.heap.size W X) => rGraph nm C n hn A c X (hcd.below hX))
  have HI := Lib.hid (fun X (hX : Below W.heap.size W X) => iReachF nm C n hn A c X (hcd.below hX))
  have HR := Lib.hid (fun X (hX : Below W.heap.size W X) => rReach nm C n hn A c X (hcd.below hX))
  rw [reachSame] at HR
  have HW := Lib.hid hW
  have HBW := Lib.hid hbW
  have hle := h.rd.le
  have hmx := h.rd.max
  rw [hn] at hle
  unfold maxLen at hmx
  unfold fnV at HI HR HG HH ⊢
  unfold GivesGr at HG HH
  have hpl := grPLen C
  obtain ⟨l, hl⟩ : ∃ l, rchO C = l := ⟨_, rfl⟩
  obtain ⟨E, hE⟩ : ∃ E, cfE C = E := ⟨_, rfl⟩
  obtain ⟨P, hP⟩ : ∃ P, grP C = P := ⟨_, rfl⟩
  obtain ⟨D, hD⟩ : ∃ D, grE C = D := ⟨_, rfl⟩
  obtain ⟨M, hM⟩ : ∃ M, grN C = M := ⟨_, rfl⟩
  rw [hl, hE] at HI HR
  rw [hP, hD, hM] at HG HH
  rw [hP] at hpl
  obtain ⟨q, hq⟩ : ∃ q, l.length = q := ⟨_, rfl⟩
  obtain ⟨z, hz⟩ : ∃ z, P.length = z := ⟨_, rfl⟩
  have HQ := Lib.hid hq
  have HI := Lib.hid (fun X hX => (HI.out X hX).mono fun e w' h => toEq7 hq h)
  have HR := Lib.hid (fun X hX => (HR.out X hX).mono fun e w' h => toEq7 hq h)
  have HG := Lib.hid (fun X hX => (HG.out X hX).mono fun e w' h => toEp7 hz h)
  have HH := Lib.hid (fun X hX => (HH.out X hX).mono fun e w' h => toEp7 hz h)
  have HSA := Lib.hid (fun Aa Ab ca cb X (ha : Rp X Aa ca P) (hb : Rp X Ab cb P) => rSame M M P P z z hz hz true (sameIff.2 ⟨rfl, rfl⟩) (by rw [← hz]; exact hpl) Aa Ab ca cb X ha hb)
  have hee : (E == E) = true := by simp
  have hdd : (D != D) = false := by simp
  have hmm : (M != M) = false := by simp
  clear h hB hW hbW hcd hl hE hq hP hD hM hz hpl
  by_cases hbig : 30 < n ∧ n < 64
  · have d1 : decide ((30 : Int) < (n : Int)) = true := decide_eq_true (by omega)
    have d2 : decide ((n : Int) < 64) = true := decide_eq_true (by omega)
    go_enter Tryz.func3, Tryz.ntmps3
    go_wp2_with fail
    all_goals first
      | (exfalso; omega)
      | skip
    rw [HW.out]
    refine (HEX.out _ (Below.refl _ _)).mono ?_
    rintro e w1 ⟨rfl, b1⟩
    go_wp2
    go_ret
    exact ⟨rfl, belowThen HBW.out b1⟩
  · go_enter Tryz.func3, Tryz.ntmps3
    go_wp2_with fail
    all_goals first
      | (exfalso; omega)
      | skip
    all_goals (
      rw [HW.out]
      refine (HG.out _ (Below.refl _ _)).mono ?_
      rintro e w1 ⟨Aa, ca, rfl, ra, b1⟩
      obtain ⟨w2, hw2⟩ : ∃ w2, w1.alloc (.cells #[.int .i64 M, .slice Aa z ca] 28) = w2 := ⟨_, rfl⟩
      have b12 : Below w1.heap.size w1 w2 := by rw [← hw2]; exact belowAlloc _ _
      have HBa := Lib.hid (show BoxR w2 w1.heap.size M (.slice Aa z ca) by rw [← hw2]; exact BoxR.new _ _ _)
      have HRa := Lib.hid (ra.below b12)
      have HB2 := Lib.hid (belowThen b1 b12)
      have HW2 := Lib.hid hw2
      clear b1 b12 hw2 ra
      obtain ⟨m0, m1⟩ := HK.out w2 HB2.out
      dsimp only
      go_upto_region 4 with fail
      rw [HW2.out]
      go_wp2_with fail
      refine (HH.out _ HB2.out).mono ?_
      rintro e w3 ⟨Ab, cb, rfl, rb, b3⟩
      obtain ⟨w4, hw4⟩ : ∃ w4, w3.alloc (.cells #[.int .i64 M, .slice Ab z cb] 28) = w4 := ⟨_, rfl⟩
      have b34 : Below w3.heap.size w3 w4 := by rw [← hw4]; exact belowAlloc _ _
      have HBb := Lib.hid (show BoxR w4 w3.heap.size M (.slice Ab z cb) by rw [← hw4]; exact BoxR.new _ _ _)
      have b24 := belowThen b3 b34
      have HRa4 := Lib.hid (HRa.out.below b24)
      have HRb4 := Lib.hid (rb.below b34)
      have HB4 := Lib.hid (belowThen HB2.out b24)
      have HW4 := Lib.hid hw4
      obtain ⟨x0, x1, _, _⟩ := (HBa.out.below b24).facts
      obtain ⟨y0, y1, _, _⟩ := HBb.out.facts
      clear b3 b34 b24 hw4 rb m0 m1
      dsimp only
      go_upto_region 5 with fail
      rw [HW4.out]
      go_wp2_with fail
      refine (HSA.out Aa Ab ca cb _ HRa4.out HRb4.out).mono ?_
      rintro e w5 ⟨rfl, b5⟩
      have HB5 := Lib.hid (belowThen HB4.out b5)
      clear b5 x0 x1 y0 y1
      obtain ⟨m0, m1⟩ := HK.out w5 HB5.out
      go_wp2_with fail
      refine (HI.out _ HB5.out).mono ?_
      rintro e w6 ⟨Ac, cc, rfl, rc, b6⟩
      have HB6 := Lib.hid (belowThen HB5.out b6)
      have HRc := Lib.hid rc
      clear b6 rc m0 m1
      obtain ⟨m0, m1⟩ := HK.out w6 HB6.out
      go_wp2_with fail
      refine (HR.out _ HB6.out).mono ?_
      rintro e w7 ⟨Ad, cd, rfl, rd, b7⟩
      have HB7 := Lib.hid (belowThen HB6.out b7)
      have HRc7 := Lib.hid (Rd.below HRc.out b7)
      have HRd := Lib.hid rd
      clear b7 rd m0 m1
      go_wp2_with fail
      refine (intsEq l q q HQ.out HQ.out Ac Ad cc cd _ HRc7.out HRd.out).mono ?_
      rintro e w8 ⟨rfl, b8⟩
      have HB8 := Lib.hid (belowThen HB7.out b8)
      clear b8
      go_wp2_with fail
      refine (HEX.out _ HB8.out).mono ?_
      rintro e w9 ⟨rfl, b9⟩
      go_wp2
      go_ret
      exact ⟨rfl, belowThen HBW.out (belowThen HB8.out b9)⟩)
end Go.Proofs.YtpkagpobobmnfaaGreatDoor
