/-
  The specification's folded: the instruction that replaces an instruction, given what is known in an array.
-/
import Derived.Test.YtpkagpobobmnfaaGreatDoorPSe
import Derived.Test.YtpkagpobobmnfaaGreatDoorPNum
import Derived.StillTailTactics
import Derived.Deep.RegionHeld3
import Derived.RegionTactic
import Derived.ChangeAlike
import Derived.Test.YtpkagpobobmnfaaGreatDoorPSb
import Derived.Test.YtpkagpobobmnfaaGreatDoorPCv
import Derived.Test.YtpkagpobobmnfaaGreatDoorPSfU
import Derived.Test.YtpkagpobobmnfaaGreatDoorPG3
namespace Go.Proofs.YtpkagpobobmnfaaGreatDoor
open Go Go.RowKit

/-- What is known, in the cells of an array of eight. -/
def knC (K : Kn) : Array Value := #[.bool (K 0).isSome, .int .i64 ((K 0).getD 0), .bool (K 1).isSome, .int .i64 ((K 1).getD 0), .bool (K 2).isSome, .int .i64 ((K 2).getD 0), .bool (K 3).isSome, .int .i64 ((K 3).getD 0), .bool (K 4).isSome, .int .i64 ((K 4).getD 0), .bool (K 5).isSome, .int .i64 ((K 5).getD 0), .bool (K 6).isSome, .int .i64 ((K 6).getD 0), .bool (K 7).isSome, .int .i64 ((K 7).getD 0)]
theorem knCAt (K : Kn) {r : Nat} (h : r < 8) : (knC K)[r * 2]? = some (.bool (K (r : Int)).isSome) ∧ (knC K)[r * 2 + 1]? = some (.int .i64 ((K (r : Int)).getD 0)) := by
  have hc : r = 0 ∨ r = 1 ∨ r = 2 ∨ r = 3 ∨ r = 4 ∨ r = 5 ∨ r = 6 ∨ r = 7 := by omega
  rcases hc with rfl | rfl | rfl | rfl | rfl | rfl | rfl | rfl <;> exact ⟨rfl, rfl⟩
theorem fdK2 {K : Kn} {nx : Int} {i : I8} (h : i.op = 2) : fdI K nx i = if (K i.b).isSome = true then cst i.a ((K i.b).getD 0) else i := by
  unfold fdI
  rw [if_pos h]
  cases K i.b <;> rfl
theorem fdK3 {K : Kn} {nx : Int} {i : I8} (h : i.op = 3) : fdI K nx i = if (K i.b).isSome = true ∧ (K i.c).isSome = true then cst i.a (opI i.fn ((K i.b).getD 0) ((K i.c).getD 0)) else i := by
  unfold fdI
  rw [if_neg (by omega), if_pos h]
  cases K i.b <;> cases K i.c <;> rfl
theorem fdK5 {K : Kn} {nx : Int} {i : I8} (h : i.op = 5) : fdI K nx i = if (K i.b).isSome = true then (if (K i.b).getD 0 = 0 then jmpTo nx else jmpTo i.n) else i := by
  unfold fdI
  rw [if_neg (by omega), if_neg (by omega), if_pos h]
  cases K i.b <;> rfl
theorem fdK6 {K : Kn} {nx : Int} {i : I8} (h : i.op = 6) : fdI K nx i = if (K i.b).isSome = true then (if (K i.b).getD 0 = 0 then i else jmpTo nx) else i := by
  unfold fdI
  rw [if_neg (by omega), if_neg (by omega), if_neg (by omega), if_pos h]
  cases K i.b <;> rfl
theorem fdK0 {K : Kn} {nx : Int} {i : I8} (h2 : i.op ≠ 2) (h3 : i.op ≠ 3) (h5 : i.op ≠ 5) (h6 : i.op ≠ 6) : fdI K nx i = i := by
  unfold fdI
  rw [if_neg h2, if_neg h3, if_neg h5, if_neg h6]
set_option maxRecDepth 100000 in
set_option maxHeartbeats 8000000 in
theorem rFolded (K : Kn) (i : I8) (hc : i.chk = 0) (x : Nat) (hx : x ≤ 1000) (w : World) :
    Calls Tryz.prog 138 #[i.val, .int .i64 (x : Int), .agg (knC K)] w (GivesI (fdI K ((x + 1 : Nat) : Int) i) w) := by
  have hg := I8.good hc
  obtain ⟨R, hR⟩ : ∃ R, fdI K ((x + 1 : Nat) : Int) i = R := ⟨_, rfl⟩
  have H2 := Lib.hid (fun h => (fdK2 (K := K) (nx := ((x + 1 : Nat) : Int)) (i := i) h).symm.trans hR)
  have H3 := Lib.hid (fun h => (fdK3 (K := K) (nx := ((x + 1 : Nat) : Int)) (i := i) h).symm.trans hR)
  have H5 := Lib.hid (fun h => (fdK5 (K := K) (nx := ((x + 1 : Nat) : Int)) (i := i) h).symm.trans hR)
  have H6 := Lib.hid (fun h => (fdK6 (K := K) (nx := ((x + 1 : Nat) : Int)) (i := i) h).symm.trans hR)
  have H0 := Lib.hid (fun h2 h3 h5 h6 => (fdK0 (K := K) (nx := ((x + 1 : Nat) : Int)) (i := i) h2 h3 h5 h6).symm.trans hR)
  rw [hR]
  obtain ⟨x1, hx1⟩ : ∃ x1, x + 1 = x1 := ⟨_, rfl⟩
  have hwx : IntKind.i64.wrap ((x : Int) + 1) = (x1 : Int) := by rw [IntKind.wrap_i64]; omega
  rw [hx1] at H5 H6
  have hb := hg.b
  have hcc := hg.c
  clear hR hc hg hx1
  obtain ⟨op, ra, rb, rc, obj, m, fn, ord⟩ := i
  simp only at H2 H3 H5 H6 H0 hb hcc
  obtain ⟨b, eb⟩ : ∃ b : Nat, rb = (b : Int) := ⟨rb.toNat, by omega⟩
  obtain ⟨c, ec⟩ : ∃ c : Nat, rc = (c : Int) := ⟨rc.toNat, by omega⟩
  subst eb ec
  have hb8 : b < 8 := by omega
  have hc8 : c < 8 := by omega
  have hb0 : (0 : Int) ≤ b := by omega
  have hb1 : (b : Int) < 8 := by omega
  have hc0 : (0 : Int) ≤ c := by omega
  have hc1 : (c : Int) < 8 := by omega
  obtain ⟨W, hW⟩ : ∃ W, (((w.alloc (.cells #[.int .i64 op, .int .i64 ra, .int .i64 (b : Int), .int .i64 (c : Int), .int .i64 obj, .int .i64 m, .int .i64 fn, .int .i64 ord] 55)).alloc (.cells (knC K) 170)).alloc (.cells #[.int .i64 0, .int .i64 0, .int .i64 0, .int .i64 0, .int .i64 0, .int .i64 0, .int .i64 0, .int .i64 0] 55)).alloc (.cells #[.int .i64 4, .int .i64 0, .int .i64 0, .int .i64 0, .int .i64 0, .int .i64 (x1 : Int), .int .i64 0, .int .i64 0] 55) = W := ⟨_, rfl⟩
  obtain ⟨⟨h1, h2, h3, h4⟩, hbW⟩ := four8 w _ _ _ _ hW
  have HB1 := Lib.hid (show Blk W w.heap.size 55 _ from h1)
  have hB2 : Blk W (w.heap.size + 1) 170 (knC K) := h2
  have HB3 := Lib.hid (show Blk W (w.heap.size + 1 + 1) 55 _ from h3)
  have HB4 := Lib.hid (show Blk W (w.heap.size + 1 + 1 + 1) 55 _ from h4)
  have kb := (hB2.cell (b * 2)).trans (knCAt K hb8).1
  have vb := (hB2.cell (b * 2 + 1)).trans (knCAt K hb8).2
  have kc := (hB2.cell (c * 2)).trans (knCAt K hc8).1
  have vc := (hB2.cell (c * 2 + 1)).trans (knCAt K hc8).2
  obtain ⟨pb, hpb⟩ : ∃ p, (K (b : Int)).isSome = p := ⟨_, rfl⟩
  obtain ⟨ub, hub⟩ : ∃ p, (K (b : Int)).getD 0 = p := ⟨_, rfl⟩
  obtain ⟨pc, hpc⟩ : ∃ p, (K (c : Int)).isSome = p := ⟨_, rfl⟩
  obtain ⟨uc, huc⟩ : ∃ p, (K (c : Int)).getD 0 = p := ⟨_, rfl⟩
  rw [hpb] at kb H2 H3 H5 H6
  rw [hub] at vb H2 H3 H5 H6
  rw [hpc] at kc H3
  rw [huc] at vc H3
  have HW := Lib.hid hW
  have HBW := Lib.hid hbW
  obtain ⟨⟨a0, a1, a2, a3, a4, a5, a6, a7⟩, -⟩ := blkFacts HB1.out
  obtain ⟨⟨r0, r1, r2, r3, r4, r5, r6, r7⟩, fr0, fr1, fr2, fr3, fr4, fr5, fr6, fr7⟩ := blkFacts HB3.out
  obtain ⟨⟨n0, n1, n2, n3, n4, n5, n6, n7⟩, -⟩ := blkFacts HB4.out
  clear h1 h2 h3 h4 hW hbW hB2 hpb hub hpc huc hb hcc
  have hlt : w.heap.size + 1 < W.heap.size := HB3.out.lt |> fun h => by omega
  have HS := Lib.hid (fun X (hX : Below W.heap.size W X) => (⟨hX, (hX.cell (p := ⟨w.heap.size, 1, none⟩) (show w.heap.size < W.heap.size by omega)).trans a1, (hX.cell (p := ⟨w.heap.size, 2, none⟩) (show w.heap.size < W.heap.size by omega)).trans a2, (hX.cell (p := ⟨w.heap.size, 3, none⟩) (show w.heap.size < W.heap.size by omega)).trans a3, (hX.cell (p := ⟨w.heap.size, 6, none⟩) (show w.heap.size < W.heap.size by omega)).trans a6, (hX.cell (p := ⟨w.heap.size + 1, b * 2 + 1, none⟩) hlt).trans vb, (hX.cell (p := ⟨w.heap.size + 1, c * 2 + 1, none⟩) hlt).trans vc⟩ :
    Below W.heap.size W X ∧ X.cell? ⟨w.heap.size, 1, none⟩ = some (.int .i64 ra) ∧ X.cell? ⟨w.heap.size, 2, none⟩ = some (.int .i64 (b : Int)) ∧ X.cell? ⟨w.heap.size, 3, none⟩ = some (.int .i64 (c : Int)) ∧ X.cell? ⟨w.heap.size, 6, none⟩ = some (.int .i64 fn) ∧ X.cell? ⟨w.heap.size + 1, b * 2 + 1, none⟩ = some (.int .i64 ub) ∧ X.cell? ⟨w.heap.size + 1, c * 2 + 1, none⟩ = some (.int .i64 uc)))
  have S0 := HS.out W.drew ((Below.refl _ W).drew)
  unfold I8.val
  simp only
  generalize knC K = KC at HW
  by_cases h2 : op = 2
  · have HE := Lib.hid (H2.out h2)
    subst h2
    cases pb
    · simp only [Bool.false_eq_true, if_false] at HE
      go_enter Tryz.func138, Tryz.ntmps138
      go_upto_region 2 with fail
      rw [HW.out]
      go_wp2_with fail
      refine bodyPost_ret ((stored8 HB3.out).res rfl _ rfl Tryz.underlying55 rfl infoInst) rfl ?_
      exact givesI rfl (by rw [← HE.out]; rfl) (below8 HBW.out (by omega))
    · simp only [if_true] at HE
      go_enter Tryz.func138, Tryz.ntmps138
      go_upto_region 2 with fail
      rw [HW.out]
      go_wp2_with fail
      go_still_tail 8, (by kernel_rfl)
      change wpList _ _ _ _ _ W.drew
      obtain ⟨w2, hw2⟩ : ∃ w2, W.drew = w2 := ⟨_, rfl⟩
      have HB12 := Lib.hid (show Blk w2 w.heap.size 55 _ by rw [← hw2]; exact HB1.out.drew)
      have HB32 := Lib.hid (show Blk w2 (w.heap.size + 1 + 1) 55 _ by rw [← hw2]; exact HB3.out.drew)
      have vb2 : w2.cell? ⟨w.heap.size + 1, b * 2 + 1, none⟩ = some (.int .i64 ub) := by rw [← hw2]; exact vb
      have HG2 := Lib.hid (show Below w.heap.size w w2 by rw [← hw2]; exact HBW.out.drew)
      rw [hw2]
      clear S0 HS hw2 a0 a1 a2 a3 a4 a5 a6 a7 r0 r1 r2 r3 r4 r5 r6 r7 fr0 fr1 fr2 fr3 fr4 fr5 fr6 fr7 n0 n1 n2 n3 n4 n5 n6 n7 kb vb kc vc
      obtain ⟨⟨a0, a1, a2, a3, a4, a5, a6, a7⟩, -⟩ := blkFacts HB12.out
      obtain ⟨⟨r0, r1, r2, r3, r4, r5, r6, r7⟩, fr0, fr1, fr2, fr3, fr4, fr5, fr6, fr7⟩ := blkFacts HB32.out
      go_wp2_with fail
      refine bodyPost_ret ((stored8 HB32.out).res rfl _ rfl Tryz.underlying55 rfl infoInst) rfl ?_
      exact givesI rfl (by rw [← HE.out]; rfl) (below8 HG2.out (by omega))
  have z2 : (op == 2) = false := by simpa using h2
  by_cases h3 : op = 3
  · have HE := Lib.hid (H3.out h3)
    subst h3
    cases pb
    · simp only [Bool.false_eq_true, false_and, if_false] at HE
      go_enter Tryz.func138, Tryz.ntmps138
      go_upto_region 2 with fail
      rw [HW.out]
      go_wp2_with fail
      refine bodyPost_ret ((stored8 HB3.out).res rfl _ rfl Tryz.underlying55 rfl infoInst) rfl ?_
      exact givesI rfl (by rw [← HE.out]; rfl) (below8 HBW.out (by omega))
    cases pc
    · simp only [Bool.false_eq_true, and_false, if_false] at HE
      go_enter Tryz.func138, Tryz.ntmps138
      go_upto_region 2 with fail
      rw [HW.out]
      go_wp2_with fail
      refine bodyPost_ret ((stored8 HB3.out).res rfl _ rfl Tryz.underlying55 rfl infoInst) rfl ?_
      exact givesI rfl (by rw [← HE.out]; rfl) (below8 HBW.out (by omega))
    · simp only [and_self, if_true] at HE
      have HAP := Lib.hid (fun X => rApply fn ub uc X)
      obtain ⟨o0, ho0⟩ : ∃ o, opI fn ub uc = o := ⟨_, rfl⟩
      obtain ⟨o1, ho1⟩ : ∃ o, opE fn = o := ⟨_, rfl⟩
      rw [ho0, ho1] at HAP
      rw [ho0] at HE
      clear ho0 ho1
      go_enter Tryz.func138, Tryz.ntmps138
      go_upto_region 2 with fail
      rw [HW.out]
      go_wp2_with fail
      go_region_held3 (fun X => Below W.heap.size W X ∧ X.cell? ⟨w.heap.size, 1, none⟩ = some (.int .i64 ra) ∧ X.cell? ⟨w.heap.size, 2, none⟩ = some (.int .i64 (b : Int)) ∧ X.cell? ⟨w.heap.size, 3, none⟩ = some (.int .i64 (c : Int)) ∧ X.cell? ⟨w.heap.size, 6, none⟩ = some (.int .i64 fn) ∧ X.cell? ⟨w.heap.size + 1, b * 2 + 1, none⟩ = some (.int .i64 ub) ∧ X.cell? ⟨w.heap.size + 1, c * 2 + 1, none⟩ = some (.int .i64 uc))
        (first | with_reducible assumption | with_reducible exact HS.out _ G2 | exact HS.out _ (below8 G2 (Nat.le_refl _)))
        (first
          | (go_at_call 156; refine (HAP.out _).mono ?_; rintro e w2 ⟨rfl, b2⟩; have G2 := belowThen ((Below.refl _ W).drew) b2))
      have HB32 := Lib.hid (HB3.out.drew.below' b2)
      have HB12 := Lib.hid (HB1.out.drew.below' b2)
      have HG2 := Lib.hid (belowThen HBW.out.drew b2)
      clear a0 a1 a2 a3 a4 a5 a6 a7 r0 r1 r2 r3 r4 r5 r6 r7 fr0 fr1 fr2 fr3 fr4 fr5 fr6 fr7 b2
      obtain ⟨⟨a0, a1, a2, a3, a4, a5, a6, a7⟩, -⟩ := blkFacts HB12.out
      obtain ⟨⟨r0, r1, r2, r3, r4, r5, r6, r7⟩, fr0, fr1, fr2, fr3, fr4, fr5, fr6, fr7⟩ := blkFacts HB32.out
      go_wp2_with fail
      refine bodyPost_ret ((stored8 HB32.out).res rfl _ rfl Tryz.underlying55 rfl infoInst) rfl ?_
      exact givesI rfl (by rw [← HE.out]; rfl) (below8 HG2.out (by omega))
  have z3 : (op == 3) = false := by simpa using h3
  by_cases h5 : op = 5
  · have HE := Lib.hid (H5.out h5)
    subst h5
    cases pb
    · simp only [Bool.false_eq_true, if_false] at HE
      go_enter Tryz.func138, Tryz.ntmps138
      go_upto_region 2 with fail
      rw [HW.out]
      go_wp2_with fail
      refine bodyPost_ret ((stored8 HB3.out).res rfl _ rfl Tryz.underlying55 rfl infoInst) rfl ?_
      exact givesI rfl (by rw [← HE.out]; rfl) (below8 HBW.out (by omega))
    · simp only [if_true] at HE
      by_cases hz : ub = 0
      · rw [if_pos hz] at HE
        subst hz
        go_enter Tryz.func138, Tryz.ntmps138
        go_upto_region 2 with fail
        rw [HW.out]
        go_wp2_with fail
        refine bodyPost_ret ((stored8 HB3.out).res rfl _ rfl Tryz.underlying55 rfl infoInst) rfl ?_
        exact givesI rfl (by rw [← HE.out]; rfl) (below8 HBW.out (by omega))
      · rw [if_neg hz] at HE
        have zz : (ub != 0) = true := by simpa using hz
        clear hz
        go_enter Tryz.func138, Tryz.ntmps138
        go_upto_region 2 with fail
        rw [HW.out]
        go_wp2_with fail
        refine bodyPost_ret ((stored8 HB3.out).res rfl _ rfl Tryz.underlying55 rfl infoInst) rfl ?_
        exact givesI rfl (by rw [← HE.out]; rfl) (below8 HBW.out (by omega))
  have z5 : (op == 5) = false := by simpa using h5
  by_cases h6 : op = 6
  · have HE := Lib.hid (H6.out h6)
    subst h6
    cases pb
    · simp only [Bool.false_eq_true, if_false] at HE
      go_enter Tryz.func138, Tryz.ntmps138
      go_upto_region 2 with fail
      rw [HW.out]
      go_wp2_with fail
      refine bodyPost_ret ((stored8 HB3.out).res rfl _ rfl Tryz.underlying55 rfl infoInst) rfl ?_
      exact givesI rfl (by rw [← HE.out]; rfl) (below8 HBW.out (by omega))
    · simp only [if_true] at HE
      by_cases hz : ub = 0
      · rw [if_pos hz] at HE
        subst hz
        go_enter Tryz.func138, Tryz.ntmps138
        go_upto_region 2 with fail
        rw [HW.out]
        go_wp2_with fail
        refine bodyPost_ret ((stored8 HB3.out).res rfl _ rfl Tryz.underlying55 rfl infoInst) rfl ?_
        exact givesI rfl (by rw [← HE.out]; rfl) (below8 HBW.out (by omega))
      · rw [if_neg hz] at HE
        have zz : (ub != 0) = true := by simpa using hz
        clear hz
        go_enter Tryz.func138, Tryz.ntmps138
        go_upto_region 2 with fail
        rw [HW.out]
        go_wp2_with fail
        refine bodyPost_ret ((stored8 HB3.out).res rfl _ rfl Tryz.underlying55 rfl infoInst) rfl ?_
        exact givesI rfl (by rw [← HE.out]; rfl) (below8 HBW.out (by omega))
  have z6 : (op == 6) = false := by simpa using h6
  have HE := Lib.hid (H0.out h2 h3 h5 h6)
  clear h2 h3 h5 h6
  go_enter Tryz.func138, Tryz.ntmps138
  go_upto_region 2 with fail
  rw [HW.out]
  go_wp2_with fail
  refine bodyPost_ret ((stored8 HB3.out).res rfl _ rfl Tryz.underlying55 rfl infoInst) rfl ?_
  exact givesI rfl (by rw [← HE.out]; rfl) (below8 HBW.out (by omega))
end Go.Proofs.YtpkagpobobmnfaaGreatDoor

namespace Go.Proofs.YtpkagpobobmnfaaGreatDoor
open Go Go.RowKit

theorem ldRBnd {C : List I8} (hok : CfOk C) {x : Int} (h : x ∈ ldR C) : 0 ≤ x ∧ x < C.length := by
  unfold ldR at h
  rw [if_pos (cfMk hok)] at h
  obtain ⟨h1, h2⟩ := memMin9.1 h
  have h3 := ldBnd hok (Nat.le_refl _) h1
  rw [List.mem_singleton] at h2
  omega
/-- Is x among the first k? -/
def ldT (l : List Int) (k x : Nat) : Bool := decide ((x : Int) ∈ l.take k)
theorem ldT0 (l : List Int) (x : Nat) : ldT l 0 x = false := by simp [ldT]
theorem ldTS {l : List Int} {k : Nat} (hk : k < l.length) {y : Nat} (hy : l[k] = (y : Int)) (x : Nat) : ldT l (k + 1) x = with_ (ldT l k) y x := by
  unfold ldT with_
  rw [List.take_succ_eq_append_getElem hk, hy, Bool.eq_iff_iff, Bool.or_eq_true, decide_eq_true_iff, decide_eq_true_iff, decide_eq_true_iff, List.mem_append, List.mem_singleton, Int.ofNat_inj]
def GivesLd (C : List I8) (n : Nat) (w : World) (e : Ending) (w' : World) : Prop := ∃ gb E, e = .returned (.slice (some ⟨gb, 0, none⟩) n n) ∧ RowB w' gb n E ∧ (∀ x, x < n → E x = ldQ C x) ∧ w.heap.size ≤ gb ∧ Below w.heap.size w w'
set_option maxRecDepth 100000 in
set_option maxHeartbeats 4000000 in
theorem rLead15 (nm : ByteArray) (C : List I8) (hc : cfE C = 0) (n : Nat) (hn : C.length = n) (A : Option Addr) (c : Nat) (w : World) (h : CdW w A c C) :
    Calls Tryz.prog 137 #[fnV nm A n c] w (GivesLd C n w) := by
  obtain ⟨W, hW⟩ : ∃ W, w.alloc (.cells #[.string nm, .slice A n c] 24) = W := ⟨_, rfl⟩
  have hbW : Below w.heap.size w W := by rw [← hW]; exact belowAlloc w _
  have hB : Blk W w.heap.size 24 #[.string nm, .slice A n c] := by rw [← hW]; exact Blk.new w _ _
  have HK := Lib.hid (fun X (hX : Below W.heap.size W X) => (⟨(hB.below' hX).cell 0, (hB.below' hX).cell 1⟩ : X.cell? ⟨w.heap.size, 0, none⟩ = some (.string nm) ∧ X.cell? ⟨w.heap.size, 1, none⟩ = some (.slice A n c)))
  obtain ⟨k0, k1⟩ := HK.out W (Below.refl _ _)
  have hcd := h.below hbW
  have HLE := Lib.hid (fun X (hX : Below W.heap.size W X) => rLeaders nm C n hn A c X (hcd.below hX))
  rw [hc] at HLE
  have hok := cfOk hc
  have h64 := hok.len
  have hle := h.rd.le
  have hmx := h.rd.max
  rw [hn] at hle h64
  unfold maxLen at hmx
  have HBD := Lib.hid (fun x (hx : x ∈ ldR C) => (by have := ldRBnd hok hx; omega : 0 ≤ x ∧ x < n))
  obtain ⟨q, hq⟩ : ∃ q, (ldR C).length = q := ⟨_, rfl⟩
  have HQ := Lib.hid hq
  obtain ⟨i0, hi, hz0, hz1, hz2⟩ := info_parts infoBool9
  have HBY := Lib.hid (show i0.bytes * n ≤ 281474976710656 by rw [hz2]; omega)
  have HNM := Lib.hid (show n ≤ maxLen by unfold maxLen; omega)
  have HWE := Lib.hid hW
  have HBW := Lib.hid hbW
  have HQL : Hid (∀ x, ldT (ldR C) q x = ldQ C x) := Lib.hid fun x => by unfold ldT ldQ; rw [← hq, List.take_length]
  unfold fnV at HLE ⊢
  clear h hW hbW hB hcd hok hc hn
  go_enter Tryz.func137, Tryz.ntmps137
  go_wp2_with (first
    | (at_make; rw [HWE.out]; refine wpList_make_full _ rfl (.tmp 9) (.tmp 9) 74 rfl 0 4 i0 _ 1 Tryz.underlying74 hi hz0 hz1 .i64 .i64 _ _ n rfl rfl rfl rfl HBY.out HNM.out (Nat.zero_le _) ?_; intro w2 o2 g2; have hrow := RowB.made o2; have hbe : Below W.heap.size W w2 := (Below.refl _ W).grown g2 (Nat.le_refl _) (fun k hk => by cases hk); have HR0 := Lib.hid hrow; have HBE := Lib.hid hbe; have HL2 := Lib.hid (HLE.out w2 hbe); clear k0 k1; obtain ⟨k0, k1⟩ := HK.out w2 hbe; clear o2 g2 hrow hbe)
    | fail)
  refine HL2.out.mono ?_
  rintro e w3 ⟨A1, c1, rfl, r1, b1⟩
  rw [hq]
  have HRW0 := Lib.hid (HR0.out.chg (Chg.ofBelow b1 fun _ => True) trivial)
  have HB30 := Lib.hid (belowThen HBE.out b1)
  have HRX : Hid (∀ X, Chg w3 X (fun b => b ≠ W.heap.size) → Rd X A1 c1 (ldR C)) := Lib.hid fun X hX => r1.chg hX fun ad e hl => by
    obtain ⟨b, off, e2, _, hc⟩ := rdPlain9 r1 hl
    rw [e] at e2
    injection e2 with e2
    subst e2
    exact HRW0.out.bools (a := ⟨b, off + 0, none⟩) (hc 0 hl) (fun b h => by cases h)
  have h1l := r1.le
  have h1m := r1.max
  rw [hq] at h1l
  unfold maxLen at h1m
  have HBD2 : Hid (∀ k (hk : k < q), ∃ y : Nat, (ldR C).getD k 0 = (y : Int) ∧ y < n ∧ ∀ x, ldT (ldR C) (k + 1) x = with_ (ldT (ldR C) k) y x) := Lib.hid fun k hk => by
    have hkl : k < (ldR C).length := by rw [HQ.out]; exact hk
    have h1 := HBD.out _ (List.getElem_mem hkl)
    have e : (ldR C)[k] = (((ldR C)[k].toNat : Nat) : Int) := by omega
    exact ⟨(ldR C)[k].toNat, by rw [← e]; simp [List.getD, hkl], by omega, fun x => ldTS hkl e x⟩
  have HS0 : Hid (RowB w3 W.heap.size n (ldT (ldR C) 0)) := Lib.hid (by
    have : ldT (ldR C) 0 = fun _ => false := funext fun x => ldT0 _ x
    rw [this]; exact HRW0.out)
  have HQP : Hid ((ldR C).length = q) := Lib.hid HQ.out
  generalize ldR C = l at HRX HBD2 HS0 HQL HQP
  clear k0 k1 r1 b1 hq HRW0 HL2 HR0
  go_wp2
  go_loopg [6] q (fun g i X => ∃ k : Nat, k + g = q ∧ i = .int .i64 k ∧ Hid (RowB X W.heap.size n (ldT l k)) ∧ Hid (Chg w3 X (fun b => b ≠ W.heap.size)))
  case atStart => exact ⟨0, by omega, rfl, HS0, Lib.hid (Chg.refl _ _)⟩
  case round =>
    obtain ⟨k, hk, rfl, HR, HC⟩ := hrel
    cases gk with
    | zero =>
      have hkq : k = q := by omega
      subst hkq
      have hjz : ¬ ((k : Int) < k) := by omega
      have HF := Lib.hid (belChgF HB30.out HC.out (by have := HB30.out.size; omega) fun b hb => (show b ≠ W.heap.size by omega))
      go_wp2
      go_ret
      exact ⟨W.heap.size, _, rfl, HR.out, fun x _ => HQL.out x, HBW.out.size, belowThen HBW.out HF.out⟩
    | succ g2 =>
      have hkq : k < q := by omega
      have hk0 : (0 : Int) ≤ k := by omega
      have hk1 : (k : Int) < q := by omega
      obtain ⟨y, hy, hyn, hS⟩ := HBD2.out k hkq
      obtain ⟨b, off, eA, _, hc⟩ := rdPlain9 (HRX.out wr HC.out) (by rw [HQP.out]; omega)
      have hcy := hc k (by rw [HQP.out]; exact hkq)
      rw [hy] at hcy
      have hy0 : (0 : Int) ≤ y := by omega
      have hy1 : (y : Int) < n := by omega
      have hce := HR.out.cell hyn
      have hfz := HR.out.frozen y
      have HR2 : Hid (RowB (wr.setCell ⟨W.heap.size, y, none⟩ (.bool true)) W.heap.size n (ldT l (k + 1))) := Lib.hid (by
        have : ldT l (k + 1) = with_ (ldT l k) y := funext hS
        rw [this]; exact HR.out.set y)
      have HC2 := Lib.hid (HC.out.trans (chgSetF wr W.heap.size y (.bool true)) fun _ _ h => h)
      subst eA
      clear hc hy hS
      go_wp2
      go_roundg g2
      case measure => omega
      case rel => exact ⟨k + 1, by omega, by go_num, HR2, HC2⟩
end Go.Proofs.YtpkagpobobmnfaaGreatDoor

namespace Go.Proofs.YtpkagpobobmnfaaGreatDoor
open Go Go.RowKit Go.Maps
attribute [local go_sem] Oper.semAt_some

/-- One register's two cells written. -/
theorem knCPut (K : Kn) {r : Nat} (h : r < 8) (o : Option Int) : ((knC K).setIfInBounds (r * 2) (.bool o.isSome)).setIfInBounds (r * 2 + 1) (.int .i64 (o.getD 0)) = knC (knUp K (r : Int) o) := by
  have hc : r = 0 ∨ r = 1 ∨ r = 2 ∨ r = 3 ∨ r = 4 ∨ r = 5 ∨ r = 6 ∨ r = 7 := by omega
  rcases hc with rfl | rfl | rfl | rfl | rfl | rfl | rfl | rfl <;> (simp [knC, knUp])
theorem twiceSet {a : Array Value} {i j : Nat} {u v x : Value} : (((a.setIfInBounds i u).setIfInBounds j v).setIfInBounds j x) = (a.setIfInBounds i u).setIfInBounds j x := by simp
abbrev st16 (W : World) (b : Nat) : World := ((((((((((((((((W.setCell ⟨b, 0, none⟩ (.bool false)).setCell ⟨b, 1, none⟩ (.int .i64 0)).setCell ⟨b, 2, none⟩ (.bool false)).setCell ⟨b, 3, none⟩ (.int .i64 0)).setCell ⟨b, 4, none⟩ (.bool false)).setCell ⟨b, 5, none⟩ (.int .i64 0)).setCell ⟨b, 6, none⟩ (.bool false)).setCell ⟨b, 7, none⟩ (.int .i64 0)).setCell ⟨b, 8, none⟩ (.bool false)).setCell ⟨b, 9, none⟩ (.int .i64 0)).setCell ⟨b, 10, none⟩ (.bool false)).setCell ⟨b, 11, none⟩ (.int .i64 0)).setCell ⟨b, 12, none⟩ (.bool false)).setCell ⟨b, 13, none⟩ (.int .i64 0)).setCell ⟨b, 14, none⟩ (.bool false)).setCell ⟨b, 15, none⟩ (.int .i64 0))
theorem arr16 (x0 x1 x2 x3 x4 x5 x6 x7 x8 x9 x10 x11 x12 x13 x14 x15 : Value) : ((((((((((((((((#[x0, x1, x2, x3, x4, x5, x6, x7, x8, x9, x10, x11, x12, x13, x14, x15].setIfInBounds 0 (.bool false)).setIfInBounds 1 (.int .i64 0)).setIfInBounds 2 (.bool false)).setIfInBounds 3 (.int .i64 0)).setIfInBounds 4 (.bool false)).setIfInBounds 5 (.int .i64 0)).setIfInBounds 6 (.bool false)).setIfInBounds 7 (.int .i64 0)).setIfInBounds 8 (.bool false)).setIfInBounds 9 (.int .i64 0)).setIfInBounds 10 (.bool false)).setIfInBounds 11 (.int .i64 0)).setIfInBounds 12 (.bool false)).setIfInBounds 13 (.int .i64 0)).setIfInBounds 14 (.bool false)).setIfInBounds 15 (.int .i64 0)) = #[(.bool false : Value), .int .i64 0, .bool false, .int .i64 0, .bool false, .int .i64 0, .bool false, .int .i64 0, .bool false, .int .i64 0, .bool false, .int .i64 0, .bool false, .int .i64 0, .bool false, .int .i64 0] := by
  simp only [List.setIfInBounds_toArray, List.set_cons_zero, List.set_cons_succ]
theorem stored16 {W : World} {b : Nat} {T : TypeId} {K : Kn} (h : Blk W b T (knC K)) : Blk (st16 W b) b T (knC knNo) := by
  have h2 := ((((((((((((((((h.set 0 (.bool false)).set 1 (.int .i64 0)).set 2 (.bool false)).set 3 (.int .i64 0)).set 4 (.bool false)).set 5 (.int .i64 0)).set 6 (.bool false)).set 7 (.int .i64 0)).set 8 (.bool false)).set 9 (.int .i64 0)).set 10 (.bool false)).set 11 (.int .i64 0)).set 12 (.bool false)).set 13 (.int .i64 0)).set 14 (.bool false)).set 15 (.int .i64 0))
  unfold knC at h2
  rw [arr16] at h2
  exact h2
theorem chgSt16 (W : World) (b : Nat) : Chg W (st16 W b) (fun q => q ≠ b) := (((((((((((((((chgSetF W b 0 (.bool false)).trans (chgSetF _ b 1 (.int .i64 0)) fun _ _ h => h).trans (chgSetF _ b 2 (.bool false)) fun _ _ h => h).trans (chgSetF _ b 3 (.int .i64 0)) fun _ _ h => h).trans (chgSetF _ b 4 (.bool false)) fun _ _ h => h).trans (chgSetF _ b 5 (.int .i64 0)) fun _ _ h => h).trans (chgSetF _ b 6 (.bool false)) fun _ _ h => h).trans (chgSetF _ b 7 (.int .i64 0)) fun _ _ h => h).trans (chgSetF _ b 8 (.bool false)) fun _ _ h => h).trans (chgSetF _ b 9 (.int .i64 0)) fun _ _ h => h).trans (chgSetF _ b 10 (.bool false)) fun _ _ h => h).trans (chgSetF _ b 11 (.int .i64 0)) fun _ _ h => h).trans (chgSetF _ b 12 (.bool false)) fun _ _ h => h).trans (chgSetF _ b 13 (.int .i64 0)) fun _ _ h => h).trans (chgSetF _ b 14 (.bool false)) fun _ _ h => h).trans (chgSetF _ b 15 (.int .i64 0)) fun _ _ h => h
/-- The code grows by an instruction: only the function's box and the row turn. -/
theorem FnSv.push2 {X : World} {b z : Nat} {nm : ByteArray} {v : Value} {L : List I8} (h : FnSv X b z nm v L) (hL : L.length ≤ 1000) {i : I8} {g : Nat} (hg : Blk X g 55 (icC i).toArray) :
    ∃ v' w', (∀ ty, (Builtin.append_ #[22, 22] ty #[v, .slice (some ⟨g, 0, none⟩) 1 1]).run Tryz.prog X = .ok v' w') ∧ Blk w' b 24 #[.string nm, v] ∧ FnSv (w'.setCell ⟨b, 1, none⟩ v') b z nm v' (L ++ [i]) ∧ Chg X (w'.setCell ⟨b, 1, none⟩ v') (fun k => k ≠ b ∧ v.ownBlock ≠ some k) := by
  obtain ⟨v', w', hrun, ho, hgr, hob⟩ := h.row.push hL h.le hg 22
  have hne : v.ownBlock ≠ some b := fun e => by have := (World.ownsRow.lt h.row b e).1; have := h.lt; omega
  have hbl : Blk w' b 24 #[.string nm, v] := (hgr.block b h.box.lt fun e => hne e.symm).trans h.box
  have hset := chgSetF w' b 1 v'
  refine ⟨v', w', fun _ => hrun, hbl, ⟨hbl.set 1 v', ho.chg hset fun g hg => ?_, h.lt, Nat.le_trans h.le (Nat.le_trans hgr.size hset.size)⟩, (Chg.ofGrown (F := fun k => k ≠ b ∧ v.ownBlock ≠ some k) hgr fun k hk e => hk.2 e).trans hset fun _ _ hk => hk.1⟩
  have := (World.ownsRow.lt ho g hg).1
  have := h.lt
  show g ≠ b
  omega
structure FdSr (w3 : World) (nm : ByteArray) (K : Kn) (L : List I8) (X : World) : Prop where
  bel : Below w3.heap.size w3 X
  fn : ∃ v, FnSv X w3.heap.size (w3.heap.size + 2) nm v L
  kn : Blk X (w3.heap.size + 1) 170 (knC K)
theorem fdSrStart (w3 : World) (nm : ByteArray) : FdSr w3 nm knNo [] ((w3.alloc (.cells #[.string nm, .slice none 0 0] 24)).alloc (.cells #[.bool false, .int .i64 0, .bool false, .int .i64 0, .bool false, .int .i64 0, .bool false, .int .i64 0, .bool false, .int .i64 0, .bool false, .int .i64 0, .bool false, .int .i64 0, .bool false, .int .i64 0] 170)) :=
  ⟨belowThen (belowAlloc _ _) (belowAlloc _ _), ⟨_, ⟨(Blk.new w3 _ _).alloc _, OwnC8.nil _ _, by omega, by simp⟩⟩, Blk.new1 w3 _ _ _⟩
set_option maxRecDepth 100000 in
set_option maxHeartbeats 16000000 in
theorem rFold15 (nm : ByteArray) (C : List I8) (n : Nat) (hn : C.length = n) (A : Option Addr) (c : Nat) (w : World) (h : CdW w A c C) :
    Calls Tryz.prog 88 #[fnV nm A n c] w (GivesFn (nmRf C nm) (cdR C (fdL C)) (cfE C) w) := by
  obtain ⟨W, hW⟩ : ∃ W, (w.alloc (.cells #[.string nm, .slice A n c] 24)).alloc (.cells #[.string ⟨#[]⟩, .slice none 0 0] 24) = W := ⟨_, rfl⟩
  obtain ⟨h1, h2, hbW, hsz⟩ := two8 w _ _ hW
  have HB1 := Lib.hid (show Blk W w.heap.size 24 #[.string nm, .slice A n c] from h1)
  have HB2 := Lib.hid (show Blk W (w.heap.size + 1) 24 #[.string ⟨#[]⟩, .slice none 0 0] from h2)
  have hcd := h.below hbW
  have HCD := Lib.hid (fun X (hX : Below W.heap.size W X) => hcd.below hX)
  have HLE := Lib.hid (rChk15 nm C n hn A c W hcd)
  have HW := Lib.hid hW
  have HBW := Lib.hid hbW
  have HSZ := Lib.hid hsz
  have HN := Lib.hid hn
  have hle := h.rd.le
  have hmx := h.rd.max
  rw [hn] at hle
  unfold maxLen at hmx
  have a0 : W.cell? ⟨w.heap.size, 0, none⟩ = some (.string nm) := HB1.out.cell 0
  have a1 : W.cell? ⟨w.heap.size, 1, none⟩ = some (.slice A n c) := HB1.out.cell 1
  have hwf := h.wf
  clear h h1 h2 hbW hW hsz hcd hn
  unfold fnV at HLE ⊢
  by_cases hc : cfE C = 0
  rotate_left
  · have hne : (cfE C != 0) = true := by simpa using hc
    unfold GivesFn
    rw [nmR1 hc, cdR1 hc]
    obtain ⟨er, her⟩ : ∃ er, cfE C = er := ⟨_, rfl⟩
    rw [her] at HLE hne ⊢
    clear hc her
    go_enter Tryz.func88, Tryz.ntmps88
    go_wp2_with fail
    rw [HW.out]
    go_wp2_with fail
    refine HLE.out.mono ?_
    rintro e w1 ⟨rfl, b1⟩
    have HB2' := Lib.hid (HB2.out.below' b1)
    have HG := Lib.hid (belowThen HBW.out b1)
    have g0 := HB2'.out.cell 0
    have g1 := HB2'.out.cell 1
    have fg0 := HB2'.out.frozen 0
    have fg1 := HB2'.out.frozen 1
    clear b1 a0 a1
    go_wp2_with fail
    refine bodyPost_ret ((stored2F HB2'.out).res2 rfl _ rfl Tryz.underlying24 rfl infoFn2) rfl ?_
    exact ⟨none, 0, rfl, RdE.nil, below2F HG.out (by omega)⟩
  have hok := cfOk hc
  unfold GivesFn
  rw [nmR0 hc, cdR0 hc]
  rw [hc] at HLE ⊢
  have h64 : n ≤ 64 := by have := hok.len; rw [HN.out] at this; exact this
  have HOK := Lib.hid hok
  have HLD := Lib.hid (fun X (hX : Below W.heap.size W X) => rLead15 nm C hc n HN.out A c X (HCD.out X hX))
  unfold fnV at HLD
  have e9 : (fdL C).length = n := by rw [fdLLen]; exact HN.out
  rw [e9]
  clear hc hok e9
  go_enter Tryz.func88, Tryz.ntmps88
  go_wp2_with fail
  rw [HW.out]
  go_wp2_with fail
  refine HLE.out.mono ?_
  rintro e w1 ⟨rfl, b1⟩
  have HLD1 := Lib.hid (HLD.out w1 b1)
  have HB01 := Lib.hid b1
  clear a0 a1
  have a0 : w1.cell? ⟨w.heap.size, 0, none⟩ = some (.string nm) := (HB1.out.below' b1).cell 0
  have a1 : w1.cell? ⟨w.heap.size, 1, none⟩ = some (.slice A n c) := (HB1.out.below' b1).cell 1
  clear b1
  go_wp2_with fail
  refine HLD1.out.mono ?_
  rintro e w3 ⟨gb, E0, rfl, hrow, hE0, hgb, b3⟩
  have HRW := Lib.hid hrow
  have HE0 := Lib.hid hE0
  have HB1' := Lib.hid (belowThen HB01.out b3)
  have HB2' := Lib.hid (HB2.out.below' HB1'.out)
  have HSZ1 : Hid (w.heap.size + 2 ≤ w3.heap.size) := Lib.hid (by have := HB1'.out.size; have := HSZ.out; omega)
  have HST0 := Lib.hid (fdSrStart w3 nm)
  clear a0 a1 hrow hE0 hgb b3 HLD HLD1
  have a0 : w3.cell? ⟨w.heap.size, 0, none⟩ = some (.string nm) := (HB1.out.below' HB1'.out).cell 0
  have a1 : w3.cell? ⟨w.heap.size, 1, none⟩ = some (.slice A n c) := (HB1.out.below' HB1'.out).cell 1
  have HA1 := Lib.hid a1
  obtain ⟨w2, hw2⟩ : ∃ w2, (w3.alloc (.cells #[.string nm, .slice none 0 0] 24)).alloc (.cells #[.bool false, .int .i64 0, .bool false, .int .i64 0, .bool false, .int .i64 0, .bool false, .int .i64 0, .bool false, .int .i64 0, .bool false, .int .i64 0, .bool false, .int .i64 0, .bool false, .int .i64 0] 170) = w2 := ⟨_, rfl⟩
  rw [hw2] at HST0
  have HW2 := Lib.hid hw2
  clear hw2
  go_upto_region 7 with fail
  rw [HW2.out]
  clear a0 a1
  have a1' := (HST0.out.bel.cell (p := ⟨w.heap.size, 1, none⟩) (by have := HSZ1.out; show w.heap.size < _; omega)).trans HA1.out
  go_wp2_with fail
  go_loopg [8] n (fun g i X => ∃ k : Nat, k + g = n ∧ i = .int .i64 k ∧ FdSr w3 nm (knA C k) (fdK C k) X)
  case atStart => exact ⟨0, by omega, rfl, HST0.out⟩
  case round =>
    obtain ⟨k, hk, rfl, hst⟩ := hrel
    clear a1'
    have ha8 := (hst.bel.cell (p := ⟨w.heap.size, 1, none⟩) (by have := HSZ1.out; show w.heap.size < _; omega)).trans HA1.out
    obtain ⟨v, hv⟩ := hst.fn
    obtain ⟨Av, cv, ev, -⟩ := hv.row.rd
    rw [fdKLen] at ev
    subst ev
    obtain ⟨d0, d1, fd0, fd1⟩ := hv.cells
    have HV := Lib.hid hv
    cases gk with
    | zero =>
      have hkn : k = n := by omega
      subst hkn
      have hjz : ¬ ((k : Int) < k) := by omega
      have HB3 := Lib.hid (HB2'.out.below' hst.bel)
      have g0 := HB3.out.cell 0
      have g1 := HB3.out.cell 1
      have fg0 := HB3.out.frozen 0
      have fg1 := HB3.out.frozen 1
      have HG := Lib.hid (belowThen (belowThen HBW.out HB1'.out) hst.bel)
      have HL : Hid (fdK C k = fdL C) := Lib.hid (by unfold fdL; rw [HN.out])
      have HZ := HSZ1.out
      clear hst hv
      go_wp2_with fail
      refine bodyPost_ret ((stored2F HB3.out).res2 rfl _ rfl Tryz.underlying24 rfl infoFn2) rfl ?_
      have hrow := HV.out.row.chg ((chgSetF wr (w.heap.size + 1) 0 (.string nm)).trans (chgSetF _ (w.heap.size + 1) 1 (.slice Av k cv)) fun _ _ h => h) fun g hg => by
        have := (World.ownsRow.lt HV.out.row g hg).1
        show g ≠ _
        omega
      obtain ⟨A6, c6, e6, r6⟩ := hrow.rd
      rw [fdKLen] at e6
      injection e6 with e7 _ e8
      subst e7 e8
      rw [HL.out] at r6
      exact ⟨Av, cv, rfl, r6, below2F HG.out (by omega)⟩
    | succ g2 =>
      have hkn : k < n := by omega
      have hkl : k < C.length := by rw [HN.out]; exact hkn
      have hk0 : (0 : Int) ≤ k := by omega
      have hk1 : (k : Int) < n := by omega
      have hqe : E0 k = ldQ C k := HE0.out k hkn
      have hce := (HRW.out.chg (Chg.ofBelow hst.bel fun _ => True) trivial).cell (i := k) hkn
      rw [hqe] at hce
      have hokk := HOK.out
      have hgI : gI C k = C[k] := gIAt hkl
      have hckC := hokk.chk C[k] (List.getElem_mem hkl)
      have hFA : fdAt C k = fdI (knB C k (knA C k)) ((k + 1 : Nat) : Int) C[k] := by unfold fdAt; rw [hgI]
      have HFD := Lib.hid (fun X => rFolded (knB C k (knA C k)) C[k] hckC k (by omega) X)
      rw [← hFA] at HFD
      have hckR := fdAtChk hokk hkl
      have HDF := Lib.hid (fun X => rDefs (fdAt C k) (fdAt C k).dfR (fdAt C k).dfB rfl rfl X)
      have hdb : (fdAt C k).dfB = (fdAt C k).u 0 := by unfold I8.dfB; rw [hckR]; simp
      have HDR1 : Hid ((fdAt C k).dfB = true → (fdAt C k).dfR = (fdAt C k).a) := Lib.hid fun h => by unfold I8.dfR; rw [if_pos (of_decide_eq_true h)]
      have HD1 : Hid ((fdAt C k).op = 1 → (fdAt C k).dfB = true) := Lib.hid fun h => by rw [hdb]; unfold I8.u; rw [h]; rfl
      have HKI : Hid (knA C (k + 1) = if (fdAt C k).dfB = true then knUp (knB C k (knA C k)) (fdAt C k).a (if (fdAt C k).op = 1 then some (fdAt C k).n else none) else knB C k (knA C k)) := Lib.hid (by rw [knAS]; unfold knI; rw [hdb])
      have hga := (I8.good hckR).a
      have HPU := Lib.hid (fdKS (C := C) (k := k))
      have HKB1 : Hid (ldQ C k = true → knB C k (knA C k) = knNo) := Lib.hid fun h => if_pos h
      have HKB0 : Hid (ldQ C k = false → knB C k (knA C k) = knA C k) := Lib.hid fun h => if_neg (by rw [h]; simp)
      have HKL : Hid ((fdK C k).length ≤ 1000) := Lib.hid (by rw [fdKLen]; omega)
      obtain ⟨k1, hk1e⟩ : ∃ k1, k + 1 = k1 := ⟨_, rfl⟩
      have hwk : IntKind.i64.wrap ((k : Int) + 1) = (k1 : Int) := by rw [IntKind.wrap_i64]; omega
      rw [hk1e] at HKI HPU
      have HK1 := Lib.hid hk1e
      clear hgI hckC hFA hckR hokk hdb hqe hk1e
      obtain ⟨b, hb⟩ : ∃ b, ldQ C k = b := ⟨_, rfl⟩
      rw [hb] at hce HKB1 HKB0
      obtain ⟨KB, hKB⟩ : ∃ K, knB C k (knA C k) = K := ⟨_, rfl⟩
      rw [hKB] at HFD HKI HKB1 HKB0
      obtain ⟨R, hR⟩ : ∃ R, fdAt C k = R := ⟨_, rfl⟩
      rw [hR] at HFD HDF HDR1 HD1 HKI HPU hga
      obtain ⟨db, hdb⟩ : ∃ b, R.dfB = b := ⟨_, rfl⟩
      obtain ⟨dr, hdr⟩ : ∃ b, R.dfR = b := ⟨_, rfl⟩
      rw [hdb, hdr] at HDF
      rw [hdb] at HDR1 HD1 HKI
      rw [hdr] at HDR1
      obtain ⟨K1, hK1⟩ : ∃ K, knA C k1 = K := ⟨_, rfl⟩
      rw [hK1] at HKI
      have HKK := Lib.hid hK1
      have HHST := Lib.hid hst
      obtain ⟨e0, e1, e2, e3, e4, e5, e6, e7, e8, e9, e10, e11, e12, e13, e14, e15⟩ : wr.cell? ⟨w3.heap.size + 1, 0, none⟩ = some _ ∧ wr.cell? ⟨w3.heap.size + 1, 1, none⟩ = some _ ∧ wr.cell? ⟨w3.heap.size + 1, 2, none⟩ = some _ ∧ wr.cell? ⟨w3.heap.size + 1, 3, none⟩ = some _ ∧ wr.cell? ⟨w3.heap.size + 1, 4, none⟩ = some _ ∧ wr.cell? ⟨w3.heap.size + 1, 5, none⟩ = some _ ∧ wr.cell? ⟨w3.heap.size + 1, 6, none⟩ = some _ ∧ wr.cell? ⟨w3.heap.size + 1, 7, none⟩ = some _ ∧ wr.cell? ⟨w3.heap.size + 1, 8, none⟩ = some _ ∧ wr.cell? ⟨w3.heap.size + 1, 9, none⟩ = some _ ∧ wr.cell? ⟨w3.heap.size + 1, 10, none⟩ = some _ ∧ wr.cell? ⟨w3.heap.size + 1, 11, none⟩ = some _ ∧ wr.cell? ⟨w3.heap.size + 1, 12, none⟩ = some _ ∧ wr.cell? ⟨w3.heap.size + 1, 13, none⟩ = some _ ∧ wr.cell? ⟨w3.heap.size + 1, 14, none⟩ = some _ ∧ wr.cell? ⟨w3.heap.size + 1, 15, none⟩ = some _ := ⟨hst.kn.cell 0, hst.kn.cell 1, hst.kn.cell 2, hst.kn.cell 3, hst.kn.cell 4, hst.kn.cell 5, hst.kn.cell 6, hst.kn.cell 7, hst.kn.cell 8, hst.kn.cell 9, hst.kn.cell 10, hst.kn.cell 11, hst.kn.cell 12, hst.kn.cell 13, hst.kn.cell 14, hst.kn.cell 15⟩
      have hzf : ∀ i, wr.frozen? ⟨w3.heap.size + 1, i, none⟩ = false := fun i => hst.kn.frozen i
      clear hb hKB hR hdb hdr hK1 hv
      go_upto_if 33 with fail
      go_cut [] from 23 to 68 (fun wx => Below w3.heap.size w3 wx ∧ FnSv wx w3.heap.size (w3.heap.size + 2) nm (.slice Av k cv) (fdK C k) ∧ Blk wx (w3.heap.size + 1) 170 (knC KB))
      case first =>
        cases b
        · have hk := HKB0.out rfl
          go_wp2_with fail
          go_meet
          case rel => exact ⟨HHST.out.bel, HV.out, by rw [hk]; exact HHST.out.kn⟩
        · have hk := HKB1.out rfl
          have HC := Lib.hid (chgSt16 wr (w3.heap.size + 1))
          have HBX := Lib.hid (belChgF HHST.out.bel HC.out (by have := HHST.out.bel.size; omega) fun q hq => (show q ≠ w3.heap.size + 1 by omega))
          have HVX := Lib.hid (HV.out.chg HC.out (show w3.heap.size ≠ w3.heap.size + 1 by omega) fun q hq _ => (show q ≠ w3.heap.size + 1 by omega))
          have HKX := Lib.hid (stored16 HHST.out.kn)
          go_wp2_with fail
          go_meet
          case rel => exact ⟨HBX.out, HVX.out, by rw [hk]; exact HKX.out⟩
      case rest =>
      obtain ⟨hbc, hvc, hkc⟩ := hcut
      rename World => wa
      clear e0 e1 e2 e3 e4 e5 e6 e7 e8 e9 e10 e11 e12 e13 e14 e15 hzf hce ha8 d0 d1 fd0 fd1 hst
      have ha8 := (hbc.cell (p := ⟨w.heap.size, 1, none⟩) (by have := HSZ1.out; show w.heap.size < _; omega)).trans HA1.out
      have hcdw := HCD.out wa (belowThen HB1'.out hbc)
      obtain ⟨q8, off, hA, hlq, i0, i1, i2, i3, i4, i5, i6, i7⟩ := hcdw.rd.one hkl
      have hA : A = _ := hA
      subst hA
      obtain ⟨ii, hii⟩ : ∃ x, C[k] = x := ⟨_, rfl⟩
      rw [hii] at i0 i1 i2 i3 i4 i5 i6 i7 HFD
      obtain ⟨op, ra, rb, rc, obj, nn, fn, ord⟩ := ii
      obtain ⟨j0, j1, j2, j3, j4, j5, j6, j7⟩ := R
      unfold GivesI at HFD
      unfold I8.val knC at HFD
      unfold I8.val at HDF
      simp only at i0 i1 i2 i3 i4 i5 i6 i7 HFD HDF HDR1 HD1 HKI hga
      have hlw : w.heap.size < wa.heap.size := by have := HSZ1.out; have := hbc.size; omega
      have hlk : w3.heap.size + 1 < wa.heap.size := hkc.lt
      have HS := Lib.hid (fun X (hX : Below wa.heap.size wa X) => (⟨(hX.cell (p := ⟨w.heap.size, 1, none⟩) hlw).trans ha8, (hX.cell (p := ⟨q8, off + k * 8, none⟩) hlq).trans i0, (hX.cell (p := ⟨q8, off + k * 8 + 1, none⟩) hlq).trans i1, (hX.cell (p := ⟨q8, off + k * 8 + 2, none⟩) hlq).trans i2, (hX.cell (p := ⟨q8, off + k * 8 + 3, none⟩) hlq).trans i3, (hX.cell (p := ⟨q8, off + k * 8 + 4, none⟩) hlq).trans i4, (hX.cell (p := ⟨q8, off + k * 8 + 5, none⟩) hlq).trans i5, (hX.cell (p := ⟨q8, off + k * 8 + 6, none⟩) hlq).trans i6, (hX.cell (p := ⟨q8, off + k * 8 + 7, none⟩) hlq).trans i7, (hX.cell (p := ⟨w3.heap.size + 1, 0, none⟩) hlk).trans (hkc.cell 0), (hX.cell (p := ⟨w3.heap.size + 1, 1, none⟩) hlk).trans (hkc.cell 1), (hX.cell (p := ⟨w3.heap.size + 1, 2, none⟩) hlk).trans (hkc.cell 2), (hX.cell (p := ⟨w3.heap.size + 1, 3, none⟩) hlk).trans (hkc.cell 3), (hX.cell (p := ⟨w3.heap.size + 1, 4, none⟩) hlk).trans (hkc.cell 4), (hX.cell (p := ⟨w3.heap.size + 1, 5, none⟩) hlk).trans (hkc.cell 5), (hX.cell (p := ⟨w3.heap.size + 1, 6, none⟩) hlk).trans (hkc.cell 6), (hX.cell (p := ⟨w3.heap.size + 1, 7, none⟩) hlk).trans (hkc.cell 7), (hX.cell (p := ⟨w3.heap.size + 1, 8, none⟩) hlk).trans (hkc.cell 8), (hX.cell (p := ⟨w3.heap.size + 1, 9, none⟩) hlk).trans (hkc.cell 9), (hX.cell (p := ⟨w3.heap.size + 1, 10, none⟩) hlk).trans (hkc.cell 10), (hX.cell (p := ⟨w3.heap.size + 1, 11, none⟩) hlk).trans (hkc.cell 11), (hX.cell (p := ⟨w3.heap.size + 1, 12, none⟩) hlk).trans (hkc.cell 12), (hX.cell (p := ⟨w3.heap.size + 1, 13, none⟩) hlk).trans (hkc.cell 13), (hX.cell (p := ⟨w3.heap.size + 1, 14, none⟩) hlk).trans (hkc.cell 14), (hX.cell (p := ⟨w3.heap.size + 1, 15, none⟩) hlk).trans (hkc.cell 15)⟩ : X.cell? ⟨w.heap.size, 1, none⟩ = some (.slice (some ⟨q8, off, none⟩) n c) ∧ X.cell? ⟨q8, off + k * 8, none⟩ = some (.int .i64 op) ∧ X.cell? ⟨q8, off + k * 8 + 1, none⟩ = some (.int .i64 ra) ∧ X.cell? ⟨q8, off + k * 8 + 2, none⟩ = some (.int .i64 rb) ∧ X.cell? ⟨q8, off + k * 8 + 3, none⟩ = some (.int .i64 rc) ∧ X.cell? ⟨q8, off + k * 8 + 4, none⟩ = some (.int .i64 obj) ∧ X.cell? ⟨q8, off + k * 8 + 5, none⟩ = some (.int .i64 nn) ∧ X.cell? ⟨q8, off + k * 8 + 6, none⟩ = some (.int .i64 fn) ∧ X.cell? ⟨q8, off + k * 8 + 7, none⟩ = some (.int .i64 ord) ∧ X.cell? ⟨w3.heap.size + 1, 0, none⟩ = some (.bool (KB 0).isSome) ∧ X.cell? ⟨w3.heap.size + 1, 1, none⟩ = some (.int .i64 ((KB 0).getD 0)) ∧ X.cell? ⟨w3.heap.size + 1, 2, none⟩ = some (.bool (KB 1).isSome) ∧ X.cell? ⟨w3.heap.size + 1, 3, none⟩ = some (.int .i64 ((KB 1).getD 0)) ∧ X.cell? ⟨w3.heap.size + 1, 4, none⟩ = some (.bool (KB 2).isSome) ∧ X.cell? ⟨w3.heap.size + 1, 5, none⟩ = some (.int .i64 ((KB 2).getD 0)) ∧ X.cell? ⟨w3.heap.size + 1, 6, none⟩ = some (.bool (KB 3).isSome) ∧ X.cell? ⟨w3.heap.size + 1, 7, none⟩ = some (.int .i64 ((KB 3).getD 0)) ∧ X.cell? ⟨w3.heap.size + 1, 8, none⟩ = some (.bool (KB 4).isSome) ∧ X.cell? ⟨w3.heap.size + 1, 9, none⟩ = some (.int .i64 ((KB 4).getD 0)) ∧ X.cell? ⟨w3.heap.size + 1, 10, none⟩ = some (.bool (KB 5).isSome) ∧ X.cell? ⟨w3.heap.size + 1, 11, none⟩ = some (.int .i64 ((KB 5).getD 0)) ∧ X.cell? ⟨w3.heap.size + 1, 12, none⟩ = some (.bool (KB 6).isSome) ∧ X.cell? ⟨w3.heap.size + 1, 13, none⟩ = some (.int .i64 ((KB 6).getD 0)) ∧ X.cell? ⟨w3.heap.size + 1, 14, none⟩ = some (.bool (KB 7).isSome) ∧ X.cell? ⟨w3.heap.size + 1, 15, none⟩ = some (.int .i64 ((KB 7).getD 0))))
      have HDR : Hid (Below wa.heap.size wa wa.drew) := Lib.hid ((Below.refl _ wa).drew)
      have HBC := Lib.hid hbc
      have HVC := Lib.hid hvc
      have HKC := Lib.hid hkc
      have HLK := Lib.hid hlk
      clear hcdw hii hbc hvc hkc hlw hlq i0 i1 i2 i3 i4 i5 i6 i7
      go_upto_region 12 with fail
      go_cut [9] from 23 to 68 (fun s9 wx => ∃ g9, s9 = .pointer (some ⟨g9, 0, none⟩) ∧ wa.heap.size ≤ g9 ∧ Blk wx g9 55 #[.int .i64 j0, .int .i64 j1, .int .i64 j2, .int .i64 j3, .int .i64 j4, .int .i64 j5, .int .i64 j6, .int .i64 j7] ∧ Below wa.heap.size wa wx)
      case first =>
        refine wp_region_held_drew (S := fun X => X.cell? ⟨w.heap.size, 1, none⟩ = some (.slice (some ⟨q8, off, none⟩) n c) ∧ X.cell? ⟨q8, off + k * 8, none⟩ = some (.int .i64 op) ∧ X.cell? ⟨q8, off + k * 8 + 1, none⟩ = some (.int .i64 ra) ∧ X.cell? ⟨q8, off + k * 8 + 2, none⟩ = some (.int .i64 rb) ∧ X.cell? ⟨q8, off + k * 8 + 3, none⟩ = some (.int .i64 rc) ∧ X.cell? ⟨q8, off + k * 8 + 4, none⟩ = some (.int .i64 obj) ∧ X.cell? ⟨q8, off + k * 8 + 5, none⟩ = some (.int .i64 nn) ∧ X.cell? ⟨q8, off + k * 8 + 6, none⟩ = some (.int .i64 fn) ∧ X.cell? ⟨q8, off + k * 8 + 7, none⟩ = some (.int .i64 ord) ∧ X.cell? ⟨w3.heap.size + 1, 0, none⟩ = some (.bool (KB 0).isSome) ∧ X.cell? ⟨w3.heap.size + 1, 1, none⟩ = some (.int .i64 ((KB 0).getD 0)) ∧ X.cell? ⟨w3.heap.size + 1, 2, none⟩ = some (.bool (KB 1).isSome) ∧ X.cell? ⟨w3.heap.size + 1, 3, none⟩ = some (.int .i64 ((KB 1).getD 0)) ∧ X.cell? ⟨w3.heap.size + 1, 4, none⟩ = some (.bool (KB 2).isSome) ∧ X.cell? ⟨w3.heap.size + 1, 5, none⟩ = some (.int .i64 ((KB 2).getD 0)) ∧ X.cell? ⟨w3.heap.size + 1, 6, none⟩ = some (.bool (KB 3).isSome) ∧ X.cell? ⟨w3.heap.size + 1, 7, none⟩ = some (.int .i64 ((KB 3).getD 0)) ∧ X.cell? ⟨w3.heap.size + 1, 8, none⟩ = some (.bool (KB 4).isSome) ∧ X.cell? ⟨w3.heap.size + 1, 9, none⟩ = some (.int .i64 ((KB 4).getD 0)) ∧ X.cell? ⟨w3.heap.size + 1, 10, none⟩ = some (.bool (KB 5).isSome) ∧ X.cell? ⟨w3.heap.size + 1, 11, none⟩ = some (.int .i64 ((KB 5).getD 0)) ∧ X.cell? ⟨w3.heap.size + 1, 12, none⟩ = some (.bool (KB 6).isSome) ∧ X.cell? ⟨w3.heap.size + 1, 13, none⟩ = some (.int .i64 ((KB 6).getD 0)) ∧ X.cell? ⟨w3.heap.size + 1, 14, none⟩ = some (.bool (KB 7).isSome) ∧ X.cell? ⟨w3.heap.size + 1, 15, none⟩ = some (.int .i64 ((KB 7).getD 0))) (by kernel_rfl) (HS.out _ HDR.out) (fun hHeld => ?_)
        refine wpAnyH_take (i := 0) (oi := ⟨some 35, _, _, _, _, _⟩) (v := ?v0_1) rfl (by kernel_rfl) (by kernel_rfl) (by kernel_rfl) (fun _ _ _ h => h) (Or.inl ⟨by rfl, ?h0_1⟩) (by assumption) ?r0_1
        case h0_1 => (intro w hSw; (try dsimp only at hSw); go_simp; try with_reducible rfl)
        (try simp only [Act.put, List.setIfInBounds_toArray, List.set_cons_zero, List.set_cons_succ])
        refine wpAnyH_take (i := 1) (oi := ⟨some 36, _, _, _, _, _⟩) (v := ?v1_2) rfl (by kernel_rfl) (by kernel_rfl) (by kernel_rfl) (fun _ _ _ h => h) (Or.inl ⟨by rfl, ?h1_2⟩) (by assumption) ?r1_2
        case h1_2 => (intro w hSw; (try dsimp only at hSw); go_simp; try with_reducible rfl)
        (try simp only [Act.put, List.setIfInBounds_toArray, List.set_cons_zero, List.set_cons_succ])
        refine wpAnyH_take (i := 2) (oi := ⟨some 37, _, _, _, _, _⟩) (v := ?v2_3) rfl (by kernel_rfl) (by kernel_rfl) (by kernel_rfl) (fun _ _ _ h => h) (Or.inl ⟨by rfl, ?h2_3⟩) (by assumption) ?r2_3
        case h2_3 => (intro w hSw; (try dsimp only at hSw); go_simp; try with_reducible rfl)
        (try simp only [Act.put, List.setIfInBounds_toArray, List.set_cons_zero, List.set_cons_succ])
        refine wpAnyH_take (i := 3) (oi := ⟨some 38, _, _, _, _, _⟩) (v := ?v3_4) rfl (by kernel_rfl) (by kernel_rfl) (by kernel_rfl) (fun _ _ _ h => h) (Or.inl ⟨by rfl, ?h3_4⟩) (by assumption) ?r3_4
        case h3_4 => (intro w hSw; (try dsimp only at hSw); go_simp; try with_reducible rfl)
        (try simp only [Act.put, List.setIfInBounds_toArray, List.set_cons_zero, List.set_cons_succ])
        refine wpAnyH_take (i := 4) (oi := ⟨some 39, _, _, _, _, _⟩) (v := ?v4_5) rfl (by kernel_rfl) (by kernel_rfl) (by kernel_rfl) (fun _ _ _ h => h) (Or.inl ⟨by rfl, ?h4_5⟩) (by assumption) ?r4_5
        case h4_5 => (intro w hSw; (try dsimp only at hSw); go_simp; try with_reducible rfl)
        (try simp only [Act.put, List.setIfInBounds_toArray, List.set_cons_zero, List.set_cons_succ])
        refine wpAnyH_take (i := 5) (oi := ⟨some 40, _, _, _, _, _⟩) (v := ?v5_6) rfl (by kernel_rfl) (by kernel_rfl) (by kernel_rfl) (fun _ _ _ h => h) (Or.inl ⟨by rfl, ?h5_6⟩) (by assumption) ?r5_6
        case h5_6 => (intro w hSw; (try dsimp only at hSw); go_simp; try with_reducible rfl)
        (try simp only [Act.put, List.setIfInBounds_toArray, List.set_cons_zero, List.set_cons_succ])
        refine wpAnyH_take (i := 6) (oi := ⟨some 41, _, _, _, _, _⟩) (v := ?v6_7) rfl (by kernel_rfl) (by kernel_rfl) (by kernel_rfl) (fun _ _ _ h => h) (Or.inl ⟨by rfl, ?h6_7⟩) (by assumption) ?r6_7
        case h6_7 => (intro w hSw; (try dsimp only at hSw); go_simp; try with_reducible rfl)
        (try simp only [Act.put, List.setIfInBounds_toArray, List.set_cons_zero, List.set_cons_succ])
        refine wpAnyH_ready (rs := [7, 8]) (by kernel_rfl) (by simp) ?_
        refine AllReadyH.cons (o := ⟨some 42, _, _, _, _, _⟩) rfl (fun K hK => ?_) (AllReadyH.cons (o := ⟨some 9, _, _, _, _, _⟩) rfl (fun K hK => ?_) (AllReadyH.nil))
        · go_simp
          refine (HFD.out _).mono ?_
          rintro e u1 ⟨rfl, gu⟩
          have HU := belowThen HDR.out gu
          try dsimp only
          refine hK.out _ _ (HS.out _ HU) (fun hHeld => ?_)
          clear hK K
          (try simp only [Act.put, List.setIfInBounds_toArray, List.set_cons_zero, List.set_cons_succ])
          refine wpAnyH_ready (rs := [8]) (by kernel_rfl) (by simp) ?_
          refine AllReadyH.cons (o := ⟨some 9, _, _, _, _, _⟩) rfl (fun K hK => ?_) (AllReadyH.nil)
          obtain ⟨Xa, hXa⟩ : ∃ Xa, u1.alloc (.cells #[.int .i64 0, .int .i64 0, .int .i64 0, .int .i64 0, .int .i64 0, .int .i64 0, .int .i64 0, .int .i64 0] 55) = Xa := ⟨_, rfl⟩
          have bXa := belowThen HU (show Below u1.heap.size u1 Xa by rw [← hXa]; exact belowAlloc _ _)
          have BXa : Blk Xa u1.heap.size 55 #[.int .i64 0, .int .i64 0, .int .i64 0, .int .i64 0, .int .i64 0, .int .i64 0, .int .i64 0, .int .i64 0] := by rw [← hXa]; exact Blk.new _ _ _
          have hsz8 : wa.heap.size ≤ u1.heap.size := HU.size
          go_simp
          try rw [hXa]
          refine hK.out _ _ (HS.out _ bXa) (fun hHeld => ?_)
          clear hK K
          clear hXa
          (try simp only [Act.put, List.setIfInBounds_toArray, List.set_cons_zero, List.set_cons_succ])
          obtain ⟨⟨r0, r1, r2, r3, r4, r5, r6, r7⟩, fr0, fr1, fr2, fr3, fr4, fr5, fr6, fr7⟩ := blkFacts BXa
          refine wpAnyH_ready (rs := [9]) (by kernel_rfl) (by simp) ?_
          refine AllReadyH.cons (o := ⟨none, _, _, _, _, _⟩) rfl (fun K hK => ?_) (AllReadyH.nil)
          go_simp
          refine hK.out _ _ (HS.out _ (below8 bXa hsz8)) (fun hHeld => ?_)
          clear hK K
          (try simp only [Act.put, List.setIfInBounds_toArray, List.set_cons_zero, List.set_cons_succ])
          refine wpAnyH_done (by kernel_rfl) ?_ _
          go_wp2_with fail
          go_meet
          case rel => exact ⟨_, rfl, hsz8, stored8 BXa, below8 bXa hsz8⟩
        · obtain ⟨Xa, hXa⟩ : ∃ Xa, wa.drew.alloc (.cells #[.int .i64 0, .int .i64 0, .int .i64 0, .int .i64 0, .int .i64 0, .int .i64 0, .int .i64 0, .int .i64 0] 55) = Xa := ⟨_, rfl⟩
          have bXa := belowThen HDR.out (show Below wa.drew.heap.size wa.drew Xa by rw [← hXa]; exact belowAlloc _ _)
          have BXa : Blk Xa wa.heap.size 55 #[.int .i64 0, .int .i64 0, .int .i64 0, .int .i64 0, .int .i64 0, .int .i64 0, .int .i64 0, .int .i64 0] := by rw [← hXa]; exact Blk.new wa.drew _ _
          have hsz8 : wa.heap.size ≤ wa.heap.size := Nat.le_refl _
          go_simp
          try rw [hXa]
          refine hK.out _ _ (HS.out _ bXa) (fun hHeld => ?_)
          clear hK K
          clear hXa
          (try simp only [Act.put, List.setIfInBounds_toArray, List.set_cons_zero, List.set_cons_succ])
          refine wpAnyH_ready (rs := [7]) (by kernel_rfl) (by simp) ?_
          refine AllReadyH.cons (o := ⟨some 42, _, _, _, _, _⟩) rfl (fun K hK => ?_) (AllReadyH.nil)
          go_simp
          refine (HFD.out _).mono ?_
          rintro e u1 ⟨rfl, gu⟩
          have HU := belowThen bXa gu
          have BU := BXa.below' gu
          try dsimp only
          refine hK.out _ _ (HS.out _ HU) (fun hHeld => ?_)
          clear hK K
          (try simp only [Act.put, List.setIfInBounds_toArray, List.set_cons_zero, List.set_cons_succ])
          obtain ⟨⟨r0, r1, r2, r3, r4, r5, r6, r7⟩, fr0, fr1, fr2, fr3, fr4, fr5, fr6, fr7⟩ := blkFacts BU
          refine wpAnyH_ready (rs := [9]) (by kernel_rfl) (by simp) ?_
          refine AllReadyH.cons (o := ⟨none, _, _, _, _, _⟩) rfl (fun K hK => ?_) (AllReadyH.nil)
          go_simp
          refine hK.out _ _ (HS.out _ (below8 HU hsz8)) (fun hHeld => ?_)
          clear hK K
          (try simp only [Act.put, List.setIfInBounds_toArray, List.set_cons_zero, List.set_cons_succ])
          refine wpAnyH_done (by kernel_rfl) ?_ _
          go_wp2_with fail
          go_meet
          case rel => exact ⟨_, rfl, hsz8, stored8 BU, below8 HU hsz8⟩
      case rest =>
      obtain ⟨g9, rfl, hg9, hi9, hb9⟩ := hcut
      clear ha8
      have hb8 := belowAlloc wc (.cells #[.int .i64 j0, .int .i64 j1, .int .i64 j2, .int .i64 j3, .int .i64 j4, .int .i64 j5, .int .i64 j6, .int .i64 j7] 55)
      have hv9 := HVC.out.below hb9
      obtain ⟨v', w9, hrun9, hbl9, hfn9, hc9⟩ := (hv9.below hb8).push2 HKL.out (i := ⟨j0, j1, j2, j3, j4, j5, j6, j7⟩) (Blk.new wc _ _)
      rw [← HPU.out] at hfn9
      have HFN9 := Lib.hid hfn9
      obtain ⟨A9, c9, e9, -⟩ := hfn9.row.rd
      rw [fdKLen] at e9
      subst e9
      have hrow : ∀ q, (Value.slice Av k cv).ownBlock = some q → w3.heap.size + 2 ≤ q ∧ q < wa.heap.size := fun q hq => World.ownsRow.lt HVC.out.row q hq
      have HB10 := Lib.hid (belChgF (belowThen (belowThen HBC.out hb9) hb8) hc9 (by have := (belowThen (belowThen HBC.out hb9) hb8).size; omega) fun q hq => ⟨(show q ≠ w3.heap.size by omega), fun e => by have := (hrow q e).1; omega⟩)
      have hK10 := (hc9.block (w3.heap.size + 1) (Nat.lt_of_lt_of_le HLK.out (Nat.le_trans hb9.size hb8.size)) ⟨(show w3.heap.size + 1 ≠ w3.heap.size by omega), fun e => by have := (hrow _ e).1; omega⟩).trans ((HKC.out.below' hb9).below' hb8)
      have hI10 := (hc9.block g9 (Nat.lt_of_lt_of_le hi9.lt hb8.size) ⟨(show g9 ≠ w3.heap.size by have := HLK.out; omega), fun e => by have := (hrow _ e).2; omega⟩).trans (hi9.below' hb8)
      have HK10 := Lib.hid hK10
      have HI10 := Lib.hid hI10
      have f1 := hv9.cells.2.1
      have f9 := hbl9.cell 1
      have fz9 := hbl9.frozen 1
      obtain ⟨x0, x1, x2, x3, x4, x5, x6, x7⟩ := boxFactsW hi9
      have hne9 : g9 ≠ w3.heap.size + 1 := by have := HLK.out; omega
      clear hb9 hi9 hv9 hb8 hbl9 hfn9 hc9 hK10 hI10 hrow
      go_wp2_with (at_builtin; refine Lib.wpList_append_run _ rfl _ _ _ _ rfl _ _ rfl rfl _ _ (hrun9 _) ?_; obtain ⟨y0, y1, y2, y3, y4, y5, y6, y7⟩ := boxFactsW HI10.out)
      refine (HDF.out _).mono ?_
      rintro e w11 ⟨rfl, b11⟩
      have HB11 := Lib.hid (belowThen HB10.out b11)
      have HK11 := Lib.hid (Blk.below' HK10.out b11)
      have HI11 := Lib.hid (Blk.below' HI10.out b11)
      have HV11 := Lib.hid (HFN9.out.below b11)
      clear b11 x0 x1 x2 x3 x4 x5 x6 x7 f1 f9 fz9 hrun9
      obtain ⟨x0, x1, x2, x3, x4, x5, x6, x7⟩ := boxFactsW HI11.out
      have ha8 := (HB11.out.cell (p := ⟨w.heap.size, 1, none⟩) (by have := HSZ1.out; show w.heap.size < _; omega)).trans HA1.out
      cases db
      · have h1 : ¬ j0 = 1 := fun e => by have := HD1.out e; cases this
        have z1 : (j0 == 1) = false := by simpa using h1
        have HKE : Hid (knA C k1 = KB) := Lib.hid (by rw [HKK.out, HKI.out]; simp)
        clear h1
        go_wp2_with fail
        go_roundg g2
        case measure => omega
        case rel => exact ⟨k1, by have := HK1.out; omega, by first | rfl | go_num, ⟨HB11.out, ⟨_, HV11.out⟩, by rw [HKE.out]; exact HK11.out⟩⟩
      · have hdr := HDR1.out rfl
        subst hdr
        obtain ⟨an, ean⟩ : ∃ an : Nat, dr = (an : Int) := ⟨dr.toNat, by omega⟩
        subst ean
        have han : an < 8 := by omega
        have ha0 : (0 : Int) ≤ an := by omega
        have ha1 : (an : Int) < 8 := by omega
        have kn0 : w11.cell? ⟨w3.heap.size + 1, an * 2, none⟩ = some (.bool (KB (an : Int)).isSome) := (HK11.out.cell (an * 2)).trans (knCAt KB han).1
        have kn1 : w11.cell? ⟨w3.heap.size + 1, an * 2 + 1, none⟩ = some (.int .i64 ((KB (an : Int)).getD 0)) := (HK11.out.cell (an * 2 + 1)).trans (knCAt KB han).2
        have fk0 := HK11.out.frozen (an * 2)
        have fk1 := HK11.out.frozen (an * 2 + 1)
        by_cases h1 : j0 = 1
        · subst h1
          have HC := Lib.hid (((chgSetF w11 (w3.heap.size + 1) (an * 2) (.bool true)).trans (chgSetF _ (w3.heap.size + 1) (an * 2 + 1) (.int .i64 0)) fun _ _ h => h).trans (chgSetF _ (w3.heap.size + 1) (an * 2 + 1) (.int .i64 j5)) fun _ _ h => h)
          have HBX := Lib.hid (belChgF HB11.out HC.out (by have := HB11.out.size; omega) fun q hq => (show q ≠ w3.heap.size + 1 by omega))
          have HVX := Lib.hid (HV11.out.chg HC.out (show w3.heap.size ≠ w3.heap.size + 1 by omega) fun q hq _ => (show q ≠ w3.heap.size + 1 by omega))
          have HKX := Lib.hid (((HK11.out.set (an * 2) (.bool true)).set (an * 2 + 1) (.int .i64 0)).set (an * 2 + 1) (.int .i64 j5))
          rw [twiceSet] at HKX
          have hput := knCPut KB han (some j5)
          have HKE : Hid (knA C k1 = knUp KB (an : Int) (some j5)) := Lib.hid (by rw [HKK.out, HKI.out]; simp)
          have HKY : Hid (Blk (((w11.setCell ⟨w3.heap.size + 1, an * 2, none⟩ (.bool true)).setCell ⟨w3.heap.size + 1, an * 2 + 1, none⟩ (.int .i64 0)).setCell ⟨w3.heap.size + 1, an * 2 + 1, none⟩ (.int .i64 j5)) (w3.heap.size + 1) 170 (knC (knA C k1))) := Lib.hid (by rw [HKE.out, ← hput]; exact HKX.out)
          clear hput
          go_wp2_with fail
          go_roundg g2
          case measure => omega
          case rel => exact ⟨k1, by have := HK1.out; omega, by first | rfl | go_num, ⟨HBX.out, ⟨_, HVX.out⟩, HKY.out⟩⟩
        · have z1 : (j0 == 1) = false := by simpa using h1
          have HC := Lib.hid ((chgSetF w11 (w3.heap.size + 1) (an * 2) (.bool false)).trans (chgSetF _ (w3.heap.size + 1) (an * 2 + 1) (.int .i64 0)) fun _ _ h => h)
          have HBX := Lib.hid (belChgF HB11.out HC.out (by have := HB11.out.size; omega) fun q hq => (show q ≠ w3.heap.size + 1 by omega))
          have HVX := Lib.hid (HV11.out.chg HC.out (show w3.heap.size ≠ w3.heap.size + 1 by omega) fun q hq _ => (show q ≠ w3.heap.size + 1 by omega))
          have HKX := Lib.hid ((HK11.out.set (an * 2) (.bool false)).set (an * 2 + 1) (.int .i64 0))
          have hput := knCPut KB han none
          have HKE : Hid (knA C k1 = knUp KB (an : Int) none) := Lib.hid (by rw [HKK.out, HKI.out]; simp [h1])
          have HKY : Hid (Blk ((w11.setCell ⟨w3.heap.size + 1, an * 2, none⟩ (.bool false)).setCell ⟨w3.heap.size + 1, an * 2 + 1, none⟩ (.int .i64 0)) (w3.heap.size + 1) 170 (knC (knA C k1))) := Lib.hid (by rw [HKE.out, ← hput]; exact HKX.out)
          clear hput h1
          go_wp2_with fail
          go_roundg g2
          case measure => omega
          case rel => exact ⟨k1, by have := HK1.out; omega, by first | rfl | go_num, ⟨HBX.out, ⟨_, HVX.out⟩, HKY.out⟩⟩
end Go.Proofs.YtpkagpobobmnfaaGreatDoor
