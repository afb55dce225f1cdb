/-
  The specification's folded: the instruction that replaces an instruction, given what is known in an array.
-/
import Derived.Test.YtnnpkbonbemeaaaDoorVSe
import Derived.Test.YtnnpkbonbemeaaaDoorVRef
import Derived.StillTailTactics
import Derived.Deep.RegionHeld3
import Derived.RegionTactic
import Derived.ChangeAlike
import Derived.Test.YtnnpkbonbemeaaaDoorVSb
import Derived.Test.YtnnpkbonbemeaaaDoorVCfV
namespace Go.Proofs.YtnnpkbonbemeaaaDoor
open Go Go.RowKit

/-- What is known, in the cells of an array of eight. -/
def knC (K : Kn) : Array Value := #[.bool (K 0).isSome, .int .i64 ((K 0).getD 0), .bool (K 1).isSome, .int .i64 ((K 1).getD 0), .bool (K 2).isSome, .int .i64 ((K 2).getD 0), .bool (K 3).isSome, .int .i64 ((K 3).getD 0), .bool (K 4).isSome, .int .i64 ((K 4).getD 0), .bool (K 5).isSome, .int .i64 ((K 5).getD 0), .bool (K 6).isSome, .int .i64 ((K 6).getD 0), .bool (K 7).isSome, .int .i64 ((K 7).getD 0)]
theorem knCAt (K : Kn) {r : Nat} (h : r < 8) : (knC K)[r * 2]? = some (.bool (K (r : Int)).isSome) ∧ (knC K)[r * 2 + 1]? = some (.int .i64 ((K (r : Int)).getD 0)) := by
  have hc : r = 0 ∨ r = 1 ∨ r = 2 ∨ r = 3 ∨ r = 4 ∨ r = 5 ∨ r = 6 ∨ r = 7 := by omega
  rcases hc with rfl | rfl | rfl | rfl | rfl | rfl | rfl | rfl <;> exact ⟨rfl, rfl⟩
theorem fdK2 {K : Kn} {nx : Int} {i : I8} (h : i.op = 2) : fdI K nx i = if (K i.b).isSome = true then cst i.a ((K i.b).getD 0) else i := by
  unfold fdI
  rw [if_pos h]
  cases K i.b <;> rfl
theorem fdK3 {K : Kn} {nx : Int} {i : I8} (h : i.op = 3) : fdI K nx i = if (K i.b).isSome = true ∧ (K i.c).isSome = true then cst i.a (opI i.fn ((K i.b).getD 0) ((K i.c).getD 0)) else i := by
  unfold fdI
  rw [if_neg (by omega), if_pos h]
  cases K i.b <;> cases K i.c <;> rfl
theorem fdK5 {K : Kn} {nx : Int} {i : I8} (h : i.op = 5) : fdI K nx i = if (K i.b).isSome = true then (if (K i.b).getD 0 = 0 then jmpTo nx else jmpTo i.n) else i := by
  unfold fdI
  rw [if_neg (by omega), if_neg (by omega), if_pos h]
  cases K i.b <;> rfl
theorem fdK6 {K : Kn} {nx : Int} {i : I8} (h : i.op = 6) : fdI K nx i = if (K i.b).isSome = true then (if (K i.b).getD 0 = 0 then i else jmpTo nx) else i := by
  unfold fdI
  rw [if_neg (by omega), if_neg (by omega), if_neg (by omega), if_pos h]
  cases K i.b <;> rfl
theorem fdK0 {K : Kn} {nx : Int} {i : I8} (h2 : i.op ≠ 2) (h3 : i.op ≠ 3) (h5 : i.op ≠ 5) (h6 : i.op ≠ 6) : fdI K nx i = i := by
  unfold fdI
  rw [if_neg h2, if_neg h3, if_neg h5, if_neg h6]
set_option maxRecDepth 100000 in
set_option maxHeartbeats 8000000 in
theorem rFolded (K : Kn) (i : I8) (hc : i.chk = 0) (x : Nat) (hx : x ≤ 1000) (w : World) :
    Calls Tryd.prog 38 #[i.val, .int .i64 (x : Int), .agg (knC K)] w (GivesI (fdI K ((x + 1 : Nat) : Int) i) w) := by
  have hg := I8.good hc
  obtain ⟨R, hR⟩ : ∃ R, fdI K ((x + 1 : Nat) : Int) i = R := ⟨_, rfl⟩
  have H2 := Lib.hid (fun h => (fdK2 (K := K) (nx := ((x + 1 : Nat) : Int)) (i := i) h).symm.trans hR)
  have H3 := Lib.hid (fun h => (fdK3 (K := K) (nx := ((x + 1 : Nat) : Int)) (i := i) h).symm.trans hR)
  have H5 := Lib.hid (fun h => (fdK5 (K := K) (nx := ((x + 1 : Nat) : Int)) (i := i) h).symm.trans hR)
  have H6 := Lib.hid (fun h => (fdK6 (K := K) (nx := ((x + 1 : Nat) : Int)) (i := i) h).symm.trans hR)
  have H0 := Lib.hid (fun h2 h3 h5 h6 => (fdK0 (K := K) (nx := ((x + 1 : Nat) : Int)) (i := i) h2 h3 h5 h6).symm.trans hR)
  rw [hR]
  obtain ⟨x1, hx1⟩ : ∃ x1, x + 1 = x1 := ⟨_, rfl⟩
  have hwx : IntKind.i64.wrap ((x : Int) + 1) = (x1 : Int) := by rw [IntKind.wrap_i64]; omega
  rw [hx1] at H5 H6
  have hb := hg.b
  have hcc := hg.c
  clear hR hc hg hx1
  obtain ⟨op, ra, rb, rc, obj, m, fn, ord⟩ := i
  simp only at H2 H3 H5 H6 H0 hb hcc
  obtain ⟨b, eb⟩ : ∃ b : Nat, rb = (b : Int) := ⟨rb.toNat, by omega⟩
  obtain ⟨c, ec⟩ : ∃ c : Nat, rc = (c : Int) := ⟨rc.toNat, by omega⟩
  subst eb ec
  have hb8 : b < 8 := by omega
  have hc8 : c < 8 := by omega
  have hb0 : (0 : Int) ≤ b := by omega
  have hb1 : (b : Int) < 8 := by omega
  have hc0 : (0 : Int) ≤ c := by omega
  have hc1 : (c : Int) < 8 := by omega
  obtain ⟨W, hW⟩ : ∃ W, (((w.alloc (.cells #[.int .i64 op, .int .i64 ra, .int .i64 (b : Int), .int .i64 (c : Int), .int .i64 obj, .int .i64 m, .int .i64 fn, .int .i64 ord] 47)).alloc (.cells (knC K) 78)).alloc (.cells #[.int .i64 0, .int .i64 0, .int .i64 0, .int .i64 0, .int .i64 0, .int .i64 0, .int .i64 0, .int .i64 0] 47)).alloc (.cells #[.int .i64 4, .int .i64 0, .int .i64 0, .int .i64 0, .int .i64 0, .int .i64 (x1 : Int), .int .i64 0, .int .i64 0] 47) = W := ⟨_, rfl⟩
  obtain ⟨⟨h1, h2, h3, h4⟩, hbW⟩ := four8 w _ _ _ _ hW
  have HB1 := Lib.hid (show Blk W w.heap.size 47 _ from h1)
  have hB2 : Blk W (w.heap.size + 1) 78 (knC K) := h2
  have HB3 := Lib.hid (show Blk W (w.heap.size + 1 + 1) 47 _ from h3)
  have HB4 := Lib.hid (show Blk W (w.heap.size + 1 + 1 + 1) 47 _ from h4)
  have kb := (hB2.cell (b * 2)).trans (knCAt K hb8).1
  have vb := (hB2.cell (b * 2 + 1)).trans (knCAt K hb8).2
  have kc := (hB2.cell (c * 2)).trans (knCAt K hc8).1
  have vc := (hB2.cell (c * 2 + 1)).trans (knCAt K hc8).2
  obtain ⟨pb, hpb⟩ : ∃ p, (K (b : Int)).isSome = p := ⟨_, rfl⟩
  obtain ⟨ub, hub⟩ : ∃ p, (K (b : Int)).getD 0 = p := ⟨_, rfl⟩
  obtain ⟨pc, hpc⟩ : ∃ p, (K (c : Int)).isSome = p := ⟨_, rfl⟩
  obtain ⟨uc, huc⟩ : ∃ p, (K (c : Int)).getD 0 = p := ⟨_, rfl⟩
  rw [hpb] at kb H2 H3 H5 H6
  rw [hub] at vb H2 H3 H5 H6
  rw [hpc] at kc H3
  rw [huc] at vc H3
  have HW := Lib.hid hW
  have HBW := Lib.hid hbW
  obtain ⟨⟨a0, a1, a2, a3, a4, a5, a6, a7⟩, -⟩ := blkFacts HB1.out
  obtain ⟨⟨r0, r1, r2, r3, r4, r5, r6, r7⟩, fr0, fr1, fr2, fr3, fr4, fr5, fr6, fr7⟩ := blkFacts HB3.out
  obtain ⟨⟨n0, n1, n2, n3, n4, n5, n6, n7⟩, -⟩ := blkFacts HB4.out
  clear h1 h2 h3 h4 hW hbW hB2 hpb hub hpc huc hb hcc
  have hlt : w.heap.size + 1 < W.heap.size := HB3.out.lt |> fun h => by omega
  have HS := Lib.hid (fun X (hX : Below W.heap.size W X) => (⟨hX, (hX.cell (p := ⟨w.heap.size, 1, none⟩) (show w.heap.size < W.heap.size by omega)).trans a1, (hX.cell (p := ⟨w.heap.size, 2, none⟩) (show w.heap.size < W.heap.size by omega)).trans a2, (hX.cell (p := ⟨w.heap.size, 3, none⟩) (show w.heap.size < W.heap.size by omega)).trans a3, (hX.cell (p := ⟨w.heap.size, 6, none⟩) (show w.heap.size < W.heap.size by omega)).trans a6, (hX.cell (p := ⟨w.heap.size + 1, b * 2 + 1, none⟩) hlt).trans vb, (hX.cell (p := ⟨w.heap.size + 1, c * 2 + 1, none⟩) hlt).trans vc⟩ :
    Below W.heap.size W X ∧ X.cell? ⟨w.heap.size, 1, none⟩ = some (.int .i64 ra) ∧ X.cell? ⟨w.heap.size, 2, none⟩ = some (.int .i64 (b : Int)) ∧ X.cell? ⟨w.heap.size, 3, none⟩ = some (.int .i64 (c : Int)) ∧ X.cell? ⟨w.heap.size, 6, none⟩ = some (.int .i64 fn) ∧ X.cell? ⟨w.heap.size + 1, b * 2 + 1, none⟩ = some (.int .i64 ub) ∧ X.cell? ⟨w.heap.size + 1, c * 2 + 1, none⟩ = some (.int .i64 uc)))
  have S0 := HS.out W.drew ((Below.refl _ W).drew)
  unfold I8.val
  simp only
  generalize knC K = KC at HW
  by_cases h2 : op = 2
  · have HE := Lib.hid (H2.out h2)
    subst h2
    cases pb
    · simp only [Bool.false_eq_true, if_false] at HE
      go_enter Tryd.func38, Tryd.ntmps38
      go_upto_region 2 with fail
      rw [HW.out]
      go_wp2_with fail
      refine bodyPost_ret ((stored8 HB3.out).res rfl _ rfl Tryd.underlying47 rfl infoInst) rfl ?_
      exact givesI rfl (by rw [← HE.out]; rfl) (below8 HBW.out (by omega))
    · simp only [if_true] at HE
      go_enter Tryd.func38, Tryd.ntmps38
      go_upto_region 2 with fail
      rw [HW.out]
      go_wp2_with fail
      go_still_tail 8, (by kernel_rfl)
      change wpList _ _ _ _ _ W.drew
      obtain ⟨w2, hw2⟩ : ∃ w2, W.drew = w2 := ⟨_, rfl⟩
      have HB12 := Lib.hid (show Blk w2 w.heap.size 47 _ by rw [← hw2]; exact HB1.out.drew)
      have HB32 := Lib.hid (show Blk w2 (w.heap.size + 1 + 1) 47 _ by rw [← hw2]; exact HB3.out.drew)
      have vb2 : w2.cell? ⟨w.heap.size + 1, b * 2 + 1, none⟩ = some (.int .i64 ub) := by rw [← hw2]; exact vb
      have HG2 := Lib.hid (show Below w.heap.size w w2 by rw [← hw2]; exact HBW.out.drew)
      rw [hw2]
      clear S0 HS hw2 a0 a1 a2 a3 a4 a5 a6 a7 r0 r1 r2 r3 r4 r5 r6 r7 fr0 fr1 fr2 fr3 fr4 fr5 fr6 fr7 n0 n1 n2 n3 n4 n5 n6 n7 kb vb kc vc
      obtain ⟨⟨a0, a1, a2, a3, a4, a5, a6, a7⟩, -⟩ := blkFacts HB12.out
      obtain ⟨⟨r0, r1, r2, r3, r4, r5, r6, r7⟩, fr0, fr1, fr2, fr3, fr4, fr5, fr6, fr7⟩ := blkFacts HB32.out
      go_wp2_with fail
      refine bodyPost_ret ((stored8 HB32.out).res rfl _ rfl Tryd.underlying47 rfl infoInst) rfl ?_
      exact givesI rfl (by rw [← HE.out]; rfl) (below8 HG2.out (by omega))
  have z2 : (op == 2) = false := by simpa using h2
  by_cases h3 : op = 3
  · have HE := Lib.hid (H3.out h3)
    subst h3
    cases pb
    · simp only [Bool.false_eq_true, false_and, if_false] at HE
      go_enter Tryd.func38, Tryd.ntmps38
      go_upto_region 2 with fail
      rw [HW.out]
      go_wp2_with fail
      refine bodyPost_ret ((stored8 HB3.out).res rfl _ rfl Tryd.underlying47 rfl infoInst) rfl ?_
      exact givesI rfl (by rw [← HE.out]; rfl) (below8 HBW.out (by omega))
    cases pc
    · simp only [Bool.false_eq_true, and_false, if_false] at HE
      go_enter Tryd.func38, Tryd.ntmps38
      go_upto_region 2 with fail
      rw [HW.out]
      go_wp2_with fail
      refine bodyPost_ret ((stored8 HB3.out).res rfl _ rfl Tryd.underlying47 rfl infoInst) rfl ?_
      exact givesI rfl (by rw [← HE.out]; rfl) (below8 HBW.out (by omega))
    · simp only [and_self, if_true] at HE
      have HAP := Lib.hid (fun X => rApply fn ub uc X)
      obtain ⟨o0, ho0⟩ : ∃ o, opI fn ub uc = o := ⟨_, rfl⟩
      obtain ⟨o1, ho1⟩ : ∃ o, opE fn = o := ⟨_, rfl⟩
      rw [ho0, ho1] at HAP
      rw [ho0] at HE
      clear ho0 ho1
      go_enter Tryd.func38, Tryd.ntmps38
      go_upto_region 2 with fail
      rw [HW.out]
      go_wp2_with fail
      go_region_held3 (fun X => Below W.heap.size W X ∧ X.cell? ⟨w.heap.size, 1, none⟩ = some (.int .i64 ra) ∧ X.cell? ⟨w.heap.size, 2, none⟩ = some (.int .i64 (b : Int)) ∧ X.cell? ⟨w.heap.size, 3, none⟩ = some (.int .i64 (c : Int)) ∧ X.cell? ⟨w.heap.size, 6, none⟩ = some (.int .i64 fn) ∧ X.cell? ⟨w.heap.size + 1, b * 2 + 1, none⟩ = some (.int .i64 ub) ∧ X.cell? ⟨w.heap.size + 1, c * 2 + 1, none⟩ = some (.int .i64 uc))
        (first | with_reducible assumption | with_reducible exact HS.out _ G2 | exact HS.out _ (below8 G2 (Nat.le_refl _)))
        (first
          | (go_at_call 32; refine (HAP.out _).mono ?_; rintro e w2 ⟨rfl, b2⟩; have G2 := belowThen ((Below.refl _ W).drew) b2))
      have HB32 := Lib.hid (HB3.out.drew.below' b2)
      have HB12 := Lib.hid (HB1.out.drew.below' b2)
      have HG2 := Lib.hid (belowThen HBW.out.drew b2)
      clear a0 a1 a2 a3 a4 a5 a6 a7 r0 r1 r2 r3 r4 r5 r6 r7 fr0 fr1 fr2 fr3 fr4 fr5 fr6 fr7 b2
      obtain ⟨⟨a0, a1, a2, a3, a4, a5, a6, a7⟩, -⟩ := blkFacts HB12.out
      obtain ⟨⟨r0, r1, r2, r3, r4, r5, r6, r7⟩, fr0, fr1, fr2, fr3, fr4, fr5, fr6, fr7⟩ := blkFacts HB32.out
      go_wp2_with fail
      refine bodyPost_ret ((stored8 HB32.out).res rfl _ rfl Tryd.underlying47 rfl infoInst) rfl ?_
      exact givesI rfl (by rw [← HE.out]; rfl) (below8 HG2.out (by omega))
  have z3 : (op == 3) = false := by simpa using h3
  by_cases h5 : op = 5
  · have HE := Lib.hid (H5.out h5)
    subst h5
    cases pb
    · simp only [Bool.false_eq_true, if_false] at HE
      go_enter Tryd.func38, Tryd.ntmps38
      go_upto_region 2 with fail
      rw [HW.out]
      go_wp2_with fail
      refine bodyPost_ret ((stored8 HB3.out).res rfl _ rfl Tryd.underlying47 rfl infoInst) rfl ?_
      exact givesI rfl (by rw [← HE.out]; rfl) (below8 HBW.out (by omega))
    · simp only [if_true] at HE
      by_cases hz : ub = 0
      · rw [if_pos hz] at HE
        subst hz
        go_enter Tryd.func38, Tryd.ntmps38
        go_upto_region 2 with fail
        rw [HW.out]
        go_wp2_with fail
        refine bodyPost_ret ((stored8 HB3.out).res rfl _ rfl Tryd.underlying47 rfl infoInst) rfl ?_
        exact givesI rfl (by rw [← HE.out]; rfl) (below8 HBW.out (by omega))
      · rw [if_neg hz] at HE
        have zz : (ub != 0) = true := by simpa using hz
        clear hz
        go_enter Tryd.func38, Tryd.ntmps38
        go_upto_region 2 with fail
        rw [HW.out]
        go_wp2_with fail
        refine bodyPost_ret ((stored8 HB3.out).res rfl _ rfl Tryd.underlying47 rfl infoInst) rfl ?_
        exact givesI rfl (by rw [← HE.out]; rfl) (below8 HBW.out (by omega))
  have z5 : (op == 5) = false := by simpa using h5
  by_cases h6 : op = 6
  · have HE := Lib.hid (H6.out h6)
    subst h6
    cases pb
    · simp only [Bool.false_eq_true, if_false] at HE
      go_enter Tryd.func38, Tryd.ntmps38
      go_upto_region 2 with fail
      rw [HW.out]
      go_wp2_with fail
      refine bodyPost_ret ((stored8 HB3.out).res rfl _ rfl Tryd.underlying47 rfl infoInst) rfl ?_
      exact givesI rfl (by rw [← HE.out]; rfl) (below8 HBW.out (by omega))
    · simp only [if_true] at HE
      by_cases hz : ub = 0
      · rw [if_pos hz] at HE
        subst hz
        go_enter Tryd.func38, Tryd.ntmps38
        go_upto_region 2 with fail
        rw [HW.out]
        go_wp2_with fail
        refine bodyPost_ret ((stored8 HB3.out).res rfl _ rfl Tryd.underlying47 rfl infoInst) rfl ?_
        exact givesI rfl (by rw [← HE.out]; rfl) (below8 HBW.out (by omega))
      · rw [if_neg hz] at HE
        have zz : (ub != 0) = true := by simpa using hz
        clear hz
        go_enter Tryd.func38, Tryd.ntmps38
        go_upto_region 2 with fail
        rw [HW.out]
        go_wp2_with fail
        refine bodyPost_ret ((stored8 HB3.out).res rfl _ rfl Tryd.underlying47 rfl infoInst) rfl ?_
        exact givesI rfl (by rw [← HE.out]; rfl) (below8 HBW.out (by omega))
  have z6 : (op == 6) = false := by simpa using h6
  have HE := Lib.hid (H0.out h2 h3 h5 h6)
  clear h2 h3 h5 h6
  go_enter Tryd.func38, Tryd.ntmps38
  go_upto_region 2 with fail
  rw [HW.out]
  go_wp2_with fail
  refine bodyPost_ret ((stored8 HB3.out).res rfl _ rfl Tryd.underlying47 rfl infoInst) rfl ?_
  exact givesI rfl (by rw [← HE.out]; rfl) (below8 HBW.out (by omega))
end Go.Proofs.YtnnpkbonbemeaaaDoor

namespace Go.Proofs.YtnnpkbonbemeaaaDoor
open Go Go.RowKit

theorem ldRBnd {C : List I8} (hok : CfOk C) {x : Int} (h : x ∈ ldR C) : 0 ≤ x ∧ x < C.length := by
  unfold ldR at h
  rw [if_pos (cfMk hok)] at h
  obtain ⟨h1, h2⟩ := memMin9.1 h
  have h3 := ldBnd hok (Nat.le_refl _) h1
  rw [List.mem_singleton] at h2
  omega
/-- Is x among the first k? -/
def ldT (l : List Int) (k x : Nat) : Bool := decide ((x : Int) ∈ l.take k)
theorem ldT0 (l : List Int) (x : Nat) : ldT l 0 x = false := by simp [ldT]
theorem ldTS {l : List Int} {k : Nat} (hk : k < l.length) {y : Nat} (hy : l[k] = (y : Int)) (x : Nat) : ldT l (k + 1) x = with_ (ldT l k) y x := by
  unfold ldT with_
  rw [List.take_succ_eq_append_getElem hk, hy, Bool.eq_iff_iff, Bool.or_eq_true, decide_eq_true_iff, decide_eq_true_iff, decide_eq_true_iff, List.mem_append, List.mem_singleton, Int.ofNat_inj]
def GivesLd (C : List I8) (n : Nat) (w : World) (e : Ending) (w' : World) : Prop := ∃ gb E, e = .returned (.slice (some ⟨gb, 0, none⟩) n n) ∧ RowB w' gb n E ∧ (∀ x, x < n → E x = ldQ C x) ∧ w.heap.size ≤ gb ∧ Below w.heap.size w w'
set_option maxRecDepth 100000 in
set_option maxHeartbeats 4000000 in
theorem rLead15 (nm : ByteArray) (C : List I8) (hc : cfE C = 0) (n : Nat) (hn : C.length = n) (A : Option Addr) (c : Nat) (w : World) (h : CdW w A c C) :
    Calls Tryd.prog 37 #[fnV nm A n c] w (GivesLd C n w) := by
  obtain ⟨W, hW⟩ : ∃ W, w.alloc (.cells #[.string nm, .slice A n c] 42) = W := ⟨_, rfl⟩
  have hbW : Below w.heap.size w W := by rw [← hW]; exact belowAlloc w _
  have hB : Blk W w.heap.size 42 #[.string nm, .slice A n c] := by rw [← hW]; exact Blk.new w _ _
  have HK := Lib.hid (fun X (hX : Below W.heap.size W X) => (⟨(hB.below' hX).cell 0, (hB.below' hX).cell 1⟩ : X.cell? ⟨w.heap.size, 0, none⟩ = some (.string nm) ∧ X.cell? ⟨w.heap.size, 1, none⟩ = some (.slice A n c)))
  obtain ⟨k0, k1⟩ := HK.out W (Below.refl _ _)
  have hcd := h.below hbW
  have HLE := Lib.hid (fun X (hX : Below W.heap.size W X) => rLeaders nm C n hn A c X (hcd.below hX))
  rw [hc] at HLE
  have hok := cfOk hc
  have h64 := hok.len
  have hle := h.rd.le
  have hmx := h.rd.max
  rw [hn] at hle h64
  unfold maxLen at hmx
  have HBD := Lib.hid (fun x (hx : x ∈ ldR C) => (by have := ldRBnd hok hx; omega : 0 ≤ x ∧ x < n))
  obtain ⟨q, hq⟩ : ∃ q, (ldR C).length = q := ⟨_, rfl⟩
  have HQ := Lib.hid hq
  obtain ⟨i0, hi, hz0, hz1, hz2⟩ := info_parts infoBool9
  have HBY := Lib.hid (show i0.bytes * n ≤ 281474976710656 by rw [hz2]; omega)
  have HNM := Lib.hid (show n ≤ maxLen by unfold maxLen; omega)
  have HWE := Lib.hid hW
  have HBW := Lib.hid hbW
  have HQL : Hid (∀ x, ldT (ldR C) q x = ldQ C x) := Lib.hid fun x => by unfold ldT ldQ; rw [← hq, List.take_length]
  unfold fnV at HLE ⊢
  clear h hW hbW hB hcd hok hc hn
  go_enter Tryd.func37, Tryd.ntmps37
  go_wp2_with (first
    | (at_make; rw [HWE.out]; refine wpList_make_full _ rfl (.tmp 9) (.tmp 9) 74 rfl 0 4 i0 _ 1 Tryd.underlying74 hi hz0 hz1 .i64 .i64 _ _ n rfl rfl rfl rfl HBY.out HNM.out (Nat.zero_le _) ?_; intro w2 o2 g2; have hrow := RowB.made o2; have hbe : Below W.heap.size W w2 := (Below.refl _ W).grown g2 (Nat.le_refl _) (fun k hk => by cases hk); have HR0 := Lib.hid hrow; have HBE := Lib.hid hbe; have HL2 := Lib.hid (HLE.out w2 hbe); clear k0 k1; obtain ⟨k0, k1⟩ := HK.out w2 hbe; clear o2 g2 hrow hbe)
    | fail)
  refine HL2.out.mono ?_
  rintro e w3 ⟨A1, c1, rfl, r1, b1⟩
  rw [hq]
  have HRW0 := Lib.hid (HR0.out.chg (Chg.ofBelow b1 fun _ => True) trivial)
  have HB30 := Lib.hid (belowThen HBE.out b1)
  have HRX : Hid (∀ X, Chg w3 X (fun b => b ≠ W.heap.size) → Rd X A1 c1 (ldR C)) := Lib.hid fun X hX => r1.chg hX fun ad e hl => by
    obtain ⟨b, off, e2, _, hc⟩ := rdPlain9 r1 hl
    rw [e] at e2
    injection e2 with e2
    subst e2
    exact HRW0.out.bools (a := ⟨b, off + 0, none⟩) (hc 0 hl) (fun b h => by cases h)
  have h1l := r1.le
  have h1m := r1.max
  rw [hq] at h1l
  unfold maxLen at h1m
  have HBD2 : Hid (∀ k (hk : k < q), ∃ y : Nat, (ldR C).getD k 0 = (y : Int) ∧ y < n ∧ ∀ x, ldT (ldR C) (k + 1) x = with_ (ldT (ldR C) k) y x) := Lib.hid fun k hk => by
    have hkl : k < (ldR C).length := by rw [HQ.out]; exact hk
    have h1 := HBD.out _ (List.getElem_mem hkl)
    have e : (ldR C)[k] = (((ldR C)[k].toNat : Nat) : Int) := by omega
    exact ⟨(ldR C)[k].toNat, by rw [← e]; simp [List.getD, hkl], by omega, fun x => ldTS hkl e x⟩
  have HS0 : Hid (RowB w3 W.heap.size n (ldT (ldR C) 0)) := Lib.hid (by
    have : ldT (ldR C) 0 = fun _ => false := funext fun x => ldT0 _ x
    rw [this]; exact HRW0.out)
  have HQP : Hid ((ldR C).length = q) := Lib.hid HQ.out
  generalize ldR C = l at HRX HBD2 HS0 HQL HQP
  clear k0 k1 r1 b1 hq HRW0 HL2 HR0
  go_wp2
  go_loopg [6] q (fun g i X => ∃ k : Nat, k + g = q ∧ i = .int .i64 k ∧ Hid (RowB X W.heap.size n (ldT l k)) ∧ Hid (Chg w3 X (fun b => b ≠ W.heap.size)))
  case atStart => exact ⟨0, by omega, rfl, HS0, Lib.hid (Chg.refl _ _)⟩
  case round =>
    obtain ⟨k, hk, rfl, HR, HC⟩ := hrel
    cases gk with
    | zero =>
      have hkq : k = q := by omega
      subst hkq
      have hjz : ¬ ((k : Int) < k) := by omega
      have HF := Lib.hid (belChgF HB30.out HC.out (by have := HB30.out.size; omega) fun b hb => (show b ≠ W.heap.size by omega))
      go_wp2
      go_ret
      exact ⟨W.heap.size, _, rfl, HR.out, fun x _ => HQL.out x, HBW.out.size, belowThen HBW.out HF.out⟩
    | succ g2 =>
      have hkq : k < q := by omega
      have hk0 : (0 : Int) ≤ k := by omega
      have hk1 : (k : Int) < q := by omega
      obtain ⟨y, hy, hyn, hS⟩ := HBD2.out k hkq
      obtain ⟨b, off, eA, _, hc⟩ := rdPlain9 (HRX.out wr HC.out) (by rw [HQP.out]; omega)
      have hcy := hc k (by rw [HQP.out]; exact hkq)
      rw [hy] at hcy
      have hy0 : (0 : Int) ≤ y := by omega
      have hy1 : (y : Int) < n := by omega
      have hce := HR.out.cell hyn
      have hfz := HR.out.frozen y
      have HR2 : Hid (RowB (wr.setCell ⟨W.heap.size, y, none⟩ (.bool true)) W.heap.size n (ldT l (k + 1))) := Lib.hid (by
        have : ldT l (k + 1) = with_ (ldT l k) y := funext hS
        rw [this]; exact HR.out.set y)
      have HC2 := Lib.hid (HC.out.trans (chgSetF wr W.heap.size y (.bool true)) fun _ _ h => h)
      subst eA
      clear hc hy hS
      go_wp2
      go_roundg g2
      case measure => omega
      case rel => exact ⟨k + 1, by omega, by go_num, HR2, HC2⟩
end Go.Proofs.YtnnpkbonbemeaaaDoor
