/-
  The law LivenessStep returns true for every function, where the tables are laid.
-/
import Derived.Test.YtjdimlofdblgdaaDoorMLfY
import Derived.Test.YtjdimlofdblgdaaDoorMLf4
namespace Go.Proofs.YtjdimlofdblgdaaDoor
open Go Go.RowKit Go.Shelf
attribute [local go_sem] Oper.semAt_some

/-- What an instruction that writes leaves of the registers behind it. -/
def stepL (p : Bool) (S : List Int) (R : Int) : List Int := match p with
  | true => min' S [R]
  | false => S
theorem stepEq {C : List I8} (hc : cfE C = 0) {k : Nat} (hk : k < C.length) : uni (stepL C[k].dfB (rgL (anyB C false k)) C[k].dfR) C[k].uses = rgL (lvB C false k) := by
  have hok := cfOk hc
  have hR : Regs (lvB C false k) := fun r hr => lvRg hok hr
  have hS : Regs (anyB C false k) := fun r hr => by
    unfold anyB at hr
    obtain ⟨y, _, hy⟩ := List.any_eq_true.1 hr
    exact lvRg hok hy
  refine (mkEq rgLSrt fun r => ?_).symm
  rw [rgLMem hR, lvFix hk, List.mem_append]
  unfold lfF
  rw [rdAt hk, wrAt hk, Bool.or_eq_true, Bool.and_eq_true, decide_eq_true_iff]
  have ha : ((sc C k).any fun y => lvB C false y r) = anyB C false k r := rfl
  rw [ha]
  cases hp : C[k].dfB with
  | false =>
    show _ ↔ r ∈ rgL (anyB C false k) ∨ _
    rw [rgLMem hS]
    simp [or_comm]
  | true =>
    show _ ↔ r ∈ min' (rgL (anyB C false k)) [C[k].dfR] ∨ _
    rw [memMin, rgLMem hS]
    simp only [Bool.true_and, Bool.not_eq_true', decide_eq_false_iff_not, List.mem_singleton]
    constructor
    · rintro (h | ⟨h1, h2⟩)
      · exact .inr h
      · exact .inl ⟨h2, fun e => h1 e.symm⟩
    · rintro (⟨h1, h2⟩ | h)
      · exact .inr ⟨fun e => h2 e.symm, h1⟩
      · exact .inl h
def GivesEl (l : List Int) (q : Nat) (k : Int) (w : World) (e : Ending) (w' : World) : Prop := ∃ A c, e = .returned (.tuple #[.slice A q c, .int .i64 k]) ∧ Rd w' A c l ∧ Below w.heap.size w w'
theorem toEl {l : List Int} {q : Nat} {k : Int} {w w' : World} {e : Ending} (hq : l.length = q) (h : GivesE9 l k w e w') : GivesEl l q k w e w' := by
  subst hq; exact h
set_option maxRecDepth 100000 in
set_option maxHeartbeats 40000000 in
set_option linter.unusedSimpArgs false in
theorem lawStep (nm : ByteArray) (C : List I8) (n : Nat) (hn : C.length = n) (A : Option Addr) (c : Nat) (w : World) (h : CdW w A c C) :
    Calls Tryd.prog 6 #[fnV nm A n c] w (LawOkL w) := by
  obtain ⟨W, hW⟩ : ∃ W, w.alloc (.cells #[.string nm, .slice A n c] 24) = W := ⟨_, rfl⟩
  have hbW : Below w.heap.size w W := by rw [← hW]; exact belowAlloc w _
  have hB : Blk W w.heap.size 24 #[.string nm, .slice A n c] := by rw [← hW]; exact Blk.new w _ _
  have k0 : W.cell? ⟨w.heap.size, 0, none⟩ = some (.string nm) := hB.cell 0
  have k1 : W.cell? ⟨w.heap.size, 1, none⟩ = some (.slice A n c) := hB.cell 1
  have HK := Lib.hid (fun X (hX : Below W.heap.size W X) => (⟨(hB.below' hX).cell 0, (hB.below' hX).cell 1⟩ : X.cell? ⟨w.heap.size, 0, none⟩ = some (.string nm) ∧ X.cell? ⟨w.heap.size, 1, none⟩ = some (.slice A n c)))
  have hcd := h.below hbW
  have HCD := Lib.hid (fun X (hX : Below W.heap.size W X) => hcd.below hX)
  have HEX := Lib.hid (fun X (hX : Below W.heap.size W X) => awakeL X (hcd.ld.below hX))
  have HRE := Lib.hid (rReach nm C n hn A c W hcd)
  have HBE := Lib.hid (fun X (hX : Below W.heap.size W X) => iBeforeL nm C n hn A c X (hcd.below hX))
  have HAF := Lib.hid (fun (k : Nat) X (hX : Below W.heap.size W X) => iAfterC nm C n hn (k : Int) A c X (hcd.below hX))
  have HW := Lib.hid hW
  have HBW := Lib.hid hbW
  have HN := Lib.hid hn
  have hle := h.rd.le
  have hmx := h.rd.max
  rw [hn] at hle
  unfold maxLen at hmx
  unfold fnV at HRE HBE HAF ⊢
  clear h hB hW hbW hcd hn
  refine (callsIn_wide (n := 7)).1 ?_
  refine callsIn_of_wp Tryd.func6 rfl trivial ?_ rfl
  simp only [Tryd.ntmps6, List.size_toArray, List.length_cons, List.length_nil, Nat.reduceAdd, Nat.reduceSub, Array.replicate_succ, Array.replicate_zero, List.push_toArray, List.append_toArray, List.nil_append, List.cons_append]
  gi_wp2_with fail
  rw [HW.out]
  refine ⟨trivial, (callsIn_wide.2 HRE.out).mono ?_⟩
  rintro e w1 ⟨A1, c1, rfl, _, b1⟩
  obtain ⟨q1, hq1⟩ : ∃ q1, (rhR C).length = q1 := ⟨_, rfl⟩
  rw [hq1]
  have HB1 := Lib.hid b1
  obtain ⟨m0, m1⟩ := HK.out w1 b1
  have HX1 := Lib.hid (HEX.out w1 b1)
  clear b1 k0 k1 hq1
  by_cases hbig : 30 < n
  · have d1 : decide ((30 : Int) < (n : Int)) = true := decide_eq_true (by omega)
    gi_wp2_with fail
    all_goals first
      | (exfalso; omega)
      | skip
    refine ⟨trivial, (callsIn_wide.2 HX1.out).mono ?_⟩
    rintro e w2 ⟨rfl, b2⟩
    gi_wp2
    go_ret
    exact ⟨rfl, belowThen HBW.out (belowThen HB1.out b2)⟩
  have d1 : decide ((30 : Int) < (n : Int)) = false := decide_eq_false (by omega)
  by_cases hc : cfE C = 0
  rotate_left
  · have hne : (cfE C != 0) = true := by simpa using hc
    gi_wp2_with fail
    all_goals first
      | (exfalso; omega)
      | skip
    refine ⟨trivial, (callsIn_wide.2 HX1.out).mono ?_⟩
    rintro e w2 ⟨rfl, b2⟩
    gi_wp2
    go_ret
    exact ⟨rfl, belowThen HBW.out (belowThen HB1.out b2)⟩
  have e1 : beR C = beL C := by unfold beR; rw [if_pos hc]
  have HBL := Lib.hid (show (beL C).length = n by unfold beL; rw [List.length_map, List.length_range]; exact HN.out)
  rw [e1, hc] at HBE
  rw [hc]
  have HHC := Lib.hid hc
  have HBC := Lib.hid (HBE.out w1 HB1.out)
  clear e1 hc
  gi_wp2_with fail
  all_goals first
    | (exfalso; omega)
    | skip
  refine ⟨trivial, (callsIn_wide.2 HBC.out).mono ?_⟩
  rintro e w2 ⟨A2, c2, rfl, r2, b2⟩
  rw [HBL.out]
  have HR2 := Lib.hid (fun X (hX : Below w2.heap.size w2 X) => r2.below hX)
  have HB2 := Lib.hid (belowThen HB1.out b2)
  have hle2 := r2.le
  have hmx2 := r2.max
  rw [HBL.out] at hle2
  unfold maxLen at hmx2
  clear r2 b2 m0 m1
  obtain ⟨m0, m1⟩ := HK.out w2 HB2.out
  gi_wp2_with fail
  clear m0 m1
  gi_loopw [7] (fun i X => ∃ k : Nat, k ≤ n ∧ i = .int .i64 k ∧ Hid (Below w2.heap.size w2 X)) (fun i _ => n - (intOf i).toNat)
  case atStart => exact ⟨0, Nat.zero_le _, rfl, Lib.hid (Below.refl _ _)⟩
  case round =>
    obtain ⟨k, hk, rfl, HB⟩ := hrel
    have hbw := belowThen HB2.out HB.out
    by_cases hkn : k < n
    · obtain ⟨m0, m1⟩ := HK.out wr hbw
      have hkC : k < C.length := by rw [HN.out]; exact hkn
      obtain ⟨l3, hl3⟩ : ∃ l3, afR C k = l3 := ⟨_, rfl⟩
      have hnx := (nxAtL HHC.out HN.out hkn).1
      have hl3' : rgL (anyB C false k) = l3 := by
        rw [← hl3]; unfold afR; rw [if_pos hnx]; rfl
      obtain ⟨q3, hq3⟩ : ∃ q3, l3.length = q3 := ⟨_, rfl⟩
      have HC3 := HAF.out k wr hbw
      rw [hl3, hnx] at HC3
      have HC3 := Lib.hid (HC3.mono fun e w' h => toEl hq3 h)
      have hk0 : (0 : Int) ≤ k := by omega
      have hk1 : (k : Int) < n := by omega
      have hq3l : q3 ≤ 8 := by rw [← hq3, ← hl3']; exact rgLLen
      have HL3 := Lib.hid hl3'
      have HQ3 := Lib.hid hq3
      have HBR := Lib.hid hbw
      clear hl3 hl3' hq3 hnx hbw
      gi_wp2_with fail
      refine ⟨trivial, (callsIn_wide.2 HC3.out).mono ?_⟩
      rintro e w3 ⟨A3, c3, rfl, r3, b3⟩
      have HB3 := Lib.hid (belowThen HBR.out b3)
      have HS3 := Lib.hid (belowThen HB.out b3)
      have HR3 := Lib.hid r3
      clear r3 b3 m0 m1
      obtain ⟨m0, m1⟩ := HK.out w3 HB3.out
      obtain ⟨q, off, hA, _, hEI⟩ := ((HCD.out w3 HB3.out).rd).one hkC
      subst hA
      obtain ⟨ii, hii⟩ : ∃ ii, C[k] = ii := ⟨_, rfl⟩
      have HII := Lib.hid hii
      rw [hii] at hEI
      clear hii
      obtain ⟨op, ra, rb, rc, obj, m, fn, ord⟩ := ii
      obtain ⟨i0, i1, i2, i3, i4, i5, i6, i7⟩ := hEI
      simp only at i0 i1 i2 i3 i4 i5 i6 i7
      obtain ⟨R, hR⟩ : ∃ R, (I8.mk8 op ra rb rc obj m fn ord).dfR = R := ⟨_, rfl⟩
      obtain ⟨p, hp⟩ : ∃ p, (I8.mk8 op ra rb rc obj m fn ord).dfB = p := ⟨_, rfl⟩
      obtain ⟨us, hu⟩ : ∃ us, (I8.mk8 op ra rb rc obj m fn ord).uses = us := ⟨_, rfl⟩
      have hful : us.length ≤ 2 := by rw [← hu]; exact useLen _
      have HDE := Lib.hid (rDefs (I8.mk8 op ra rb rc obj m fn ord) R p hR hp w3)
      have HUS := Lib.hid (fun X => rUses (I8.mk8 op ra rb rc obj m fn ord) us hu X)
      have HSE := stepEq HHC.out hkC
      rw [HII.out, hR, hp, hu, HL3.out] at HSE
      obtain ⟨lk, hlk⟩ : ∃ lk, rgL (lvB C false k) = lk := ⟨_, rfl⟩
      rw [hlk] at HSE
      have HSE := Lib.hid HSE
      have HLK := Lib.hid (show (beL C)[k]? = some lk by
        unfold beL
        rw [List.getElem?_map, List.getElem?_range (by rw [HN.out]; exact hkn)]
        show some (rgL (lvB C false k)) = _
        rw [hlk])
      clear hR hp hu hlk
      gi_wp2_with fail
      refine ⟨trivial, (callsIn_wide.2 HDE.out).mono ?_⟩
      rintro e w4 ⟨rfl, b4⟩
      have HB4 := Lib.hid (belowThen HB3.out b4)
      have HS4 := Lib.hid (belowThen HS3.out b4)
      have HR4 := Lib.hid (Rd.below HR3.out b4)
      clear b4 m0 m1 i0 i1 i2 i3 i4 i5 i6 i7
      cases p with
      | false =>
        have HB8 := HB4
        have HS8 := HS4
        have HR8 := HR4
        have HQ8 := HQ3
        have HSE : Hid (uni l3 us = lk) := HSE
        have hq8l : q3 ≤ 8 := hq3l
        gi_wp2_with fail
        obtain ⟨Z1, hZ1⟩ : ∃ Z1, w4.drew = Z1 := ⟨_, rfl⟩
        have hbZ : Below w4.heap.size w4 Z1 := by rw [← hZ1]; exact (Below.refl _ w4).drew
        have HBZ := Lib.hid (belowThen HB8.out hbZ)
        have HSZ := Lib.hid (belowThen HS8.out hbZ)
        have HRZ := Lib.hid (Rd.below HR8.out hbZ)
        obtain ⟨m0, m1⟩ := HK.out Z1 HBZ.out
        obtain ⟨q', off', hA', _, hEI⟩ := ((HCD.out Z1 HBZ.out).rd).one hkC
        injection hA' with hA'
        injection hA' with hA1 hA2
        subst hA1
        subst hA2
        rw [HII.out] at hEI
        obtain ⟨i0, i1, i2, i3, i4, i5, i6, i7⟩ := hEI
        simp only at i0 i1 i2 i3 i4 i5 i6 i7
        have hkb : k < (beL C).length := by rw [HBL.out]; exact hkn
        obtain ⟨ad, Al, cl, hA2, hcl, hrl⟩ := (HR2.out Z1 HSZ.out).one hkb
        have elk : (beL C)[k] = lk := by
          have h := HLK.out
          rw [List.getElem?_eq_getElem hkb] at h
          exact Option.some.inj h
        rw [elk] at hcl hrl
        obtain ⟨ql, hql⟩ : ∃ ql, lk.length = ql := ⟨_, rfl⟩
        rw [hql] at hcl
        have hadl := World.block_lt_of_cell? _ _ hcl
        have HCL := Lib.hid (fun X (hX : Below Z1.heap.size Z1 X) => (hX.cell hadl).trans hcl)
        have HUC := Lib.hid (HUS.out Z1)
        obtain ⟨m7, hm7⟩ : ∃ m7, us.length = m7 := ⟨_, rfl⟩
        have HM7 := Lib.hid hm7
        have HUN := Lib.hid (fun X A7 c7 (hr : Rd X A7 c7 us) (hX : Below Z1.heap.size Z1 X) => by
          have h := rUnion _ us lk HSE.out (by rw [HQ8.out]; omega) (by omega) A3 A7 c3 c7 X (Rd.below HRZ.out hX) hr
          rw [HQ8.out, hm7] at h
          exact h.mono fun e w' (h : GivesL lk X e w') => (show ∃ A9 c9, e = .returned (.slice A9 ql c9) ∧ Rd w' A9 c9 lk ∧ Below X.heap.size X w' by rw [← hql]; exact h))
        have HIN := Lib.hid (fun X A9 c9 (hr : Rd X A9 c9 lk) (hX : Below Z1.heap.size Z1 X) => intsEq lk ql ql hql hql Al A9 cl c9 X (Rd.below hrl hX) hr)
        subst hA2
        clear hbZ hrl hadl elk hql hm7 hkb
        refine wpIn_region_any (by kernel_rfl) ?_
        change wpAnyIn _ _ _ _ _ _ _ _ _ (World.drew _)
        rw [hZ1]
        clear hZ1
        refine mergeAnyL fun G hG => ?_
        have hs111111111111111111 : ∀ (X9 : World) (A7 : Option Addr) (c7 : Nat) (A9 : Option Addr) (c9 : Nat) (_ : Below Z1.heap.size Z1 X9), G 0 #[true, true, true, true, true, true, true, true, true, true, true, true, true, true, true, true, true, true] { tmps := #[.agg #[.string nm, .slice (some ⟨q, off, none⟩) n c], .pointer (some ⟨w.heap.size, 0, none⟩), u2, .slice A1 q1 c1, .int .i64 0, .slice (some ad) n c2, .int .i64 0, .int .i64 (k : Int), .slice A3 q3 c3, .int .i64 0, .int .i64 R, .bool false, .tuple #[.slice A1 q1 c1, .int .i64 0], .agg #[.string nm, .slice (some ⟨q, off, none⟩) n c], .tuple #[.slice A1 q1 c1, .int .i64 0], .slice A1 q1 c1, .int .i64 0, .pointer (some ⟨w.heap.size, 1, none⟩), .slice (some ⟨q, off, none⟩) n c, .int .i64 (n : Int), .bool false, .bool false, .int .i64 0, .bool false, .bool false, undef, .tuple #[.slice (some ad) n c2, .int .i64 0], .agg #[.string nm, .slice (some ⟨q, off, none⟩) n c], .tuple #[.slice (some ad) n c2, .int .i64 0], .slice (some ad) n c2, .int .i64 0, .int .i64 0, .bool false, .bool false, .slice (some ad) n c2, .int .i64 (n : Int), .pointer (some ⟨w.heap.size, 1, none⟩), .slice (some ⟨q, off, none⟩) n c, .int .i64 (n : Int), .bool false, .bool false, .int .i64 (k : Int), .slice (some ad) n c2, .int .i64 (n : Int), .bool true, u45, u46, .tuple #[.slice A3 q3 c3, .int .i64 0], .agg #[.string nm, .slice (some ⟨q, off, none⟩) n c], .int .i64 (k : Int), .tuple #[.slice A3 q3 c3, .int .i64 0], .slice A3 q3 c3, .int .i64 0, .tuple #[.int .i64 R, .bool false], .pointer (some ⟨w.heap.size, 1, none⟩), .slice (some ⟨q, off, none⟩) n c, .int .i64 (k : Int), .pointer (some ⟨q, off + k * 8, none⟩), .agg #[.int .i64 op, .int .i64 ra, .int .i64 rb, .int .i64 rc, .int .i64 obj, .int .i64 m, .int .i64 fn, .int .i64 ord], .tuple #[.int .i64 R, .bool false], .int .i64 R, .bool false, .bool false, u63, u64, u65, .int .i64 0, .bool false, .bool false, .slice (some ad) n c2, .int .i64 (k : Int), .pointer (some (ad.add k)), .slice Al ql cl, .slice A3 q3 c3, .pointer (some ⟨w.heap.size, 1, none⟩), .slice (some ⟨q, off, none⟩) n c, .int .i64 (k : Int), .pointer (some ⟨q, off + k * 8, none⟩), .agg #[.int .i64 op, .int .i64 ra, .int .i64 rb, .int .i64 rc, .int .i64 obj, .int .i64 m, .int .i64 fn, .int .i64 ord], .slice A7 m7 c7, .slice A9 ql c9, .bool true, .bool false, .bool false, undef], defers := [] } X9 := by
          intro X9 A7 c7 A9 c9 HP
          have HP := Lib.hid HP
          refine (hG _ _ _ _).2 ?_
          refine wpAnyIn_done (by kernel_rfl) ?_ _
          have HF := Lib.hid (belowThen HSZ.out HP.out)
          gi_wp2
          go_roundw
          case rel => exact ⟨k + 1, by omega, by go_num, HF⟩
          case measure => simp [intOf]; omega
        have hs111111111111111110 : ∀ (X9 : World) (A7 : Option Addr) (c7 : Nat) (A9 : Option Addr) (c9 : Nat) (_ : Below Z1.heap.size Z1 X9), G 1 #[true, true, true, true, true, true, true, true, true, true, true, true, true, true, true, true, true, false] { tmps := #[.agg #[.string nm, .slice (some ⟨q, off, none⟩) n c], .pointer (some ⟨w.heap.size, 0, none⟩), u2, .slice A1 q1 c1, .int .i64 0, .slice (some ad) n c2, .int .i64 0, .int .i64 (k : Int), .slice A3 q3 c3, .int .i64 0, .int .i64 R, .bool false, .tuple #[.slice A1 q1 c1, .int .i64 0], .agg #[.string nm, .slice (some ⟨q, off, none⟩) n c], .tuple #[.slice A1 q1 c1, .int .i64 0], .slice A1 q1 c1, .int .i64 0, .pointer (some ⟨w.heap.size, 1, none⟩), .slice (some ⟨q, off, none⟩) n c, .int .i64 (n : Int), .bool false, .bool false, .int .i64 0, .bool false, .bool false, undef, .tuple #[.slice (some ad) n c2, .int .i64 0], .agg #[.string nm, .slice (some ⟨q, off, none⟩) n c], .tuple #[.slice (some ad) n c2, .int .i64 0], .slice (some ad) n c2, .int .i64 0, .int .i64 0, .bool false, .bool false, .slice (some ad) n c2, .int .i64 (n : Int), .pointer (some ⟨w.heap.size, 1, none⟩), .slice (some ⟨q, off, none⟩) n c, .int .i64 (n : Int), .bool false, .bool false, .int .i64 (k : Int), .slice (some ad) n c2, .int .i64 (n : Int), .bool true, u45, u46, .tuple #[.slice A3 q3 c3, .int .i64 0], .agg #[.string nm, .slice (some ⟨q, off, none⟩) n c], .int .i64 (k : Int), .tuple #[.slice A3 q3 c3, .int .i64 0], .slice A3 q3 c3, .int .i64 0, .tuple #[.int .i64 R, .bool false], .pointer (some ⟨w.heap.size, 1, none⟩), .slice (some ⟨q, off, none⟩) n c, .int .i64 (k : Int), .pointer (some ⟨q, off + k * 8, none⟩), .agg #[.int .i64 op, .int .i64 ra, .int .i64 rb, .int .i64 rc, .int .i64 obj, .int .i64 m, .int .i64 fn, .int .i64 ord], .tuple #[.int .i64 R, .bool false], .int .i64 R, .bool false, .bool false, u63, u64, u65, .int .i64 0, .bool false, .bool false, .slice (some ad) n c2, .int .i64 (k : Int), .pointer (some (ad.add k)), .slice Al ql cl, .slice A3 q3 c3, .pointer (some ⟨w.heap.size, 1, none⟩), .slice (some ⟨q, off, none⟩) n c, .int .i64 (k : Int), .pointer (some ⟨q, off + k * 8, none⟩), .agg #[.int .i64 op, .int .i64 ra, .int .i64 rb, .int .i64 rc, .int .i64 obj, .int .i64 m, .int .i64 fn, .int .i64 ord], .slice A7 m7 c7, .slice A9 ql c9, .bool true, .bool false, u83, undef], defers := [] } X9 := by
          intro X9 A7 c7 A9 c9 HP
          have HP := Lib.hid HP
          refine (hG _ _ _ _).2 ?_
          refine wpAnyIn_ready (rs := [17]) (by kernel_rfl) (by simp) ?_
          refine AllReadyIn.cons rfl (fun K hK => ?_) (AllReadyIn.nil)
          · go_simp
            refine hK _ _ ?_
            clear hK K
            (try simp only [Act.put, List.setIfInBounds_toArray, List.set_cons_zero, List.set_cons_succ])
            exact (hG _ _ _ _).1 (hs111111111111111111 _ _ _ _ _ HP.out)
        have hs111111111111111100 : ∀ (X9 : World) (A7 : Option Addr) (c7 : Nat) (A9 : Option Addr) (c9 : Nat) (_ : Below Z1.heap.size Z1 X9), G 2 #[true, true, true, true, true, true, true, true, true, true, true, true, true, true, true, true, false, false] { tmps := #[.agg #[.string nm, .slice (some ⟨q, off, none⟩) n c], .pointer (some ⟨w.heap.size, 0, none⟩), u2, .slice A1 q1 c1, .int .i64 0, .slice (some ad) n c2, .int .i64 0, .int .i64 (k : Int), .slice A3 q3 c3, .int .i64 0, .int .i64 R, .bool false, .tuple #[.slice A1 q1 c1, .int .i64 0], .agg #[.string nm, .slice (some ⟨q, off, none⟩) n c], .tuple #[.slice A1 q1 c1, .int .i64 0], .slice A1 q1 c1, .int .i64 0, .pointer (some ⟨w.heap.size, 1, none⟩), .slice (some ⟨q, off, none⟩) n c, .int .i64 (n : Int), .bool false, .bool false, .int .i64 0, .bool false, .bool false, undef, .tuple #[.slice (some ad) n c2, .int .i64 0], .agg #[.string nm, .slice (some ⟨q, off, none⟩) n c], .tuple #[.slice (some ad) n c2, .int .i64 0], .slice (some ad) n c2, .int .i64 0, .int .i64 0, .bool false, .bool false, .slice (some ad) n c2, .int .i64 (n : Int), .pointer (some ⟨w.heap.size, 1, none⟩), .slice (some ⟨q, off, none⟩) n c, .int .i64 (n : Int), .bool false, .bool false, .int .i64 (k : Int), .slice (some ad) n c2, .int .i64 (n : Int), .bool true, u45, u46, .tuple #[.slice A3 q3 c3, .int .i64 0], .agg #[.string nm, .slice (some ⟨q, off, none⟩) n c], .int .i64 (k : Int), .tuple #[.slice A3 q3 c3, .int .i64 0], .slice A3 q3 c3, .int .i64 0, .tuple #[.int .i64 R, .bool false], .pointer (some ⟨w.heap.size, 1, none⟩), .slice (some ⟨q, off, none⟩) n c, .int .i64 (k : Int), .pointer (some ⟨q, off + k * 8, none⟩), .agg #[.int .i64 op, .int .i64 ra, .int .i64 rb, .int .i64 rc, .int .i64 obj, .int .i64 m, .int .i64 fn, .int .i64 ord], .tuple #[.int .i64 R, .bool false], .int .i64 R, .bool false, .bool false, u63, u64, u65, .int .i64 0, .bool false, .bool false, .slice (some ad) n c2, .int .i64 (k : Int), .pointer (some (ad.add k)), .slice Al ql cl, .slice A3 q3 c3, .pointer (some ⟨w.heap.size, 1, none⟩), .slice (some ⟨q, off, none⟩) n c, .int .i64 (k : Int), .pointer (some ⟨q, off + k * 8, none⟩), .agg #[.int .i64 op, .int .i64 ra, .int .i64 rb, .int .i64 rc, .int .i64 obj, .int .i64 m, .int .i64 fn, .int .i64 ord], .slice A7 m7 c7, .slice A9 ql c9, .bool true, u82, u83, undef], defers := [] } X9 := by
          intro X9 A7 c7 A9 c9 HP
          have HP := Lib.hid HP
          refine (hG _ _ _ _).2 ?_
          refine wpAnyIn_ready (rs := [16]) (by kernel_rfl) (by simp) ?_
          refine AllReadyIn.cons rfl (fun K hK => ?_) (AllReadyIn.nil)
          · go_simp
            refine hK _ _ ?_
            clear hK K
            (try simp only [Act.put, List.setIfInBounds_toArray, List.set_cons_zero, List.set_cons_succ])
            exact (hG _ _ _ _).1 (hs111111111111111110 _ _ _ _ _ HP.out)
        have hs111111111111111000 : ∀ (X9 : World) (A7 : Option Addr) (c7 : Nat) (A9 : Option Addr) (c9 : Nat) (_ : Below Z1.heap.size Z1 X9 ∧ Rd X9 A9 c9 lk), G 3 #[true, true, true, true, true, true, true, true, true, true, true, true, true, true, true, false, false, false] { tmps := #[.agg #[.string nm, .slice (some ⟨q, off, none⟩) n c], .pointer (some ⟨w.heap.size, 0, none⟩), u2, .slice A1 q1 c1, .int .i64 0, .slice (some ad) n c2, .int .i64 0, .int .i64 (k : Int), .slice A3 q3 c3, .int .i64 0, .int .i64 R, .bool false, .tuple #[.slice A1 q1 c1, .int .i64 0], .agg #[.string nm, .slice (some ⟨q, off, none⟩) n c], .tuple #[.slice A1 q1 c1, .int .i64 0], .slice A1 q1 c1, .int .i64 0, .pointer (some ⟨w.heap.size, 1, none⟩), .slice (some ⟨q, off, none⟩) n c, .int .i64 (n : Int), .bool false, .bool false, .int .i64 0, .bool false, .bool false, undef, .tuple #[.slice (some ad) n c2, .int .i64 0], .agg #[.string nm, .slice (some ⟨q, off, none⟩) n c], .tuple #[.slice (some ad) n c2, .int .i64 0], .slice (some ad) n c2, .int .i64 0, .int .i64 0, .bool false, .bool false, .slice (some ad) n c2, .int .i64 (n : Int), .pointer (some ⟨w.heap.size, 1, none⟩), .slice (some ⟨q, off, none⟩) n c, .int .i64 (n : Int), .bool false, .bool false, .int .i64 (k : Int), .slice (some ad) n c2, .int .i64 (n : Int), .bool true, u45, u46, .tuple #[.slice A3 q3 c3, .int .i64 0], .agg #[.string nm, .slice (some ⟨q, off, none⟩) n c], .int .i64 (k : Int), .tuple #[.slice A3 q3 c3, .int .i64 0], .slice A3 q3 c3, .int .i64 0, .tuple #[.int .i64 R, .bool false], .pointer (some ⟨w.heap.size, 1, none⟩), .slice (some ⟨q, off, none⟩) n c, .int .i64 (k : Int), .pointer (some ⟨q, off + k * 8, none⟩), .agg #[.int .i64 op, .int .i64 ra, .int .i64 rb, .int .i64 rc, .int .i64 obj, .int .i64 m, .int .i64 fn, .int .i64 ord], .tuple #[.int .i64 R, .bool false], .int .i64 R, .bool false, .bool false, u63, u64, u65, .int .i64 0, .bool false, .bool false, .slice (some ad) n c2, .int .i64 (k : Int), .pointer (some (ad.add k)), .slice Al ql cl, .slice A3 q3 c3, .pointer (some ⟨w.heap.size, 1, none⟩), .slice (some ⟨q, off, none⟩) n c, .int .i64 (k : Int), .pointer (some ⟨q, off + k * 8, none⟩), .agg #[.int .i64 op, .int .i64 ra, .int .i64 rb, .int .i64 rc, .int .i64 obj, .int .i64 m, .int .i64 fn, .int .i64 ord], .slice A7 m7 c7, .slice A9 ql c9, u81, u82, u83, undef], defers := [] } X9 := by
          intro X9 A7 c7 A9 c9 HP
          have HP := Lib.hid HP
          refine (hG _ _ _ _).2 ?_
          refine wpAnyIn_ready (rs := [15]) (by kernel_rfl) (by simp) ?_
          refine AllReadyIn.cons rfl (fun K hK => ?_) (AllReadyIn.nil)
          · go_simp
            gi_wp2_with fail
            refine ⟨trivial, (callsIn_wide.2 (HIN.out X9 A9 c9 HP.out.2 HP.out.1)).mono ?_⟩
            rintro e X10 ⟨rfl, hb9⟩
            refine hK _ _ ?_
            clear hK K
            (try simp only [Act.put, List.setIfInBounds_toArray, List.set_cons_zero, List.set_cons_succ])
            exact (hG _ _ _ _).1 (hs111111111111111100 _ _ _ _ _ (belowThen HP.out.1 hb9))
        have hs111111111111110000 : ∀ (X9 : World) (A7 : Option Addr) (c7 : Nat) (_ : Below Z1.heap.size Z1 X9 ∧ Rd X9 A7 c7 us), G 4 #[true, true, true, true, true, true, true, true, true, true, true, true, true, true, false, false, false, false] { tmps := #[.agg #[.string nm, .slice (some ⟨q, off, none⟩) n c], .pointer (some ⟨w.heap.size, 0, none⟩), u2, .slice A1 q1 c1, .int .i64 0, .slice (some ad) n c2, .int .i64 0, .int .i64 (k : Int), .slice A3 q3 c3, .int .i64 0, .int .i64 R, .bool false, .tuple #[.slice A1 q1 c1, .int .i64 0], .agg #[.string nm, .slice (some ⟨q, off, none⟩) n c], .tuple #[.slice A1 q1 c1, .int .i64 0], .slice A1 q1 c1, .int .i64 0, .pointer (some ⟨w.heap.size, 1, none⟩), .slice (some ⟨q, off, none⟩) n c, .int .i64 (n : Int), .bool false, .bool false, .int .i64 0, .bool false, .bool false, undef, .tuple #[.slice (some ad) n c2, .int .i64 0], .agg #[.string nm, .slice (some ⟨q, off, none⟩) n c], .tuple #[.slice (some ad) n c2, .int .i64 0], .slice (some ad) n c2, .int .i64 0, .int .i64 0, .bool false, .bool false, .slice (some ad) n c2, .int .i64 (n : Int), .pointer (some ⟨w.heap.size, 1, none⟩), .slice (some ⟨q, off, none⟩) n c, .int .i64 (n : Int), .bool false, .bool false, .int .i64 (k : Int), .slice (some ad) n c2, .int .i64 (n : Int), .bool true, u45, u46, .tuple #[.slice A3 q3 c3, .int .i64 0], .agg #[.string nm, .slice (some ⟨q, off, none⟩) n c], .int .i64 (k : Int), .tuple #[.slice A3 q3 c3, .int .i64 0], .slice A3 q3 c3, .int .i64 0, .tuple #[.int .i64 R, .bool false], .pointer (some ⟨w.heap.size, 1, none⟩), .slice (some ⟨q, off, none⟩) n c, .int .i64 (k : Int), .pointer (some ⟨q, off + k * 8, none⟩), .agg #[.int .i64 op, .int .i64 ra, .int .i64 rb, .int .i64 rc, .int .i64 obj, .int .i64 m, .int .i64 fn, .int .i64 ord], .tuple #[.int .i64 R, .bool false], .int .i64 R, .bool false, .bool false, u63, u64, u65, .int .i64 0, .bool false, .bool false, .slice (some ad) n c2, .int .i64 (k : Int), .pointer (some (ad.add k)), .slice Al ql cl, .slice A3 q3 c3, .pointer (some ⟨w.heap.size, 1, none⟩), .slice (some ⟨q, off, none⟩) n c, .int .i64 (k : Int), .pointer (some ⟨q, off + k * 8, none⟩), .agg #[.int .i64 op, .int .i64 ra, .int .i64 rb, .int .i64 rc, .int .i64 obj, .int .i64 m, .int .i64 fn, .int .i64 ord], .slice A7 m7 c7, u80, u81, u82, u83, undef], defers := [] } X9 := by
          intro X9 A7 c7 HP
          have HP := Lib.hid HP
          refine (hG _ _ _ _).2 ?_
          refine wpAnyIn_ready (rs := [14]) (by kernel_rfl) (by simp) ?_
          refine AllReadyIn.cons rfl (fun K hK => ?_) (AllReadyIn.nil)
          · go_simp
            gi_wp2_with fail
            refine ⟨trivial, (callsIn_wide.2 (HUN.out X9 A7 c7 HP.out.2 HP.out.1)).mono ?_⟩
            rintro e X10 ⟨A9, c9, rfl, hr9, hb9⟩
            refine hK _ _ ?_
            clear hK K
            (try simp only [Act.put, List.setIfInBounds_toArray, List.set_cons_zero, List.set_cons_succ])
            exact (hG _ _ _ _).1 (hs111111111111111000 _ _ _ _ _ ⟨belowThen HP.out.1 hb9, hr9⟩)
        have hs111111011111111000 : ∀ (X9 : World) (A7 : Option Addr) (c7 : Nat) (A9 : Option Addr) (c9 : Nat) (_ : Below Z1.heap.size Z1 X9 ∧ Rd X9 A9 c9 lk), G 4 #[true, true, true, true, true, true, false, true, true, true, true, true, true, true, true, false, false, false] { tmps := #[.agg #[.string nm, .slice (some ⟨q, off, none⟩) n c], .pointer (some ⟨w.heap.size, 0, none⟩), u2, .slice A1 q1 c1, .int .i64 0, .slice (some ad) n c2, .int .i64 0, .int .i64 (k : Int), .slice A3 q3 c3, .int .i64 0, .int .i64 R, .bool false, .tuple #[.slice A1 q1 c1, .int .i64 0], .agg #[.string nm, .slice (some ⟨q, off, none⟩) n c], .tuple #[.slice A1 q1 c1, .int .i64 0], .slice A1 q1 c1, .int .i64 0, .pointer (some ⟨w.heap.size, 1, none⟩), .slice (some ⟨q, off, none⟩) n c, .int .i64 (n : Int), .bool false, .bool false, .int .i64 0, .bool false, .bool false, undef, .tuple #[.slice (some ad) n c2, .int .i64 0], .agg #[.string nm, .slice (some ⟨q, off, none⟩) n c], .tuple #[.slice (some ad) n c2, .int .i64 0], .slice (some ad) n c2, .int .i64 0, .int .i64 0, .bool false, .bool false, .slice (some ad) n c2, .int .i64 (n : Int), .pointer (some ⟨w.heap.size, 1, none⟩), .slice (some ⟨q, off, none⟩) n c, .int .i64 (n : Int), .bool false, .bool false, .int .i64 (k : Int), .slice (some ad) n c2, .int .i64 (n : Int), .bool true, u45, u46, .tuple #[.slice A3 q3 c3, .int .i64 0], .agg #[.string nm, .slice (some ⟨q, off, none⟩) n c], .int .i64 (k : Int), .tuple #[.slice A3 q3 c3, .int .i64 0], .slice A3 q3 c3, .int .i64 0, .tuple #[.int .i64 R, .bool false], .pointer (some ⟨w.heap.size, 1, none⟩), .slice (some ⟨q, off, none⟩) n c, .int .i64 (k : Int), .pointer (some ⟨q, off + k * 8, none⟩), .agg #[.int .i64 op, .int .i64 ra, .int .i64 rb, .int .i64 rc, .int .i64 obj, .int .i64 m, .int .i64 fn, .int .i64 ord], .tuple #[.int .i64 R, .bool false], .int .i64 R, .bool false, .bool false, u63, u64, u65, .int .i64 0, .bool false, .bool false, .slice (some ad) n c2, .int .i64 (k : Int), .pointer (some (ad.add k)), u72, .slice A3 q3 c3, .pointer (some ⟨w.heap.size, 1, none⟩), .slice (some ⟨q, off, none⟩) n c, .int .i64 (k : Int), .pointer (some ⟨q, off + k * 8, none⟩), .agg #[.int .i64 op, .int .i64 ra, .int .i64 rb, .int .i64 rc, .int .i64 obj, .int .i64 m, .int .i64 fn, .int .i64 ord], .slice A7 m7 c7, .slice A9 ql c9, u81, u82, u83, undef], defers := [] } X9 := by
          intro X9 A7 c7 A9 c9 HP
          have HP := Lib.hid HP
          refine (hG _ _ _ _).2 ?_
          refine wpAnyIn_ready (rs := [6]) (by kernel_rfl) (by simp) ?_
          refine AllReadyIn.cons rfl (fun K hK => ?_) (AllReadyIn.nil)
          · have tl := HCL.out X9 HP.out.1
            go_simp
            refine hK _ _ ?_
            clear hK K
            (try simp only [Act.put, List.setIfInBounds_toArray, List.set_cons_zero, List.set_cons_succ])
            exact (hG _ _ _ _).1 (hs111111111111111000 _ _ _ _ _ HP.out)
        have hs111111111111100000 : G 5 #[true, true, true, true, true, true, true, true, true, true, true, true, true, false, false, false, false, false] { tmps := #[.agg #[.string nm, .slice (some ⟨q, off, none⟩) n c], .pointer (some ⟨w.heap.size, 0, none⟩), u2, .slice A1 q1 c1, .int .i64 0, .slice (some ad) n c2, .int .i64 0, .int .i64 (k : Int), .slice A3 q3 c3, .int .i64 0, .int .i64 R, .bool false, .tuple #[.slice A1 q1 c1, .int .i64 0], .agg #[.string nm, .slice (some ⟨q, off, none⟩) n c], .tuple #[.slice A1 q1 c1, .int .i64 0], .slice A1 q1 c1, .int .i64 0, .pointer (some ⟨w.heap.size, 1, none⟩), .slice (some ⟨q, off, none⟩) n c, .int .i64 (n : Int), .bool false, .bool false, .int .i64 0, .bool false, .bool false, undef, .tuple #[.slice (some ad) n c2, .int .i64 0], .agg #[.string nm, .slice (some ⟨q, off, none⟩) n c], .tuple #[.slice (some ad) n c2, .int .i64 0], .slice (some ad) n c2, .int .i64 0, .int .i64 0, .bool false, .bool false, .slice (some ad) n c2, .int .i64 (n : Int), .pointer (some ⟨w.heap.size, 1, none⟩), .slice (some ⟨q, off, none⟩) n c, .int .i64 (n : Int), .bool false, .bool false, .int .i64 (k : Int), .slice (some ad) n c2, .int .i64 (n : Int), .bool true, u45, u46, .tuple #[.slice A3 q3 c3, .int .i64 0], .agg #[.string nm, .slice (some ⟨q, off, none⟩) n c], .int .i64 (k : Int), .tuple #[.slice A3 q3 c3, .int .i64 0], .slice A3 q3 c3, .int .i64 0, .tuple #[.int .i64 R, .bool false], .pointer (some ⟨w.heap.size, 1, none⟩), .slice (some ⟨q, off, none⟩) n c, .int .i64 (k : Int), .pointer (some ⟨q, off + k * 8, none⟩), .agg #[.int .i64 op, .int .i64 ra, .int .i64 rb, .int .i64 rc, .int .i64 obj, .int .i64 m, .int .i64 fn, .int .i64 ord], .tuple #[.int .i64 R, .bool false], .int .i64 R, .bool false, .bool false, u63, u64, u65, .int .i64 0, .bool false, .bool false, .slice (some ad) n c2, .int .i64 (k : Int), .pointer (some (ad.add k)), .slice Al ql cl, .slice A3 q3 c3, .pointer (some ⟨w.heap.size, 1, none⟩), .slice (some ⟨q, off, none⟩) n c, .int .i64 (k : Int), .pointer (some ⟨q, off + k * 8, none⟩), .agg #[.int .i64 op, .int .i64 ra, .int .i64 rb, .int .i64 rc, .int .i64 obj, .int .i64 m, .int .i64 fn, .int .i64 ord], u79, u80, u81, u82, u83, undef], defers := [] } Z1 := by
          refine (hG _ _ _ _).2 ?_
          refine wpAnyIn_ready (rs := [13]) (by kernel_rfl) (by simp) ?_
          refine AllReadyIn.cons rfl (fun K hK => ?_) (AllReadyIn.nil)
          · go_simp
            gi_wp2_with fail
            refine ⟨trivial, (callsIn_wide.2 HUC.out).mono ?_⟩
            rintro e X9 ⟨A7, c7, rfl, hr7, hb7⟩
            rw [HM7.out]
            refine hK _ _ ?_
            clear hK K
            (try simp only [Act.put, List.setIfInBounds_toArray, List.set_cons_zero, List.set_cons_succ])
            exact (hG _ _ _ _).1 (hs111111111111110000 _ _ _ ⟨hb7, hr7⟩)
        have hs111111011111110000 : ∀ (X9 : World) (A7 : Option Addr) (c7 : Nat) (_ : Below Z1.heap.size Z1 X9 ∧ Rd X9 A7 c7 us), G 5 #[true, true, true, true, true, true, false, true, true, true, true, true, true, true, false, false, false, false] { tmps := #[.agg #[.string nm, .slice (some ⟨q, off, none⟩) n c], .pointer (some ⟨w.heap.size, 0, none⟩), u2, .slice A1 q1 c1, .int .i64 0, .slice (some ad) n c2, .int .i64 0, .int .i64 (k : Int), .slice A3 q3 c3, .int .i64 0, .int .i64 R, .bool false, .tuple #[.slice A1 q1 c1, .int .i64 0], .agg #[.string nm, .slice (some ⟨q, off, none⟩) n c], .tuple #[.slice A1 q1 c1, .int .i64 0], .slice A1 q1 c1, .int .i64 0, .pointer (some ⟨w.heap.size, 1, none⟩), .slice (some ⟨q, off, none⟩) n c, .int .i64 (n : Int), .bool false, .bool false, .int .i64 0, .bool false, .bool false, undef, .tuple #[.slice (some ad) n c2, .int .i64 0], .agg #[.string nm, .slice (some ⟨q, off, none⟩) n c], .tuple #[.slice (some ad) n c2, .int .i64 0], .slice (some ad) n c2, .int .i64 0, .int .i64 0, .bool false, .bool false, .slice (some ad) n c2, .int .i64 (n : Int), .pointer (some ⟨w.heap.size, 1, none⟩), .slice (some ⟨q, off, none⟩) n c, .int .i64 (n : Int), .bool false, .bool false, .int .i64 (k : Int), .slice (some ad) n c2, .int .i64 (n : Int), .bool true, u45, u46, .tuple #[.slice A3 q3 c3, .int .i64 0], .agg #[.string nm, .slice (some ⟨q, off, none⟩) n c], .int .i64 (k : Int), .tuple #[.slice A3 q3 c3, .int .i64 0], .slice A3 q3 c3, .int .i64 0, .tuple #[.int .i64 R, .bool false], .pointer (some ⟨w.heap.size, 1, none⟩), .slice (some ⟨q, off, none⟩) n c, .int .i64 (k : Int), .pointer (some ⟨q, off + k * 8, none⟩), .agg #[.int .i64 op, .int .i64 ra, .int .i64 rb, .int .i64 rc, .int .i64 obj, .int .i64 m, .int .i64 fn, .int .i64 ord], .tuple #[.int .i64 R, .bool false], .int .i64 R, .bool false, .bool false, u63, u64, u65, .int .i64 0, .bool false, .bool false, .slice (some ad) n c2, .int .i64 (k : Int), .pointer (some (ad.add k)), u72, .slice A3 q3 c3, .pointer (some ⟨w.heap.size, 1, none⟩), .slice (some ⟨q, off, none⟩) n c, .int .i64 (k : Int), .pointer (some ⟨q, off + k * 8, none⟩), .agg #[.int .i64 op, .int .i64 ra, .int .i64 rb, .int .i64 rc, .int .i64 obj, .int .i64 m, .int .i64 fn, .int .i64 ord], .slice A7 m7 c7, u80, u81, u82, u83, undef], defers := [] } X9 := by
          intro X9 A7 c7 HP
          have HP := Lib.hid HP
          refine (hG _ _ _ _).2 ?_
          refine wpAnyIn_ready (rs := [6, 14]) (by kernel_rfl) (by simp) ?_
          refine AllReadyIn.cons rfl (fun K hK => ?_) (AllReadyIn.cons rfl (fun K hK => ?_) (AllReadyIn.nil))
          · have tl := HCL.out X9 HP.out.1
            go_simp
            refine hK _ _ ?_
            clear hK K
            (try simp only [Act.put, List.setIfInBounds_toArray, List.set_cons_zero, List.set_cons_succ])
            exact (hG _ _ _ _).1 (hs111111111111110000 _ _ _ HP.out)
          · go_simp
            gi_wp2_with fail
            refine ⟨trivial, (callsIn_wide.2 (HUN.out X9 A7 c7 HP.out.2 HP.out.1)).mono ?_⟩
            rintro e X10 ⟨A9, c9, rfl, hr9, hb9⟩
            refine hK _ _ ?_
            clear hK K
            (try simp only [Act.put, List.setIfInBounds_toArray, List.set_cons_zero, List.set_cons_succ])
            exact (hG _ _ _ _).1 (hs111111011111111000 _ _ _ _ _ ⟨belowThen HP.out.1 hb9, hr9⟩)
        have hs111110011111111000 : ∀ (X9 : World) (A7 : Option Addr) (c7 : Nat) (A9 : Option Addr) (c9 : Nat) (_ : Below Z1.heap.size Z1 X9 ∧ Rd X9 A9 c9 lk), G 5 #[true, true, true, true, true, false, false, true, true, true, true, true, true, true, true, false, false, false] { tmps := #[.agg #[.string nm, .slice (some ⟨q, off, none⟩) n c], .pointer (some ⟨w.heap.size, 0, none⟩), u2, .slice A1 q1 c1, .int .i64 0, .slice (some ad) n c2, .int .i64 0, .int .i64 (k : Int), .slice A3 q3 c3, .int .i64 0, .int .i64 R, .bool false, .tuple #[.slice A1 q1 c1, .int .i64 0], .agg #[.string nm, .slice (some ⟨q, off, none⟩) n c], .tuple #[.slice A1 q1 c1, .int .i64 0], .slice A1 q1 c1, .int .i64 0, .pointer (some ⟨w.heap.size, 1, none⟩), .slice (some ⟨q, off, none⟩) n c, .int .i64 (n : Int), .bool false, .bool false, .int .i64 0, .bool false, .bool false, undef, .tuple #[.slice (some ad) n c2, .int .i64 0], .agg #[.string nm, .slice (some ⟨q, off, none⟩) n c], .tuple #[.slice (some ad) n c2, .int .i64 0], .slice (some ad) n c2, .int .i64 0, .int .i64 0, .bool false, .bool false, .slice (some ad) n c2, .int .i64 (n : Int), .pointer (some ⟨w.heap.size, 1, none⟩), .slice (some ⟨q, off, none⟩) n c, .int .i64 (n : Int), .bool false, .bool false, .int .i64 (k : Int), .slice (some ad) n c2, .int .i64 (n : Int), .bool true, u45, u46, .tuple #[.slice A3 q3 c3, .int .i64 0], .agg #[.string nm, .slice (some ⟨q, off, none⟩) n c], .int .i64 (k : Int), .tuple #[.slice A3 q3 c3, .int .i64 0], .slice A3 q3 c3, .int .i64 0, .tuple #[.int .i64 R, .bool false], .pointer (some ⟨w.heap.size, 1, none⟩), .slice (some ⟨q, off, none⟩) n c, .int .i64 (k : Int), .pointer (some ⟨q, off + k * 8, none⟩), .agg #[.int .i64 op, .int .i64 ra, .int .i64 rb, .int .i64 rc, .int .i64 obj, .int .i64 m, .int .i64 fn, .int .i64 ord], .tuple #[.int .i64 R, .bool false], .int .i64 R, .bool false, .bool false, u63, u64, u65, .int .i64 0, .bool false, .bool false, .slice (some ad) n c2, .int .i64 (k : Int), u71, u72, .slice A3 q3 c3, .pointer (some ⟨w.heap.size, 1, none⟩), .slice (some ⟨q, off, none⟩) n c, .int .i64 (k : Int), .pointer (some ⟨q, off + k * 8, none⟩), .agg #[.int .i64 op, .int .i64 ra, .int .i64 rb, .int .i64 rc, .int .i64 obj, .int .i64 m, .int .i64 fn, .int .i64 ord], .slice A7 m7 c7, .slice A9 ql c9, u81, u82, u83, undef], defers := [] } X9 := by
          intro X9 A7 c7 A9 c9 HP
          have HP := Lib.hid HP
          refine (hG _ _ _ _).2 ?_
          refine wpAnyIn_ready (rs := [5]) (by kernel_rfl) (by simp) ?_
          refine AllReadyIn.cons rfl (fun K hK => ?_) (AllReadyIn.nil)
          · go_simp
            refine hK _ _ ?_
            clear hK K
            (try simp only [Act.put, List.setIfInBounds_toArray, List.set_cons_zero, List.set_cons_succ])
            exact (hG _ _ _ _).1 (hs111111011111111000 _ _ _ _ _ HP.out)
        have hs111111111111000000 : G 6 #[true, true, true, true, true, true, true, true, true, true, true, true, false, false, false, false, false, false] { tmps := #[.agg #[.string nm, .slice (some ⟨q, off, none⟩) n c], .pointer (some ⟨w.heap.size, 0, none⟩), u2, .slice A1 q1 c1, .int .i64 0, .slice (some ad) n c2, .int .i64 0, .int .i64 (k : Int), .slice A3 q3 c3, .int .i64 0, .int .i64 R, .bool false, .tuple #[.slice A1 q1 c1, .int .i64 0], .agg #[.string nm, .slice (some ⟨q, off, none⟩) n c], .tuple #[.slice A1 q1 c1, .int .i64 0], .slice A1 q1 c1, .int .i64 0, .pointer (some ⟨w.heap.size, 1, none⟩), .slice (some ⟨q, off, none⟩) n c, .int .i64 (n : Int), .bool false, .bool false, .int .i64 0, .bool false, .bool false, undef, .tuple #[.slice (some ad) n c2, .int .i64 0], .agg #[.string nm, .slice (some ⟨q, off, none⟩) n c], .tuple #[.slice (some ad) n c2, .int .i64 0], .slice (some ad) n c2, .int .i64 0, .int .i64 0, .bool false, .bool false, .slice (some ad) n c2, .int .i64 (n : Int), .pointer (some ⟨w.heap.size, 1, none⟩), .slice (some ⟨q, off, none⟩) n c, .int .i64 (n : Int), .bool false, .bool false, .int .i64 (k : Int), .slice (some ad) n c2, .int .i64 (n : Int), .bool true, u45, u46, .tuple #[.slice A3 q3 c3, .int .i64 0], .agg #[.string nm, .slice (some ⟨q, off, none⟩) n c], .int .i64 (k : Int), .tuple #[.slice A3 q3 c3, .int .i64 0], .slice A3 q3 c3, .int .i64 0, .tuple #[.int .i64 R, .bool false], .pointer (some ⟨w.heap.size, 1, none⟩), .slice (some ⟨q, off, none⟩) n c, .int .i64 (k : Int), .pointer (some ⟨q, off + k * 8, none⟩), .agg #[.int .i64 op, .int .i64 ra, .int .i64 rb, .int .i64 rc, .int .i64 obj, .int .i64 m, .int .i64 fn, .int .i64 ord], .tuple #[.int .i64 R, .bool false], .int .i64 R, .bool false, .bool false, u63, u64, u65, .int .i64 0, .bool false, .bool false, .slice (some ad) n c2, .int .i64 (k : Int), .pointer (some (ad.add k)), .slice Al ql cl, .slice A3 q3 c3, .pointer (some ⟨w.heap.size, 1, none⟩), .slice (some ⟨q, off, none⟩) n c, .int .i64 (k : Int), .pointer (some ⟨q, off + k * 8, none⟩), u78, u79, u80, u81, u82, u83, undef], defers := [] } Z1 := by
          refine (hG _ _ _ _).2 ?_
          refine wpAnyIn_ready (rs := [12]) (by kernel_rfl) (by simp) ?_
          refine AllReadyIn.cons rfl (fun K hK => ?_) (AllReadyIn.nil)
          · go_simp
            refine hK _ _ ?_
            clear hK K
            (try simp only [Act.put, List.setIfInBounds_toArray, List.set_cons_zero, List.set_cons_succ])
            exact (hG _ _ _ _).1 hs111111111111100000
        have hs111111011111100000 : G 6 #[true, true, true, true, true, true, false, true, true, true, true, true, true, false, false, false, false, false] { tmps := #[.agg #[.string nm, .slice (some ⟨q, off, none⟩) n c], .pointer (some ⟨w.heap.size, 0, none⟩), u2, .slice A1 q1 c1, .int .i64 0, .slice (some ad) n c2, .int .i64 0, .int .i64 (k : Int), .slice A3 q3 c3, .int .i64 0, .int .i64 R, .bool false, .tuple #[.slice A1 q1 c1, .int .i64 0], .agg #[.string nm, .slice (some ⟨q, off, none⟩) n c], .tuple #[.slice A1 q1 c1, .int .i64 0], .slice A1 q1 c1, .int .i64 0, .pointer (some ⟨w.heap.size, 1, none⟩), .slice (some ⟨q, off, none⟩) n c, .int .i64 (n : Int), .bool false, .bool false, .int .i64 0, .bool false, .bool false, undef, .tuple #[.slice (some ad) n c2, .int .i64 0], .agg #[.string nm, .slice (some ⟨q, off, none⟩) n c], .tuple #[.slice (some ad) n c2, .int .i64 0], .slice (some ad) n c2, .int .i64 0, .int .i64 0, .bool false, .bool false, .slice (some ad) n c2, .int .i64 (n : Int), .pointer (some ⟨w.heap.size, 1, none⟩), .slice (some ⟨q, off, none⟩) n c, .int .i64 (n : Int), .bool false, .bool false, .int .i64 (k : Int), .slice (some ad) n c2, .int .i64 (n : Int), .bool true, u45, u46, .tuple #[.slice A3 q3 c3, .int .i64 0], .agg #[.string nm, .slice (some ⟨q, off, none⟩) n c], .int .i64 (k : Int), .tuple #[.slice A3 q3 c3, .int .i64 0], .slice A3 q3 c3, .int .i64 0, .tuple #[.int .i64 R, .bool false], .pointer (some ⟨w.heap.size, 1, none⟩), .slice (some ⟨q, off, none⟩) n c, .int .i64 (k : Int), .pointer (some ⟨q, off + k * 8, none⟩), .agg #[.int .i64 op, .int .i64 ra, .int .i64 rb, .int .i64 rc, .int .i64 obj, .int .i64 m, .int .i64 fn, .int .i64 ord], .tuple #[.int .i64 R, .bool false], .int .i64 R, .bool false, .bool false, u63, u64, u65, .int .i64 0, .bool false, .bool false, .slice (some ad) n c2, .int .i64 (k : Int), .pointer (some (ad.add k)), u72, .slice A3 q3 c3, .pointer (some ⟨w.heap.size, 1, none⟩), .slice (some ⟨q, off, none⟩) n c, .int .i64 (k : Int), .pointer (some ⟨q, off + k * 8, none⟩), .agg #[.int .i64 op, .int .i64 ra, .int .i64 rb, .int .i64 rc, .int .i64 obj, .int .i64 m, .int .i64 fn, .int .i64 ord], u79, u80, u81, u82, u83, undef], defers := [] } Z1 := by
          refine (hG _ _ _ _).2 ?_
          refine wpAnyIn_ready (rs := [6, 13]) (by kernel_rfl) (by simp) ?_
          refine AllReadyIn.cons rfl (fun K hK => ?_) (AllReadyIn.cons rfl (fun K hK => ?_) (AllReadyIn.nil))
          · have tl := hcl
            go_simp
            refine hK _ _ ?_
            clear hK K
            (try simp only [Act.put, List.setIfInBounds_toArray, List.set_cons_zero, List.set_cons_succ])
            exact (hG _ _ _ _).1 hs111111111111100000
          · go_simp
            gi_wp2_with fail
            refine ⟨trivial, (callsIn_wide.2 HUC.out).mono ?_⟩
            rintro e X9 ⟨A7, c7, rfl, hr7, hb7⟩
            rw [HM7.out]
            refine hK _ _ ?_
            clear hK K
            (try simp only [Act.put, List.setIfInBounds_toArray, List.set_cons_zero, List.set_cons_succ])
            exact (hG _ _ _ _).1 (hs111111011111110000 _ _ _ ⟨hb7, hr7⟩)
        have hs111110011111110000 : ∀ (X9 : World) (A7 : Option Addr) (c7 : Nat) (_ : Below Z1.heap.size Z1 X9 ∧ Rd X9 A7 c7 us), G 6 #[true, true, true, true, true, false, false, true, true, true, true, true, true, true, false, false, false, false] { tmps := #[.agg #[.string nm, .slice (some ⟨q, off, none⟩) n c], .pointer (some ⟨w.heap.size, 0, none⟩), u2, .slice A1 q1 c1, .int .i64 0, .slice (some ad) n c2, .int .i64 0, .int .i64 (k : Int), .slice A3 q3 c3, .int .i64 0, .int .i64 R, .bool false, .tuple #[.slice A1 q1 c1, .int .i64 0], .agg #[.string nm, .slice (some ⟨q, off, none⟩) n c], .tuple #[.slice A1 q1 c1, .int .i64 0], .slice A1 q1 c1, .int .i64 0, .pointer (some ⟨w.heap.size, 1, none⟩), .slice (some ⟨q, off, none⟩) n c, .int .i64 (n : Int), .bool false, .bool false, .int .i64 0, .bool false, .bool false, undef, .tuple #[.slice (some ad) n c2, .int .i64 0], .agg #[.string nm, .slice (some ⟨q, off, none⟩) n c], .tuple #[.slice (some ad) n c2, .int .i64 0], .slice (some ad) n c2, .int .i64 0, .int .i64 0, .bool false, .bool false, .slice (some ad) n c2, .int .i64 (n : Int), .pointer (some ⟨w.heap.size, 1, none⟩), .slice (some ⟨q, off, none⟩) n c, .int .i64 (n : Int), .bool false, .bool false, .int .i64 (k : Int), .slice (some ad) n c2, .int .i64 (n : Int), .bool true, u45, u46, .tuple #[.slice A3 q3 c3, .int .i64 0], .agg #[.string nm, .slice (some ⟨q, off, none⟩) n c], .int .i64 (k : Int), .tuple #[.slice A3 q3 c3, .int .i64 0], .slice A3 q3 c3, .int .i64 0, .tuple #[.int .i64 R, .bool false], .pointer (some ⟨w.heap.size, 1, none⟩), .slice (some ⟨q, off, none⟩) n c, .int .i64 (k : Int), .pointer (some ⟨q, off + k * 8, none⟩), .agg #[.int .i64 op, .int .i64 ra, .int .i64 rb, .int .i64 rc, .int .i64 obj, .int .i64 m, .int .i64 fn, .int .i64 ord], .tuple #[.int .i64 R, .bool false], .int .i64 R, .bool false, .bool false, u63, u64, u65, .int .i64 0, .bool false, .bool false, .slice (some ad) n c2, .int .i64 (k : Int), u71, u72, .slice A3 q3 c3, .pointer (some ⟨w.heap.size, 1, none⟩), .slice (some ⟨q, off, none⟩) n c, .int .i64 (k : Int), .pointer (some ⟨q, off + k * 8, none⟩), .agg #[.int .i64 op, .int .i64 ra, .int .i64 rb, .int .i64 rc, .int .i64 obj, .int .i64 m, .int .i64 fn, .int .i64 ord], .slice A7 m7 c7, u80, u81, u82, u83, undef], defers := [] } X9 := by
          intro X9 A7 c7 HP
          have HP := Lib.hid HP
          refine (hG _ _ _ _).2 ?_
          refine wpAnyIn_ready (rs := [5, 14]) (by kernel_rfl) (by simp) ?_
          refine AllReadyIn.cons rfl (fun K hK => ?_) (AllReadyIn.cons rfl (fun K hK => ?_) (AllReadyIn.nil))
          · go_simp
            refine hK _ _ ?_
            clear hK K
            (try simp only [Act.put, List.setIfInBounds_toArray, List.set_cons_zero, List.set_cons_succ])
            exact (hG _ _ _ _).1 (hs111111011111110000 _ _ _ HP.out)
          · go_simp
            gi_wp2_with fail
            refine ⟨trivial, (callsIn_wide.2 (HUN.out X9 A7 c7 HP.out.2 HP.out.1)).mono ?_⟩
            rintro e X10 ⟨A9, c9, rfl, hr9, hb9⟩
            refine hK _ _ ?_
            clear hK K
            (try simp only [Act.put, List.setIfInBounds_toArray, List.set_cons_zero, List.set_cons_succ])
            exact (hG _ _ _ _).1 (hs111110011111111000 _ _ _ _ _ ⟨belowThen HP.out.1 hb9, hr9⟩)
        have hs111111111110000000 : G 7 #[true, true, true, true, true, true, true, true, true, true, true, false, false, false, false, false, false, false] { tmps := #[.agg #[.string nm, .slice (some ⟨q, off, none⟩) n c], .pointer (some ⟨w.heap.size, 0, none⟩), u2, .slice A1 q1 c1, .int .i64 0, .slice (some ad) n c2, .int .i64 0, .int .i64 (k : Int), .slice A3 q3 c3, .int .i64 0, .int .i64 R, .bool false, .tuple #[.slice A1 q1 c1, .int .i64 0], .agg #[.string nm, .slice (some ⟨q, off, none⟩) n c], .tuple #[.slice A1 q1 c1, .int .i64 0], .slice A1 q1 c1, .int .i64 0, .pointer (some ⟨w.heap.size, 1, none⟩), .slice (some ⟨q, off, none⟩) n c, .int .i64 (n : Int), .bool false, .bool false, .int .i64 0, .bool false, .bool false, undef, .tuple #[.slice (some ad) n c2, .int .i64 0], .agg #[.string nm, .slice (some ⟨q, off, none⟩) n c], .tuple #[.slice (some ad) n c2, .int .i64 0], .slice (some ad) n c2, .int .i64 0, .int .i64 0, .bool false, .bool false, .slice (some ad) n c2, .int .i64 (n : Int), .pointer (some ⟨w.heap.size, 1, none⟩), .slice (some ⟨q, off, none⟩) n c, .int .i64 (n : Int), .bool false, .bool false, .int .i64 (k : Int), .slice (some ad) n c2, .int .i64 (n : Int), .bool true, u45, u46, .tuple #[.slice A3 q3 c3, .int .i64 0], .agg #[.string nm, .slice (some ⟨q, off, none⟩) n c], .int .i64 (k : Int), .tuple #[.slice A3 q3 c3, .int .i64 0], .slice A3 q3 c3, .int .i64 0, .tuple #[.int .i64 R, .bool false], .pointer (some ⟨w.heap.size, 1, none⟩), .slice (some ⟨q, off, none⟩) n c, .int .i64 (k : Int), .pointer (some ⟨q, off + k * 8, none⟩), .agg #[.int .i64 op, .int .i64 ra, .int .i64 rb, .int .i64 rc, .int .i64 obj, .int .i64 m, .int .i64 fn, .int .i64 ord], .tuple #[.int .i64 R, .bool false], .int .i64 R, .bool false, .bool false, u63, u64, u65, .int .i64 0, .bool false, .bool false, .slice (some ad) n c2, .int .i64 (k : Int), .pointer (some (ad.add k)), .slice Al ql cl, .slice A3 q3 c3, .pointer (some ⟨w.heap.size, 1, none⟩), .slice (some ⟨q, off, none⟩) n c, .int .i64 (k : Int), u77, u78, u79, u80, u81, u82, u83, undef], defers := [] } Z1 := by
          refine (hG _ _ _ _).2 ?_
          refine wpAnyIn_ready (rs := [11]) (by kernel_rfl) (by simp) ?_
          refine AllReadyIn.cons rfl (fun K hK => ?_) (AllReadyIn.nil)
          · go_simp
            refine hK _ _ ?_
            clear hK K
            (try simp only [Act.put, List.setIfInBounds_toArray, List.set_cons_zero, List.set_cons_succ])
            exact (hG _ _ _ _).1 hs111111111111000000
        have hs111111011111000000 : G 7 #[true, true, true, true, true, true, false, true, true, true, true, true, false, false, false, false, false, false] { tmps := #[.agg #[.string nm, .slice (some ⟨q, off, none⟩) n c], .pointer (some ⟨w.heap.size, 0, none⟩), u2, .slice A1 q1 c1, .int .i64 0, .slice (some ad) n c2, .int .i64 0, .int .i64 (k : Int), .slice A3 q3 c3, .int .i64 0, .int .i64 R, .bool false, .tuple #[.slice A1 q1 c1, .int .i64 0], .agg #[.string nm, .slice (some ⟨q, off, none⟩) n c], .tuple #[.slice A1 q1 c1, .int .i64 0], .slice A1 q1 c1, .int .i64 0, .pointer (some ⟨w.heap.size, 1, none⟩), .slice (some ⟨q, off, none⟩) n c, .int .i64 (n : Int), .bool false, .bool false, .int .i64 0, .bool false, .bool false, undef, .tuple #[.slice (some ad) n c2, .int .i64 0], .agg #[.string nm, .slice (some ⟨q, off, none⟩) n c], .tuple #[.slice (some ad) n c2, .int .i64 0], .slice (some ad) n c2, .int .i64 0, .int .i64 0, .bool false, .bool false, .slice (some ad) n c2, .int .i64 (n : Int), .pointer (some ⟨w.heap.size, 1, none⟩), .slice (some ⟨q, off, none⟩) n c, .int .i64 (n : Int), .bool false, .bool false, .int .i64 (k : Int), .slice (some ad) n c2, .int .i64 (n : Int), .bool true, u45, u46, .tuple #[.slice A3 q3 c3, .int .i64 0], .agg #[.string nm, .slice (some ⟨q, off, none⟩) n c], .int .i64 (k : Int), .tuple #[.slice A3 q3 c3, .int .i64 0], .slice A3 q3 c3, .int .i64 0, .tuple #[.int .i64 R, .bool false], .pointer (some ⟨w.heap.size, 1, none⟩), .slice (some ⟨q, off, none⟩) n c, .int .i64 (k : Int), .pointer (some ⟨q, off + k * 8, none⟩), .agg #[.int .i64 op, .int .i64 ra, .int .i64 rb, .int .i64 rc, .int .i64 obj, .int .i64 m, .int .i64 fn, .int .i64 ord], .tuple #[.int .i64 R, .bool false], .int .i64 R, .bool false, .bool false, u63, u64, u65, .int .i64 0, .bool false, .bool false, .slice (some ad) n c2, .int .i64 (k : Int), .pointer (some (ad.add k)), u72, .slice A3 q3 c3, .pointer (some ⟨w.heap.size, 1, none⟩), .slice (some ⟨q, off, none⟩) n c, .int .i64 (k : Int), .pointer (some ⟨q, off + k * 8, none⟩), u78, u79, u80, u81, u82, u83, undef], defers := [] } Z1 := by
          refine (hG _ _ _ _).2 ?_
          refine wpAnyIn_ready (rs := [6, 12]) (by kernel_rfl) (by simp) ?_
          refine AllReadyIn.cons rfl (fun K hK => ?_) (AllReadyIn.cons rfl (fun K hK => ?_) (AllReadyIn.nil))
          · have tl := hcl
            go_simp
            refine hK _ _ ?_
            clear hK K
            (try simp only [Act.put, List.setIfInBounds_toArray, List.set_cons_zero, List.set_cons_succ])
            exact (hG _ _ _ _).1 hs111111111111000000
          · go_simp
            refine hK _ _ ?_
            clear hK K
            (try simp only [Act.put, List.setIfInBounds_toArray, List.set_cons_zero, List.set_cons_succ])
            exact (hG _ _ _ _).1 hs111111011111100000
        have hs111110011111100000 : G 7 #[true, true, true, true, true, false, false, true, true, true, true, true, true, false, false, false, false, false] { tmps := #[.agg #[.string nm, .slice (some ⟨q, off, none⟩) n c], .pointer (some ⟨w.heap.size, 0, none⟩), u2, .slice A1 q1 c1, .int .i64 0, .slice (some ad) n c2, .int .i64 0, .int .i64 (k : Int), .slice A3 q3 c3, .int .i64 0, .int .i64 R, .bool false, .tuple #[.slice A1 q1 c1, .int .i64 0], .agg #[.string nm, .slice (some ⟨q, off, none⟩) n c], .tuple #[.slice A1 q1 c1, .int .i64 0], .slice A1 q1 c1, .int .i64 0, .pointer (some ⟨w.heap.size, 1, none⟩), .slice (some ⟨q, off, none⟩) n c, .int .i64 (n : Int), .bool false, .bool false, .int .i64 0, .bool false, .bool false, undef, .tuple #[.slice (some ad) n c2, .int .i64 0], .agg #[.string nm, .slice (some ⟨q, off, none⟩) n c], .tuple #[.slice (some ad) n c2, .int .i64 0], .slice (some ad) n c2, .int .i64 0, .int .i64 0, .bool false, .bool false, .slice (some ad) n c2, .int .i64 (n : Int), .pointer (some ⟨w.heap.size, 1, none⟩), .slice (some ⟨q, off, none⟩) n c, .int .i64 (n : Int), .bool false, .bool false, .int .i64 (k : Int), .slice (some ad) n c2, .int .i64 (n : Int), .bool true, u45, u46, .tuple #[.slice A3 q3 c3, .int .i64 0], .agg #[.string nm, .slice (some ⟨q, off, none⟩) n c], .int .i64 (k : Int), .tuple #[.slice A3 q3 c3, .int .i64 0], .slice A3 q3 c3, .int .i64 0, .tuple #[.int .i64 R, .bool false], .pointer (some ⟨w.heap.size, 1, none⟩), .slice (some ⟨q, off, none⟩) n c, .int .i64 (k : Int), .pointer (some ⟨q, off + k * 8, none⟩), .agg #[.int .i64 op, .int .i64 ra, .int .i64 rb, .int .i64 rc, .int .i64 obj, .int .i64 m, .int .i64 fn, .int .i64 ord], .tuple #[.int .i64 R, .bool false], .int .i64 R, .bool false, .bool false, u63, u64, u65, .int .i64 0, .bool false, .bool false, .slice (some ad) n c2, .int .i64 (k : Int), u71, u72, .slice A3 q3 c3, .pointer (some ⟨w.heap.size, 1, none⟩), .slice (some ⟨q, off, none⟩) n c, .int .i64 (k : Int), .pointer (some ⟨q, off + k * 8, none⟩), .agg #[.int .i64 op, .int .i64 ra, .int .i64 rb, .int .i64 rc, .int .i64 obj, .int .i64 m, .int .i64 fn, .int .i64 ord], u79, u80, u81, u82, u83, undef], defers := [] } Z1 := by
          refine (hG _ _ _ _).2 ?_
          refine wpAnyIn_ready (rs := [5, 13]) (by kernel_rfl) (by simp) ?_
          refine AllReadyIn.cons rfl (fun K hK => ?_) (AllReadyIn.cons rfl (fun K hK => ?_) (AllReadyIn.nil))
          · go_simp
            refine hK _ _ ?_
            clear hK K
            (try simp only [Act.put, List.setIfInBounds_toArray, List.set_cons_zero, List.set_cons_succ])
            exact (hG _ _ _ _).1 hs111111011111100000
          · go_simp
            gi_wp2_with fail
            refine ⟨trivial, (callsIn_wide.2 HUC.out).mono ?_⟩
            rintro e X9 ⟨A7, c7, rfl, hr7, hb7⟩
            rw [HM7.out]
            refine hK _ _ ?_
            clear hK K
            (try simp only [Act.put, List.setIfInBounds_toArray, List.set_cons_zero, List.set_cons_succ])
            exact (hG _ _ _ _).1 (hs111110011111110000 _ _ _ ⟨hb7, hr7⟩)
        have hs111111111010000000 : G 8 #[true, true, true, true, true, true, true, true, true, false, true, false, false, false, false, false, false, false] { tmps := #[.agg #[.string nm, .slice (some ⟨q, off, none⟩) n c], .pointer (some ⟨w.heap.size, 0, none⟩), u2, .slice A1 q1 c1, .int .i64 0, .slice (some ad) n c2, .int .i64 0, .int .i64 (k : Int), .slice A3 q3 c3, .int .i64 0, .int .i64 R, .bool false, .tuple #[.slice A1 q1 c1, .int .i64 0], .agg #[.string nm, .slice (some ⟨q, off, none⟩) n c], .tuple #[.slice A1 q1 c1, .int .i64 0], .slice A1 q1 c1, .int .i64 0, .pointer (some ⟨w.heap.size, 1, none⟩), .slice (some ⟨q, off, none⟩) n c, .int .i64 (n : Int), .bool false, .bool false, .int .i64 0, .bool false, .bool false, undef, .tuple #[.slice (some ad) n c2, .int .i64 0], .agg #[.string nm, .slice (some ⟨q, off, none⟩) n c], .tuple #[.slice (some ad) n c2, .int .i64 0], .slice (some ad) n c2, .int .i64 0, .int .i64 0, .bool false, .bool false, .slice (some ad) n c2, .int .i64 (n : Int), .pointer (some ⟨w.heap.size, 1, none⟩), .slice (some ⟨q, off, none⟩) n c, .int .i64 (n : Int), .bool false, .bool false, .int .i64 (k : Int), .slice (some ad) n c2, .int .i64 (n : Int), .bool true, u45, u46, .tuple #[.slice A3 q3 c3, .int .i64 0], .agg #[.string nm, .slice (some ⟨q, off, none⟩) n c], .int .i64 (k : Int), .tuple #[.slice A3 q3 c3, .int .i64 0], .slice A3 q3 c3, .int .i64 0, .tuple #[.int .i64 R, .bool false], .pointer (some ⟨w.heap.size, 1, none⟩), .slice (some ⟨q, off, none⟩) n c, .int .i64 (k : Int), .pointer (some ⟨q, off + k * 8, none⟩), .agg #[.int .i64 op, .int .i64 ra, .int .i64 rb, .int .i64 rc, .int .i64 obj, .int .i64 m, .int .i64 fn, .int .i64 ord], .tuple #[.int .i64 R, .bool false], .int .i64 R, .bool false, .bool false, u63, u64, u65, .int .i64 0, .bool false, .bool false, .slice (some ad) n c2, .int .i64 (k : Int), .pointer (some (ad.add k)), .slice Al ql cl, .slice A3 q3 c3, .pointer (some ⟨w.heap.size, 1, none⟩), u75, .int .i64 (k : Int), u77, u78, u79, u80, u81, u82, u83, undef], defers := [] } Z1 := by
          refine (hG _ _ _ _).2 ?_
          refine wpAnyIn_ready (rs := [9]) (by kernel_rfl) (by simp) ?_
          refine AllReadyIn.cons rfl (fun K hK => ?_) (AllReadyIn.nil)
          · go_simp
            refine hK _ _ ?_
            clear hK K
            (try simp only [Act.put, List.setIfInBounds_toArray, List.set_cons_zero, List.set_cons_succ])
            exact (hG _ _ _ _).1 hs111111111110000000
        have hs111111011110000000 : G 8 #[true, true, true, true, true, true, false, true, true, true, true, false, false, false, false, false, false, false] { tmps := #[.agg #[.string nm, .slice (some ⟨q, off, none⟩) n c], .pointer (some ⟨w.heap.size, 0, none⟩), u2, .slice A1 q1 c1, .int .i64 0, .slice (some ad) n c2, .int .i64 0, .int .i64 (k : Int), .slice A3 q3 c3, .int .i64 0, .int .i64 R, .bool false, .tuple #[.slice A1 q1 c1, .int .i64 0], .agg #[.string nm, .slice (some ⟨q, off, none⟩) n c], .tuple #[.slice A1 q1 c1, .int .i64 0], .slice A1 q1 c1, .int .i64 0, .pointer (some ⟨w.heap.size, 1, none⟩), .slice (some ⟨q, off, none⟩) n c, .int .i64 (n : Int), .bool false, .bool false, .int .i64 0, .bool false, .bool false, undef, .tuple #[.slice (some ad) n c2, .int .i64 0], .agg #[.string nm, .slice (some ⟨q, off, none⟩) n c], .tuple #[.slice (some ad) n c2, .int .i64 0], .slice (some ad) n c2, .int .i64 0, .int .i64 0, .bool false, .bool false, .slice (some ad) n c2, .int .i64 (n : Int), .pointer (some ⟨w.heap.size, 1, none⟩), .slice (some ⟨q, off, none⟩) n c, .int .i64 (n : Int), .bool false, .bool false, .int .i64 (k : Int), .slice (some ad) n c2, .int .i64 (n : Int), .bool true, u45, u46, .tuple #[.slice A3 q3 c3, .int .i64 0], .agg #[.string nm, .slice (some ⟨q, off, none⟩) n c], .int .i64 (k : Int), .tuple #[.slice A3 q3 c3, .int .i64 0], .slice A3 q3 c3, .int .i64 0, .tuple #[.int .i64 R, .bool false], .pointer (some ⟨w.heap.size, 1, none⟩), .slice (some ⟨q, off, none⟩) n c, .int .i64 (k : Int), .pointer (some ⟨q, off + k * 8, none⟩), .agg #[.int .i64 op, .int .i64 ra, .int .i64 rb, .int .i64 rc, .int .i64 obj, .int .i64 m, .int .i64 fn, .int .i64 ord], .tuple #[.int .i64 R, .bool false], .int .i64 R, .bool false, .bool false, u63, u64, u65, .int .i64 0, .bool false, .bool false, .slice (some ad) n c2, .int .i64 (k : Int), .pointer (some (ad.add k)), u72, .slice A3 q3 c3, .pointer (some ⟨w.heap.size, 1, none⟩), .slice (some ⟨q, off, none⟩) n c, .int .i64 (k : Int), u77, u78, u79, u80, u81, u82, u83, undef], defers := [] } Z1 := by
          refine (hG _ _ _ _).2 ?_
          refine wpAnyIn_ready (rs := [6, 11]) (by kernel_rfl) (by simp) ?_
          refine AllReadyIn.cons rfl (fun K hK => ?_) (AllReadyIn.cons rfl (fun K hK => ?_) (AllReadyIn.nil))
          · have tl := hcl
            go_simp
            refine hK _ _ ?_
            clear hK K
            (try simp only [Act.put, List.setIfInBounds_toArray, List.set_cons_zero, List.set_cons_succ])
            exact (hG _ _ _ _).1 hs111111111110000000
          · go_simp
            refine hK _ _ ?_
            clear hK K
            (try simp only [Act.put, List.setIfInBounds_toArray, List.set_cons_zero, List.set_cons_succ])
            exact (hG _ _ _ _).1 hs111111011111000000
        have hs111110011111000000 : G 8 #[true, true, true, true, true, false, false, true, true, true, true, true, false, false, false, false, false, false] { tmps := #[.agg #[.string nm, .slice (some ⟨q, off, none⟩) n c], .pointer (some ⟨w.heap.size, 0, none⟩), u2, .slice A1 q1 c1, .int .i64 0, .slice (some ad) n c2, .int .i64 0, .int .i64 (k : Int), .slice A3 q3 c3, .int .i64 0, .int .i64 R, .bool false, .tuple #[.slice A1 q1 c1, .int .i64 0], .agg #[.string nm, .slice (some ⟨q, off, none⟩) n c], .tuple #[.slice A1 q1 c1, .int .i64 0], .slice A1 q1 c1, .int .i64 0, .pointer (some ⟨w.heap.size, 1, none⟩), .slice (some ⟨q, off, none⟩) n c, .int .i64 (n : Int), .bool false, .bool false, .int .i64 0, .bool false, .bool false, undef, .tuple #[.slice (some ad) n c2, .int .i64 0], .agg #[.string nm, .slice (some ⟨q, off, none⟩) n c], .tuple #[.slice (some ad) n c2, .int .i64 0], .slice (some ad) n c2, .int .i64 0, .int .i64 0, .bool false, .bool false, .slice (some ad) n c2, .int .i64 (n : Int), .pointer (some ⟨w.heap.size, 1, none⟩), .slice (some ⟨q, off, none⟩) n c, .int .i64 (n : Int), .bool false, .bool false, .int .i64 (k : Int), .slice (some ad) n c2, .int .i64 (n : Int), .bool true, u45, u46, .tuple #[.slice A3 q3 c3, .int .i64 0], .agg #[.string nm, .slice (some ⟨q, off, none⟩) n c], .int .i64 (k : Int), .tuple #[.slice A3 q3 c3, .int .i64 0], .slice A3 q3 c3, .int .i64 0, .tuple #[.int .i64 R, .bool false], .pointer (some ⟨w.heap.size, 1, none⟩), .slice (some ⟨q, off, none⟩) n c, .int .i64 (k : Int), .pointer (some ⟨q, off + k * 8, none⟩), .agg #[.int .i64 op, .int .i64 ra, .int .i64 rb, .int .i64 rc, .int .i64 obj, .int .i64 m, .int .i64 fn, .int .i64 ord], .tuple #[.int .i64 R, .bool false], .int .i64 R, .bool false, .bool false, u63, u64, u65, .int .i64 0, .bool false, .bool false, .slice (some ad) n c2, .int .i64 (k : Int), u71, u72, .slice A3 q3 c3, .pointer (some ⟨w.heap.size, 1, none⟩), .slice (some ⟨q, off, none⟩) n c, .int .i64 (k : Int), .pointer (some ⟨q, off + k * 8, none⟩), u78, u79, u80, u81, u82, u83, undef], defers := [] } Z1 := by
          refine (hG _ _ _ _).2 ?_
          refine wpAnyIn_ready (rs := [5, 12]) (by kernel_rfl) (by simp) ?_
          refine AllReadyIn.cons rfl (fun K hK => ?_) (AllReadyIn.cons rfl (fun K hK => ?_) (AllReadyIn.nil))
          · go_simp
            refine hK _ _ ?_
            clear hK K
            (try simp only [Act.put, List.setIfInBounds_toArray, List.set_cons_zero, List.set_cons_succ])
            exact (hG _ _ _ _).1 hs111111011111000000
          · go_simp
            refine hK _ _ ?_
            clear hK K
            (try simp only [Act.put, List.setIfInBounds_toArray, List.set_cons_zero, List.set_cons_succ])
            exact (hG _ _ _ _).1 hs111110011111100000
        have hs111111110010000000 : G 9 #[true, true, true, true, true, true, true, true, false, false, true, false, false, false, false, false, false, false] { tmps := #[.agg #[.string nm, .slice (some ⟨q, off, none⟩) n c], .pointer (some ⟨w.heap.size, 0, none⟩), u2, .slice A1 q1 c1, .int .i64 0, .slice (some ad) n c2, .int .i64 0, .int .i64 (k : Int), .slice A3 q3 c3, .int .i64 0, .int .i64 R, .bool false, .tuple #[.slice A1 q1 c1, .int .i64 0], .agg #[.string nm, .slice (some ⟨q, off, none⟩) n c], .tuple #[.slice A1 q1 c1, .int .i64 0], .slice A1 q1 c1, .int .i64 0, .pointer (some ⟨w.heap.size, 1, none⟩), .slice (some ⟨q, off, none⟩) n c, .int .i64 (n : Int), .bool false, .bool false, .int .i64 0, .bool false, .bool false, undef, .tuple #[.slice (some ad) n c2, .int .i64 0], .agg #[.string nm, .slice (some ⟨q, off, none⟩) n c], .tuple #[.slice (some ad) n c2, .int .i64 0], .slice (some ad) n c2, .int .i64 0, .int .i64 0, .bool false, .bool false, .slice (some ad) n c2, .int .i64 (n : Int), .pointer (some ⟨w.heap.size, 1, none⟩), .slice (some ⟨q, off, none⟩) n c, .int .i64 (n : Int), .bool false, .bool false, .int .i64 (k : Int), .slice (some ad) n c2, .int .i64 (n : Int), .bool true, u45, u46, .tuple #[.slice A3 q3 c3, .int .i64 0], .agg #[.string nm, .slice (some ⟨q, off, none⟩) n c], .int .i64 (k : Int), .tuple #[.slice A3 q3 c3, .int .i64 0], .slice A3 q3 c3, .int .i64 0, .tuple #[.int .i64 R, .bool false], .pointer (some ⟨w.heap.size, 1, none⟩), .slice (some ⟨q, off, none⟩) n c, .int .i64 (k : Int), .pointer (some ⟨q, off + k * 8, none⟩), .agg #[.int .i64 op, .int .i64 ra, .int .i64 rb, .int .i64 rc, .int .i64 obj, .int .i64 m, .int .i64 fn, .int .i64 ord], .tuple #[.int .i64 R, .bool false], .int .i64 R, .bool false, .bool false, u63, u64, u65, .int .i64 0, .bool false, .bool false, .slice (some ad) n c2, .int .i64 (k : Int), .pointer (some (ad.add k)), .slice Al ql cl, .slice A3 q3 c3, u74, u75, .int .i64 (k : Int), u77, u78, u79, u80, u81, u82, u83, undef], defers := [] } Z1 := by
          refine (hG _ _ _ _).2 ?_
          refine wpAnyIn_ready (rs := [8]) (by kernel_rfl) (by simp) ?_
          refine AllReadyIn.cons rfl (fun K hK => ?_) (AllReadyIn.nil)
          · go_simp
            refine hK _ _ ?_
            clear hK K
            (try simp only [Act.put, List.setIfInBounds_toArray, List.set_cons_zero, List.set_cons_succ])
            exact (hG _ _ _ _).1 hs111111111010000000
        have hs111111011010000000 : G 9 #[true, true, true, true, true, true, false, true, true, false, true, false, false, false, false, false, false, false] { tmps := #[.agg #[.string nm, .slice (some ⟨q, off, none⟩) n c], .pointer (some ⟨w.heap.size, 0, none⟩), u2, .slice A1 q1 c1, .int .i64 0, .slice (some ad) n c2, .int .i64 0, .int .i64 (k : Int), .slice A3 q3 c3, .int .i64 0, .int .i64 R, .bool false, .tuple #[.slice A1 q1 c1, .int .i64 0], .agg #[.string nm, .slice (some ⟨q, off, none⟩) n c], .tuple #[.slice A1 q1 c1, .int .i64 0], .slice A1 q1 c1, .int .i64 0, .pointer (some ⟨w.heap.size, 1, none⟩), .slice (some ⟨q, off, none⟩) n c, .int .i64 (n : Int), .bool false, .bool false, .int .i64 0, .bool false, .bool false, undef, .tuple #[.slice (some ad) n c2, .int .i64 0], .agg #[.string nm, .slice (some ⟨q, off, none⟩) n c], .tuple #[.slice (some ad) n c2, .int .i64 0], .slice (some ad) n c2, .int .i64 0, .int .i64 0, .bool false, .bool false, .slice (some ad) n c2, .int .i64 (n : Int), .pointer (some ⟨w.heap.size, 1, none⟩), .slice (some ⟨q, off, none⟩) n c, .int .i64 (n : Int), .bool false, .bool false, .int .i64 (k : Int), .slice (some ad) n c2, .int .i64 (n : Int), .bool true, u45, u46, .tuple #[.slice A3 q3 c3, .int .i64 0], .agg #[.string nm, .slice (some ⟨q, off, none⟩) n c], .int .i64 (k : Int), .tuple #[.slice A3 q3 c3, .int .i64 0], .slice A3 q3 c3, .int .i64 0, .tuple #[.int .i64 R, .bool false], .pointer (some ⟨w.heap.size, 1, none⟩), .slice (some ⟨q, off, none⟩) n c, .int .i64 (k : Int), .pointer (some ⟨q, off + k * 8, none⟩), .agg #[.int .i64 op, .int .i64 ra, .int .i64 rb, .int .i64 rc, .int .i64 obj, .int .i64 m, .int .i64 fn, .int .i64 ord], .tuple #[.int .i64 R, .bool false], .int .i64 R, .bool false, .bool false, u63, u64, u65, .int .i64 0, .bool false, .bool false, .slice (some ad) n c2, .int .i64 (k : Int), .pointer (some (ad.add k)), u72, .slice A3 q3 c3, .pointer (some ⟨w.heap.size, 1, none⟩), u75, .int .i64 (k : Int), u77, u78, u79, u80, u81, u82, u83, undef], defers := [] } Z1 := by
          refine (hG _ _ _ _).2 ?_
          refine wpAnyIn_ready (rs := [6, 9]) (by kernel_rfl) (by simp) ?_
          refine AllReadyIn.cons rfl (fun K hK => ?_) (AllReadyIn.cons rfl (fun K hK => ?_) (AllReadyIn.nil))
          · have tl := hcl
            go_simp
            refine hK _ _ ?_
            clear hK K
            (try simp only [Act.put, List.setIfInBounds_toArray, List.set_cons_zero, List.set_cons_succ])
            exact (hG _ _ _ _).1 hs111111111010000000
          · go_simp
            refine hK _ _ ?_
            clear hK K
            (try simp only [Act.put, List.setIfInBounds_toArray, List.set_cons_zero, List.set_cons_succ])
            exact (hG _ _ _ _).1 hs111111011110000000
        have hs111110011110000000 : G 9 #[true, true, true, true, true, false, false, true, true, true, true, false, false, false, false, false, false, false] { tmps := #[.agg #[.string nm, .slice (some ⟨q, off, none⟩) n c], .pointer (some ⟨w.heap.size, 0, none⟩), u2, .slice A1 q1 c1, .int .i64 0, .slice (some ad) n c2, .int .i64 0, .int .i64 (k : Int), .slice A3 q3 c3, .int .i64 0, .int .i64 R, .bool false, .tuple #[.slice A1 q1 c1, .int .i64 0], .agg #[.string nm, .slice (some ⟨q, off, none⟩) n c], .tuple #[.slice A1 q1 c1, .int .i64 0], .slice A1 q1 c1, .int .i64 0, .pointer (some ⟨w.heap.size, 1, none⟩), .slice (some ⟨q, off, none⟩) n c, .int .i64 (n : Int), .bool false, .bool false, .int .i64 0, .bool false, .bool false, undef, .tuple #[.slice (some ad) n c2, .int .i64 0], .agg #[.string nm, .slice (some ⟨q, off, none⟩) n c], .tuple #[.slice (some ad) n c2, .int .i64 0], .slice (some ad) n c2, .int .i64 0, .int .i64 0, .bool false, .bool false, .slice (some ad) n c2, .int .i64 (n : Int), .pointer (some ⟨w.heap.size, 1, none⟩), .slice (some ⟨q, off, none⟩) n c, .int .i64 (n : Int), .bool false, .bool false, .int .i64 (k : Int), .slice (some ad) n c2, .int .i64 (n : Int), .bool true, u45, u46, .tuple #[.slice A3 q3 c3, .int .i64 0], .agg #[.string nm, .slice (some ⟨q, off, none⟩) n c], .int .i64 (k : Int), .tuple #[.slice A3 q3 c3, .int .i64 0], .slice A3 q3 c3, .int .i64 0, .tuple #[.int .i64 R, .bool false], .pointer (some ⟨w.heap.size, 1, none⟩), .slice (some ⟨q, off, none⟩) n c, .int .i64 (k : Int), .pointer (some ⟨q, off + k * 8, none⟩), .agg #[.int .i64 op, .int .i64 ra, .int .i64 rb, .int .i64 rc, .int .i64 obj, .int .i64 m, .int .i64 fn, .int .i64 ord], .tuple #[.int .i64 R, .bool false], .int .i64 R, .bool false, .bool false, u63, u64, u65, .int .i64 0, .bool false, .bool false, .slice (some ad) n c2, .int .i64 (k : Int), u71, u72, .slice A3 q3 c3, .pointer (some ⟨w.heap.size, 1, none⟩), .slice (some ⟨q, off, none⟩) n c, .int .i64 (k : Int), u77, u78, u79, u80, u81, u82, u83, undef], defers := [] } Z1 := by
          refine (hG _ _ _ _).2 ?_
          refine wpAnyIn_ready (rs := [5, 11]) (by kernel_rfl) (by simp) ?_
          refine AllReadyIn.cons rfl (fun K hK => ?_) (AllReadyIn.cons rfl (fun K hK => ?_) (AllReadyIn.nil))
          · go_simp
            refine hK _ _ ?_
            clear hK K
            (try simp only [Act.put, List.setIfInBounds_toArray, List.set_cons_zero, List.set_cons_succ])
            exact (hG _ _ _ _).1 hs111111011110000000
          · go_simp
            refine hK _ _ ?_
            clear hK K
            (try simp only [Act.put, List.setIfInBounds_toArray, List.set_cons_zero, List.set_cons_succ])
            exact (hG _ _ _ _).1 hs111110011111000000
        have hs111111010010000000 : G 10 #[true, true, true, true, true, true, false, true, false, false, true, false, false, false, false, false, false, false] { tmps := #[.agg #[.string nm, .slice (some ⟨q, off, none⟩) n c], .pointer (some ⟨w.heap.size, 0, none⟩), u2, .slice A1 q1 c1, .int .i64 0, .slice (some ad) n c2, .int .i64 0, .int .i64 (k : Int), .slice A3 q3 c3, .int .i64 0, .int .i64 R, .bool false, .tuple #[.slice A1 q1 c1, .int .i64 0], .agg #[.string nm, .slice (some ⟨q, off, none⟩) n c], .tuple #[.slice A1 q1 c1, .int .i64 0], .slice A1 q1 c1, .int .i64 0, .pointer (some ⟨w.heap.size, 1, none⟩), .slice (some ⟨q, off, none⟩) n c, .int .i64 (n : Int), .bool false, .bool false, .int .i64 0, .bool false, .bool false, undef, .tuple #[.slice (some ad) n c2, .int .i64 0], .agg #[.string nm, .slice (some ⟨q, off, none⟩) n c], .tuple #[.slice (some ad) n c2, .int .i64 0], .slice (some ad) n c2, .int .i64 0, .int .i64 0, .bool false, .bool false, .slice (some ad) n c2, .int .i64 (n : Int), .pointer (some ⟨w.heap.size, 1, none⟩), .slice (some ⟨q, off, none⟩) n c, .int .i64 (n : Int), .bool false, .bool false, .int .i64 (k : Int), .slice (some ad) n c2, .int .i64 (n : Int), .bool true, u45, u46, .tuple #[.slice A3 q3 c3, .int .i64 0], .agg #[.string nm, .slice (some ⟨q, off, none⟩) n c], .int .i64 (k : Int), .tuple #[.slice A3 q3 c3, .int .i64 0], .slice A3 q3 c3, .int .i64 0, .tuple #[.int .i64 R, .bool false], .pointer (some ⟨w.heap.size, 1, none⟩), .slice (some ⟨q, off, none⟩) n c, .int .i64 (k : Int), .pointer (some ⟨q, off + k * 8, none⟩), .agg #[.int .i64 op, .int .i64 ra, .int .i64 rb, .int .i64 rc, .int .i64 obj, .int .i64 m, .int .i64 fn, .int .i64 ord], .tuple #[.int .i64 R, .bool false], .int .i64 R, .bool false, .bool false, u63, u64, u65, .int .i64 0, .bool false, .bool false, .slice (some ad) n c2, .int .i64 (k : Int), .pointer (some (ad.add k)), u72, .slice A3 q3 c3, u74, u75, .int .i64 (k : Int), u77, u78, u79, u80, u81, u82, u83, undef], defers := [] } Z1 := by
          refine (hG _ _ _ _).2 ?_
          refine wpAnyIn_ready (rs := [6, 8]) (by kernel_rfl) (by simp) ?_
          refine AllReadyIn.cons rfl (fun K hK => ?_) (AllReadyIn.cons rfl (fun K hK => ?_) (AllReadyIn.nil))
          · have tl := hcl
            go_simp
            refine hK _ _ ?_
            clear hK K
            (try simp only [Act.put, List.setIfInBounds_toArray, List.set_cons_zero, List.set_cons_succ])
            exact (hG _ _ _ _).1 hs111111110010000000
          · go_simp
            refine hK _ _ ?_
            clear hK K
            (try simp only [Act.put, List.setIfInBounds_toArray, List.set_cons_zero, List.set_cons_succ])
            exact (hG _ _ _ _).1 hs111111011010000000
        have hs111110011010000000 : G 10 #[true, true, true, true, true, false, false, true, true, false, true, false, false, false, false, false, false, false] { tmps := #[.agg #[.string nm, .slice (some ⟨q, off, none⟩) n c], .pointer (some ⟨w.heap.size, 0, none⟩), u2, .slice A1 q1 c1, .int .i64 0, .slice (some ad) n c2, .int .i64 0, .int .i64 (k : Int), .slice A3 q3 c3, .int .i64 0, .int .i64 R, .bool false, .tuple #[.slice A1 q1 c1, .int .i64 0], .agg #[.string nm, .slice (some ⟨q, off, none⟩) n c], .tuple #[.slice A1 q1 c1, .int .i64 0], .slice A1 q1 c1, .int .i64 0, .pointer (some ⟨w.heap.size, 1, none⟩), .slice (some ⟨q, off, none⟩) n c, .int .i64 (n : Int), .bool false, .bool false, .int .i64 0, .bool false, .bool false, undef, .tuple #[.slice (some ad) n c2, .int .i64 0], .agg #[.string nm, .slice (some ⟨q, off, none⟩) n c], .tuple #[.slice (some ad) n c2, .int .i64 0], .slice (some ad) n c2, .int .i64 0, .int .i64 0, .bool false, .bool false, .slice (some ad) n c2, .int .i64 (n : Int), .pointer (some ⟨w.heap.size, 1, none⟩), .slice (some ⟨q, off, none⟩) n c, .int .i64 (n : Int), .bool false, .bool false, .int .i64 (k : Int), .slice (some ad) n c2, .int .i64 (n : Int), .bool true, u45, u46, .tuple #[.slice A3 q3 c3, .int .i64 0], .agg #[.string nm, .slice (some ⟨q, off, none⟩) n c], .int .i64 (k : Int), .tuple #[.slice A3 q3 c3, .int .i64 0], .slice A3 q3 c3, .int .i64 0, .tuple #[.int .i64 R, .bool false], .pointer (some ⟨w.heap.size, 1, none⟩), .slice (some ⟨q, off, none⟩) n c, .int .i64 (k : Int), .pointer (some ⟨q, off + k * 8, none⟩), .agg #[.int .i64 op, .int .i64 ra, .int .i64 rb, .int .i64 rc, .int .i64 obj, .int .i64 m, .int .i64 fn, .int .i64 ord], .tuple #[.int .i64 R, .bool false], .int .i64 R, .bool false, .bool false, u63, u64, u65, .int .i64 0, .bool false, .bool false, .slice (some ad) n c2, .int .i64 (k : Int), u71, u72, .slice A3 q3 c3, .pointer (some ⟨w.heap.size, 1, none⟩), u75, .int .i64 (k : Int), u77, u78, u79, u80, u81, u82, u83, undef], defers := [] } Z1 := by
          refine (hG _ _ _ _).2 ?_
          refine wpAnyIn_ready (rs := [5, 9]) (by kernel_rfl) (by simp) ?_
          refine AllReadyIn.cons rfl (fun K hK => ?_) (AllReadyIn.cons rfl (fun K hK => ?_) (AllReadyIn.nil))
          · go_simp
            refine hK _ _ ?_
            clear hK K
            (try simp only [Act.put, List.setIfInBounds_toArray, List.set_cons_zero, List.set_cons_succ])
            exact (hG _ _ _ _).1 hs111111011010000000
          · go_simp
            refine hK _ _ ?_
            clear hK K
            (try simp only [Act.put, List.setIfInBounds_toArray, List.set_cons_zero, List.set_cons_succ])
            exact (hG _ _ _ _).1 hs111110011110000000
        have hs111110010010000000 : G 11 #[true, true, true, true, true, false, false, true, false, false, true, false, false, false, false, false, false, false] { tmps := #[.agg #[.string nm, .slice (some ⟨q, off, none⟩) n c], .pointer (some ⟨w.heap.size, 0, none⟩), u2, .slice A1 q1 c1, .int .i64 0, .slice (some ad) n c2, .int .i64 0, .int .i64 (k : Int), .slice A3 q3 c3, .int .i64 0, .int .i64 R, .bool false, .tuple #[.slice A1 q1 c1, .int .i64 0], .agg #[.string nm, .slice (some ⟨q, off, none⟩) n c], .tuple #[.slice A1 q1 c1, .int .i64 0], .slice A1 q1 c1, .int .i64 0, .pointer (some ⟨w.heap.size, 1, none⟩), .slice (some ⟨q, off, none⟩) n c, .int .i64 (n : Int), .bool false, .bool false, .int .i64 0, .bool false, .bool false, undef, .tuple #[.slice (some ad) n c2, .int .i64 0], .agg #[.string nm, .slice (some ⟨q, off, none⟩) n c], .tuple #[.slice (some ad) n c2, .int .i64 0], .slice (some ad) n c2, .int .i64 0, .int .i64 0, .bool false, .bool false, .slice (some ad) n c2, .int .i64 (n : Int), .pointer (some ⟨w.heap.size, 1, none⟩), .slice (some ⟨q, off, none⟩) n c, .int .i64 (n : Int), .bool false, .bool false, .int .i64 (k : Int), .slice (some ad) n c2, .int .i64 (n : Int), .bool true, u45, u46, .tuple #[.slice A3 q3 c3, .int .i64 0], .agg #[.string nm, .slice (some ⟨q, off, none⟩) n c], .int .i64 (k : Int), .tuple #[.slice A3 q3 c3, .int .i64 0], .slice A3 q3 c3, .int .i64 0, .tuple #[.int .i64 R, .bool false], .pointer (some ⟨w.heap.size, 1, none⟩), .slice (some ⟨q, off, none⟩) n c, .int .i64 (k : Int), .pointer (some ⟨q, off + k * 8, none⟩), .agg #[.int .i64 op, .int .i64 ra, .int .i64 rb, .int .i64 rc, .int .i64 obj, .int .i64 m, .int .i64 fn, .int .i64 ord], .tuple #[.int .i64 R, .bool false], .int .i64 R, .bool false, .bool false, u63, u64, u65, .int .i64 0, .bool false, .bool false, .slice (some ad) n c2, .int .i64 (k : Int), u71, u72, .slice A3 q3 c3, u74, u75, .int .i64 (k : Int), u77, u78, u79, u80, u81, u82, u83, undef], defers := [] } Z1 := by
          refine (hG _ _ _ _).2 ?_
          refine wpAnyIn_ready (rs := [5, 8]) (by kernel_rfl) (by simp) ?_
          refine AllReadyIn.cons rfl (fun K hK => ?_) (AllReadyIn.cons rfl (fun K hK => ?_) (AllReadyIn.nil))
          · go_simp
            refine hK _ _ ?_
            clear hK K
            (try simp only [Act.put, List.setIfInBounds_toArray, List.set_cons_zero, List.set_cons_succ])
            exact (hG _ _ _ _).1 hs111111010010000000
          · go_simp
            refine hK _ _ ?_
            clear hK K
            (try simp only [Act.put, List.setIfInBounds_toArray, List.set_cons_zero, List.set_cons_succ])
            exact (hG _ _ _ _).1 hs111110011010000000
        have hs111110010000000000 : G 12 #[true, true, true, true, true, false, false, true, false, false, false, false, false, false, false, false, false, false] { tmps := #[.agg #[.string nm, .slice (some ⟨q, off, none⟩) n c], .pointer (some ⟨w.heap.size, 0, none⟩), u2, .slice A1 q1 c1, .int .i64 0, .slice (some ad) n c2, .int .i64 0, .int .i64 (k : Int), .slice A3 q3 c3, .int .i64 0, .int .i64 R, .bool false, .tuple #[.slice A1 q1 c1, .int .i64 0], .agg #[.string nm, .slice (some ⟨q, off, none⟩) n c], .tuple #[.slice A1 q1 c1, .int .i64 0], .slice A1 q1 c1, .int .i64 0, .pointer (some ⟨w.heap.size, 1, none⟩), .slice (some ⟨q, off, none⟩) n c, .int .i64 (n : Int), .bool false, .bool false, .int .i64 0, .bool false, .bool false, undef, .tuple #[.slice (some ad) n c2, .int .i64 0], .agg #[.string nm, .slice (some ⟨q, off, none⟩) n c], .tuple #[.slice (some ad) n c2, .int .i64 0], .slice (some ad) n c2, .int .i64 0, .int .i64 0, .bool false, .bool false, .slice (some ad) n c2, .int .i64 (n : Int), .pointer (some ⟨w.heap.size, 1, none⟩), .slice (some ⟨q, off, none⟩) n c, .int .i64 (n : Int), .bool false, .bool false, .int .i64 (k : Int), .slice (some ad) n c2, .int .i64 (n : Int), .bool true, u45, u46, .tuple #[.slice A3 q3 c3, .int .i64 0], .agg #[.string nm, .slice (some ⟨q, off, none⟩) n c], .int .i64 (k : Int), .tuple #[.slice A3 q3 c3, .int .i64 0], .slice A3 q3 c3, .int .i64 0, .tuple #[.int .i64 R, .bool false], .pointer (some ⟨w.heap.size, 1, none⟩), .slice (some ⟨q, off, none⟩) n c, .int .i64 (k : Int), .pointer (some ⟨q, off + k * 8, none⟩), .agg #[.int .i64 op, .int .i64 ra, .int .i64 rb, .int .i64 rc, .int .i64 obj, .int .i64 m, .int .i64 fn, .int .i64 ord], .tuple #[.int .i64 R, .bool false], .int .i64 R, .bool false, .bool false, u63, u64, u65, .int .i64 0, .bool false, .bool false, .slice (some ad) n c2, .int .i64 (k : Int), u71, u72, .slice A3 q3 c3, u74, u75, u76, u77, u78, u79, u80, u81, u82, u83, undef], defers := [] } Z1 := by
          refine (hG _ _ _ _).2 ?_
          refine wpAnyIn_take (i := 10) (v := .int .i64 (k : Int)) rfl rfl (by kernel_rfl) (by kernel_rfl) (by kernel_rfl) (fun _ _ _ h => h) (And.intro (Or.inl (And.intro (by kernel_rfl) (fun _ => by kernel_rfl))) (fun _ => by kernel_rfl)) ?_
          (try simp only [Act.put, List.setIfInBounds_toArray, List.set_cons_zero, List.set_cons_succ])
          exact (hG _ _ _ _).1 hs111110010010000000
        have hs111110000000000000 : G 13 #[true, true, true, true, true, false, false, false, false, false, false, false, false, false, false, false, false, false] { tmps := #[.agg #[.string nm, .slice (some ⟨q, off, none⟩) n c], .pointer (some ⟨w.heap.size, 0, none⟩), u2, .slice A1 q1 c1, .int .i64 0, .slice (some ad) n c2, .int .i64 0, .int .i64 (k : Int), .slice A3 q3 c3, .int .i64 0, .int .i64 R, .bool false, .tuple #[.slice A1 q1 c1, .int .i64 0], .agg #[.string nm, .slice (some ⟨q, off, none⟩) n c], .tuple #[.slice A1 q1 c1, .int .i64 0], .slice A1 q1 c1, .int .i64 0, .pointer (some ⟨w.heap.size, 1, none⟩), .slice (some ⟨q, off, none⟩) n c, .int .i64 (n : Int), .bool false, .bool false, .int .i64 0, .bool false, .bool false, undef, .tuple #[.slice (some ad) n c2, .int .i64 0], .agg #[.string nm, .slice (some ⟨q, off, none⟩) n c], .tuple #[.slice (some ad) n c2, .int .i64 0], .slice (some ad) n c2, .int .i64 0, .int .i64 0, .bool false, .bool false, .slice (some ad) n c2, .int .i64 (n : Int), .pointer (some ⟨w.heap.size, 1, none⟩), .slice (some ⟨q, off, none⟩) n c, .int .i64 (n : Int), .bool false, .bool false, .int .i64 (k : Int), .slice (some ad) n c2, .int .i64 (n : Int), .bool true, u45, u46, .tuple #[.slice A3 q3 c3, .int .i64 0], .agg #[.string nm, .slice (some ⟨q, off, none⟩) n c], .int .i64 (k : Int), .tuple #[.slice A3 q3 c3, .int .i64 0], .slice A3 q3 c3, .int .i64 0, .tuple #[.int .i64 R, .bool false], .pointer (some ⟨w.heap.size, 1, none⟩), .slice (some ⟨q, off, none⟩) n c, .int .i64 (k : Int), .pointer (some ⟨q, off + k * 8, none⟩), .agg #[.int .i64 op, .int .i64 ra, .int .i64 rb, .int .i64 rc, .int .i64 obj, .int .i64 m, .int .i64 fn, .int .i64 ord], .tuple #[.int .i64 R, .bool false], .int .i64 R, .bool false, .bool false, u63, u64, u65, .int .i64 0, .bool false, .bool false, .slice (some ad) n c2, .int .i64 (k : Int), u71, u72, u73, u74, u75, u76, u77, u78, u79, u80, u81, u82, u83, undef], defers := [] } Z1 := by
          refine (hG _ _ _ _).2 ?_
          refine wpAnyIn_take (i := 7) (v := .slice A3 q3 c3) rfl rfl (by kernel_rfl) (by kernel_rfl) (by kernel_rfl) (fun _ _ _ h => h) (And.intro (Or.inl (And.intro (by kernel_rfl) (fun _ => by kernel_rfl))) (fun _ => by kernel_rfl)) ?_
          (try simp only [Act.put, List.setIfInBounds_toArray, List.set_cons_zero, List.set_cons_succ])
          exact (hG _ _ _ _).1 hs111110010000000000
        have hs111100000000000000 : G 14 #[true, true, true, true, false, false, false, false, false, false, false, false, false, false, false, false, false, false] { tmps := #[.agg #[.string nm, .slice (some ⟨q, off, none⟩) n c], .pointer (some ⟨w.heap.size, 0, none⟩), u2, .slice A1 q1 c1, .int .i64 0, .slice (some ad) n c2, .int .i64 0, .int .i64 (k : Int), .slice A3 q3 c3, .int .i64 0, .int .i64 R, .bool false, .tuple #[.slice A1 q1 c1, .int .i64 0], .agg #[.string nm, .slice (some ⟨q, off, none⟩) n c], .tuple #[.slice A1 q1 c1, .int .i64 0], .slice A1 q1 c1, .int .i64 0, .pointer (some ⟨w.heap.size, 1, none⟩), .slice (some ⟨q, off, none⟩) n c, .int .i64 (n : Int), .bool false, .bool false, .int .i64 0, .bool false, .bool false, undef, .tuple #[.slice (some ad) n c2, .int .i64 0], .agg #[.string nm, .slice (some ⟨q, off, none⟩) n c], .tuple #[.slice (some ad) n c2, .int .i64 0], .slice (some ad) n c2, .int .i64 0, .int .i64 0, .bool false, .bool false, .slice (some ad) n c2, .int .i64 (n : Int), .pointer (some ⟨w.heap.size, 1, none⟩), .slice (some ⟨q, off, none⟩) n c, .int .i64 (n : Int), .bool false, .bool false, .int .i64 (k : Int), .slice (some ad) n c2, .int .i64 (n : Int), .bool true, u45, u46, .tuple #[.slice A3 q3 c3, .int .i64 0], .agg #[.string nm, .slice (some ⟨q, off, none⟩) n c], .int .i64 (k : Int), .tuple #[.slice A3 q3 c3, .int .i64 0], .slice A3 q3 c3, .int .i64 0, .tuple #[.int .i64 R, .bool false], .pointer (some ⟨w.heap.size, 1, none⟩), .slice (some ⟨q, off, none⟩) n c, .int .i64 (k : Int), .pointer (some ⟨q, off + k * 8, none⟩), .agg #[.int .i64 op, .int .i64 ra, .int .i64 rb, .int .i64 rc, .int .i64 obj, .int .i64 m, .int .i64 fn, .int .i64 ord], .tuple #[.int .i64 R, .bool false], .int .i64 R, .bool false, .bool false, u63, u64, u65, .int .i64 0, .bool false, .bool false, .slice (some ad) n c2, u70, u71, u72, u73, u74, u75, u76, u77, u78, u79, u80, u81, u82, u83, undef], defers := [] } Z1 := by
          refine (hG _ _ _ _).2 ?_
          refine wpAnyIn_take (i := 4) (v := .int .i64 (k : Int)) rfl rfl (by kernel_rfl) (by kernel_rfl) (by kernel_rfl) (fun _ _ _ h => h) (And.intro (Or.inl (And.intro (by kernel_rfl) (fun _ => by kernel_rfl))) (fun _ => by kernel_rfl)) ?_
          (try simp only [Act.put, List.setIfInBounds_toArray, List.set_cons_zero, List.set_cons_succ])
          exact (hG _ _ _ _).1 hs111110000000000000
        have hs111000000000000000 : G 15 #[true, true, true, false, false, false, false, false, false, false, false, false, false, false, false, false, false, false] { tmps := #[.agg #[.string nm, .slice (some ⟨q, off, none⟩) n c], .pointer (some ⟨w.heap.size, 0, none⟩), u2, .slice A1 q1 c1, .int .i64 0, .slice (some ad) n c2, .int .i64 0, .int .i64 (k : Int), .slice A3 q3 c3, .int .i64 0, .int .i64 R, .bool false, .tuple #[.slice A1 q1 c1, .int .i64 0], .agg #[.string nm, .slice (some ⟨q, off, none⟩) n c], .tuple #[.slice A1 q1 c1, .int .i64 0], .slice A1 q1 c1, .int .i64 0, .pointer (some ⟨w.heap.size, 1, none⟩), .slice (some ⟨q, off, none⟩) n c, .int .i64 (n : Int), .bool false, .bool false, .int .i64 0, .bool false, .bool false, undef, .tuple #[.slice (some ad) n c2, .int .i64 0], .agg #[.string nm, .slice (some ⟨q, off, none⟩) n c], .tuple #[.slice (some ad) n c2, .int .i64 0], .slice (some ad) n c2, .int .i64 0, .int .i64 0, .bool false, .bool false, .slice (some ad) n c2, .int .i64 (n : Int), .pointer (some ⟨w.heap.size, 1, none⟩), .slice (some ⟨q, off, none⟩) n c, .int .i64 (n : Int), .bool false, .bool false, .int .i64 (k : Int), .slice (some ad) n c2, .int .i64 (n : Int), .bool true, u45, u46, .tuple #[.slice A3 q3 c3, .int .i64 0], .agg #[.string nm, .slice (some ⟨q, off, none⟩) n c], .int .i64 (k : Int), .tuple #[.slice A3 q3 c3, .int .i64 0], .slice A3 q3 c3, .int .i64 0, .tuple #[.int .i64 R, .bool false], .pointer (some ⟨w.heap.size, 1, none⟩), .slice (some ⟨q, off, none⟩) n c, .int .i64 (k : Int), .pointer (some ⟨q, off + k * 8, none⟩), .agg #[.int .i64 op, .int .i64 ra, .int .i64 rb, .int .i64 rc, .int .i64 obj, .int .i64 m, .int .i64 fn, .int .i64 ord], .tuple #[.int .i64 R, .bool false], .int .i64 R, .bool false, .bool false, u63, u64, u65, .int .i64 0, .bool false, .bool false, u69, u70, u71, u72, u73, u74, u75, u76, u77, u78, u79, u80, u81, u82, u83, undef], defers := [] } Z1 := by
          refine (hG _ _ _ _).2 ?_
          refine wpAnyIn_take (i := 3) (v := .slice (some ad) n c2) rfl rfl (by kernel_rfl) (by kernel_rfl) (by kernel_rfl) (fun _ _ _ h => h) (And.intro (Or.inl (And.intro (by kernel_rfl) (fun _ => by kernel_rfl))) (fun _ => by kernel_rfl)) ?_
          (try simp only [Act.put, List.setIfInBounds_toArray, List.set_cons_zero, List.set_cons_succ])
          exact (hG _ _ _ _).1 hs111100000000000000
        have hs110000000000000000 : G 16 #[true, true, false, false, false, false, false, false, false, false, false, false, false, false, false, false, false, false] { tmps := #[.agg #[.string nm, .slice (some ⟨q, off, none⟩) n c], .pointer (some ⟨w.heap.size, 0, none⟩), u2, .slice A1 q1 c1, .int .i64 0, .slice (some ad) n c2, .int .i64 0, .int .i64 (k : Int), .slice A3 q3 c3, .int .i64 0, .int .i64 R, .bool false, .tuple #[.slice A1 q1 c1, .int .i64 0], .agg #[.string nm, .slice (some ⟨q, off, none⟩) n c], .tuple #[.slice A1 q1 c1, .int .i64 0], .slice A1 q1 c1, .int .i64 0, .pointer (some ⟨w.heap.size, 1, none⟩), .slice (some ⟨q, off, none⟩) n c, .int .i64 (n : Int), .bool false, .bool false, .int .i64 0, .bool false, .bool false, undef, .tuple #[.slice (some ad) n c2, .int .i64 0], .agg #[.string nm, .slice (some ⟨q, off, none⟩) n c], .tuple #[.slice (some ad) n c2, .int .i64 0], .slice (some ad) n c2, .int .i64 0, .int .i64 0, .bool false, .bool false, .slice (some ad) n c2, .int .i64 (n : Int), .pointer (some ⟨w.heap.size, 1, none⟩), .slice (some ⟨q, off, none⟩) n c, .int .i64 (n : Int), .bool false, .bool false, .int .i64 (k : Int), .slice (some ad) n c2, .int .i64 (n : Int), .bool true, u45, u46, .tuple #[.slice A3 q3 c3, .int .i64 0], .agg #[.string nm, .slice (some ⟨q, off, none⟩) n c], .int .i64 (k : Int), .tuple #[.slice A3 q3 c3, .int .i64 0], .slice A3 q3 c3, .int .i64 0, .tuple #[.int .i64 R, .bool false], .pointer (some ⟨w.heap.size, 1, none⟩), .slice (some ⟨q, off, none⟩) n c, .int .i64 (k : Int), .pointer (some ⟨q, off + k * 8, none⟩), .agg #[.int .i64 op, .int .i64 ra, .int .i64 rb, .int .i64 rc, .int .i64 obj, .int .i64 m, .int .i64 fn, .int .i64 ord], .tuple #[.int .i64 R, .bool false], .int .i64 R, .bool false, .bool false, u63, u64, u65, .int .i64 0, .bool false, u68, u69, u70, u71, u72, u73, u74, u75, u76, u77, u78, u79, u80, u81, u82, u83, undef], defers := [] } Z1 := by
          refine (hG _ _ _ _).2 ?_
          refine wpAnyIn_ready (rs := [2]) (by kernel_rfl) (by simp) ?_
          refine AllReadyIn.cons rfl (fun K hK => ?_) (AllReadyIn.nil)
          go_simp
          refine hK _ _ ?_
          clear hK K
          (try simp only [Act.put, List.setIfInBounds_toArray, List.set_cons_zero, List.set_cons_succ])
          exact (hG _ _ _ _).1 hs111000000000000000
        have hs100000000000000000 : G 17 #[true, false, false, false, false, false, false, false, false, false, false, false, false, false, false, false, false, false] { tmps := #[.agg #[.string nm, .slice (some ⟨q, off, none⟩) n c], .pointer (some ⟨w.heap.size, 0, none⟩), u2, .slice A1 q1 c1, .int .i64 0, .slice (some ad) n c2, .int .i64 0, .int .i64 (k : Int), .slice A3 q3 c3, .int .i64 0, .int .i64 R, .bool false, .tuple #[.slice A1 q1 c1, .int .i64 0], .agg #[.string nm, .slice (some ⟨q, off, none⟩) n c], .tuple #[.slice A1 q1 c1, .int .i64 0], .slice A1 q1 c1, .int .i64 0, .pointer (some ⟨w.heap.size, 1, none⟩), .slice (some ⟨q, off, none⟩) n c, .int .i64 (n : Int), .bool false, .bool false, .int .i64 0, .bool false, .bool false, undef, .tuple #[.slice (some ad) n c2, .int .i64 0], .agg #[.string nm, .slice (some ⟨q, off, none⟩) n c], .tuple #[.slice (some ad) n c2, .int .i64 0], .slice (some ad) n c2, .int .i64 0, .int .i64 0, .bool false, .bool false, .slice (some ad) n c2, .int .i64 (n : Int), .pointer (some ⟨w.heap.size, 1, none⟩), .slice (some ⟨q, off, none⟩) n c, .int .i64 (n : Int), .bool false, .bool false, .int .i64 (k : Int), .slice (some ad) n c2, .int .i64 (n : Int), .bool true, u45, u46, .tuple #[.slice A3 q3 c3, .int .i64 0], .agg #[.string nm, .slice (some ⟨q, off, none⟩) n c], .int .i64 (k : Int), .tuple #[.slice A3 q3 c3, .int .i64 0], .slice A3 q3 c3, .int .i64 0, .tuple #[.int .i64 R, .bool false], .pointer (some ⟨w.heap.size, 1, none⟩), .slice (some ⟨q, off, none⟩) n c, .int .i64 (k : Int), .pointer (some ⟨q, off + k * 8, none⟩), .agg #[.int .i64 op, .int .i64 ra, .int .i64 rb, .int .i64 rc, .int .i64 obj, .int .i64 m, .int .i64 fn, .int .i64 ord], .tuple #[.int .i64 R, .bool false], .int .i64 R, .bool false, .bool false, u63, u64, u65, .int .i64 0, u67, u68, u69, u70, u71, u72, u73, u74, u75, u76, u77, u78, u79, u80, u81, u82, u83, undef], defers := [] } Z1 := by
          refine (hG _ _ _ _).2 ?_
          refine wpAnyIn_ready (rs := [1]) (by kernel_rfl) (by simp) ?_
          refine AllReadyIn.cons rfl (fun K hK => ?_) (AllReadyIn.nil)
          go_simp
          refine hK _ _ ?_
          clear hK K
          (try simp only [Act.put, List.setIfInBounds_toArray, List.set_cons_zero, List.set_cons_succ])
          exact (hG _ _ _ _).1 hs110000000000000000
        have hs000000000000000000 : G 18 #[false, false, false, false, false, false, false, false, false, false, false, false, false, false, false, false, false, false] { tmps := #[.agg #[.string nm, .slice (some ⟨q, off, none⟩) n c], .pointer (some ⟨w.heap.size, 0, none⟩), u2, .slice A1 q1 c1, .int .i64 0, .slice (some ad) n c2, .int .i64 0, .int .i64 (k : Int), .slice A3 q3 c3, .int .i64 0, .int .i64 R, .bool false, .tuple #[.slice A1 q1 c1, .int .i64 0], .agg #[.string nm, .slice (some ⟨q, off, none⟩) n c], .tuple #[.slice A1 q1 c1, .int .i64 0], .slice A1 q1 c1, .int .i64 0, .pointer (some ⟨w.heap.size, 1, none⟩), .slice (some ⟨q, off, none⟩) n c, .int .i64 (n : Int), .bool false, .bool false, .int .i64 0, .bool false, .bool false, undef, .tuple #[.slice (some ad) n c2, .int .i64 0], .agg #[.string nm, .slice (some ⟨q, off, none⟩) n c], .tuple #[.slice (some ad) n c2, .int .i64 0], .slice (some ad) n c2, .int .i64 0, .int .i64 0, .bool false, .bool false, .slice (some ad) n c2, .int .i64 (n : Int), .pointer (some ⟨w.heap.size, 1, none⟩), .slice (some ⟨q, off, none⟩) n c, .int .i64 (n : Int), .bool false, .bool false, .int .i64 (k : Int), .slice (some ad) n c2, .int .i64 (n : Int), .bool true, u45, u46, .tuple #[.slice A3 q3 c3, .int .i64 0], .agg #[.string nm, .slice (some ⟨q, off, none⟩) n c], .int .i64 (k : Int), .tuple #[.slice A3 q3 c3, .int .i64 0], .slice A3 q3 c3, .int .i64 0, .tuple #[.int .i64 R, .bool false], .pointer (some ⟨w.heap.size, 1, none⟩), .slice (some ⟨q, off, none⟩) n c, .int .i64 (k : Int), .pointer (some ⟨q, off + k * 8, none⟩), .agg #[.int .i64 op, .int .i64 ra, .int .i64 rb, .int .i64 rc, .int .i64 obj, .int .i64 m, .int .i64 fn, .int .i64 ord], .tuple #[.int .i64 R, .bool false], .int .i64 R, .bool false, .bool false, u63, u64, u65, u66, u67, u68, u69, u70, u71, u72, u73, u74, u75, u76, u77, u78, u79, u80, u81, u82, u83, undef], defers := [] } Z1 := by
          refine (hG _ _ _ _).2 ?_
          refine wpAnyIn_ready (rs := [0]) (by kernel_rfl) (by simp) ?_
          refine AllReadyIn.cons rfl (fun K hK => ?_) (AllReadyIn.nil)
          go_simp
          refine hK _ _ ?_
          clear hK K
          (try simp only [Act.put, List.setIfInBounds_toArray, List.set_cons_zero, List.set_cons_succ])
          exact (hG _ _ _ _).1 hs100000000000000000
        exact hs000000000000000000
      | true =>
        have HRM := rRemove l3 R _ rfl (by rw [HQ3.out]; omega) A3 c3 w4 HR4.out
        rw [HQ3.out] at HRM
        have HSE : Hid (uni (min' l3 [R]) us = lk) := HSE
        have hlm := lenMin l3 [R]
        rw [HQ3.out] at hlm
        obtain ⟨lx, hlx⟩ : ∃ lx, min' l3 [R] = lx := ⟨_, rfl⟩
        rw [hlx] at HRM HSE hlm
        have HRM := Lib.hid HRM
        clear hlx
        gi_wp2_with fail
        refine ⟨trivial, (callsIn_wide.2 HRM.out).mono ?_⟩
        rintro e w8 ⟨A8, c8, rfl, r8, b8⟩
        obtain ⟨q8, hq8⟩ : ∃ q8, lx.length = q8 := ⟨_, rfl⟩
        rw [hq8] at hlm ⊢
        have HQ8 := Lib.hid hq8
        have HB8 := Lib.hid (belowThen HB4.out b8)
        have HS8 := Lib.hid (belowThen HS4.out b8)
        have HR8 := Lib.hid r8
        clear r8 b8 hq8
        gi_wp2_with fail
        obtain ⟨Z1, hZ1⟩ : ∃ Z1, w8.drew = Z1 := ⟨_, rfl⟩
        have hbZ : Below w8.heap.size w8 Z1 := by rw [← hZ1]; exact (Below.refl _ w8).drew
        have HBZ := Lib.hid (belowThen HB8.out hbZ)
        have HSZ := Lib.hid (belowThen HS8.out hbZ)
        have HRZ := Lib.hid (Rd.below HR8.out hbZ)
        obtain ⟨m0, m1⟩ := HK.out Z1 HBZ.out
        obtain ⟨q', off', hA', _, hEI⟩ := ((HCD.out Z1 HBZ.out).rd).one hkC
        injection hA' with hA'
        injection hA' with hA1 hA2
        subst hA1
        subst hA2
        rw [HII.out] at hEI
        obtain ⟨i0, i1, i2, i3, i4, i5, i6, i7⟩ := hEI
        simp only at i0 i1 i2 i3 i4 i5 i6 i7
        have hkb : k < (beL C).length := by rw [HBL.out]; exact hkn
        obtain ⟨ad, Al, cl, hA2, hcl, hrl⟩ := (HR2.out Z1 HSZ.out).one hkb
        have elk : (beL C)[k] = lk := by
          have h := HLK.out
          rw [List.getElem?_eq_getElem hkb] at h
          exact Option.some.inj h
        rw [elk] at hcl hrl
        obtain ⟨ql, hql⟩ : ∃ ql, lk.length = ql := ⟨_, rfl⟩
        rw [hql] at hcl
        have hadl := World.block_lt_of_cell? _ _ hcl
        have HCL := Lib.hid (fun X (hX : Below Z1.heap.size Z1 X) => (hX.cell hadl).trans hcl)
        have HUC := Lib.hid (HUS.out Z1)
        obtain ⟨m7, hm7⟩ : ∃ m7, us.length = m7 := ⟨_, rfl⟩
        have HM7 := Lib.hid hm7
        have HUN := Lib.hid (fun X A7 c7 (hr : Rd X A7 c7 us) (hX : Below Z1.heap.size Z1 X) => by
          have h := rUnion _ us lk HSE.out (by rw [HQ8.out]; omega) (by omega) A8 A7 c8 c7 X (Rd.below HRZ.out hX) hr
          rw [HQ8.out, hm7] at h
          exact h.mono fun e w' (h : GivesL lk X e w') => (show ∃ A9 c9, e = .returned (.slice A9 ql c9) ∧ Rd w' A9 c9 lk ∧ Below X.heap.size X w' by rw [← hql]; exact h))
        have HIN := Lib.hid (fun X A9 c9 (hr : Rd X A9 c9 lk) (hX : Below Z1.heap.size Z1 X) => intsEq lk ql ql hql hql Al A9 cl c9 X (Rd.below hrl hX) hr)
        subst hA2
        clear hbZ hrl hadl elk hql hm7 hkb
        refine wpIn_region_any (by kernel_rfl) ?_
        change wpAnyIn _ _ _ _ _ _ _ _ _ (World.drew _)
        rw [hZ1]
        clear hZ1
        refine mergeAnyL fun G hG => ?_
        have hs111111111111111111 : ∀ (X9 : World) (A7 : Option Addr) (c7 : Nat) (A9 : Option Addr) (c9 : Nat) (_ : Below Z1.heap.size Z1 X9), G 0 #[true, true, true, true, true, true, true, true, true, true, true, true, true, true, true, true, true, true] { tmps := #[.agg #[.string nm, .slice (some ⟨q, off, none⟩) n c], .pointer (some ⟨w.heap.size, 0, none⟩), u2, .slice A1 q1 c1, .int .i64 0, .slice (some ad) n c2, .int .i64 0, .int .i64 (k : Int), .slice A8 q8 c8, .int .i64 0, .int .i64 R, .bool true, .tuple #[.slice A1 q1 c1, .int .i64 0], .agg #[.string nm, .slice (some ⟨q, off, none⟩) n c], .tuple #[.slice A1 q1 c1, .int .i64 0], .slice A1 q1 c1, .int .i64 0, .pointer (some ⟨w.heap.size, 1, none⟩), .slice (some ⟨q, off, none⟩) n c, .int .i64 (n : Int), .bool false, .bool false, .int .i64 0, .bool false, .bool false, undef, .tuple #[.slice (some ad) n c2, .int .i64 0], .agg #[.string nm, .slice (some ⟨q, off, none⟩) n c], .tuple #[.slice (some ad) n c2, .int .i64 0], .slice (some ad) n c2, .int .i64 0, .int .i64 0, .bool false, .bool false, .slice (some ad) n c2, .int .i64 (n : Int), .pointer (some ⟨w.heap.size, 1, none⟩), .slice (some ⟨q, off, none⟩) n c, .int .i64 (n : Int), .bool false, .bool false, .int .i64 (k : Int), .slice (some ad) n c2, .int .i64 (n : Int), .bool true, u45, u46, .tuple #[.slice A3 q3 c3, .int .i64 0], .agg #[.string nm, .slice (some ⟨q, off, none⟩) n c], .int .i64 (k : Int), .tuple #[.slice A3 q3 c3, .int .i64 0], .slice A3 q3 c3, .int .i64 0, .tuple #[.int .i64 R, .bool true], .pointer (some ⟨w.heap.size, 1, none⟩), .slice (some ⟨q, off, none⟩) n c, .int .i64 (k : Int), .pointer (some ⟨q, off + k * 8, none⟩), .agg #[.int .i64 op, .int .i64 ra, .int .i64 rb, .int .i64 rc, .int .i64 obj, .int .i64 m, .int .i64 fn, .int .i64 ord], .tuple #[.int .i64 R, .bool true], .int .i64 R, .bool true, .bool true, .slice A3 q3 c3, .int .i64 R, .slice A8 q8 c8, .int .i64 0, .bool false, .bool false, .slice (some ad) n c2, .int .i64 (k : Int), .pointer (some (ad.add k)), .slice Al ql cl, .slice A8 q8 c8, .pointer (some ⟨w.heap.size, 1, none⟩), .slice (some ⟨q, off, none⟩) n c, .int .i64 (k : Int), .pointer (some ⟨q, off + k * 8, none⟩), .agg #[.int .i64 op, .int .i64 ra, .int .i64 rb, .int .i64 rc, .int .i64 obj, .int .i64 m, .int .i64 fn, .int .i64 ord], .slice A7 m7 c7, .slice A9 ql c9, .bool true, .bool false, .bool false, undef], defers := [] } X9 := by
          intro X9 A7 c7 A9 c9 HP
          have HP := Lib.hid HP
          refine (hG _ _ _ _).2 ?_
          refine wpAnyIn_done (by kernel_rfl) ?_ _
          have HF := Lib.hid (belowThen HSZ.out HP.out)
          gi_wp2
          go_roundw
          case rel => exact ⟨k + 1, by omega, by go_num, HF⟩
          case measure => simp [intOf]; omega
        have hs111111111111111110 : ∀ (X9 : World) (A7 : Option Addr) (c7 : Nat) (A9 : Option Addr) (c9 : Nat) (_ : Below Z1.heap.size Z1 X9), G 1 #[true, true, true, true, true, true, true, true, true, true, true, true, true, true, true, true, true, false] { tmps := #[.agg #[.string nm, .slice (some ⟨q, off, none⟩) n c], .pointer (some ⟨w.heap.size, 0, none⟩), u2, .slice A1 q1 c1, .int .i64 0, .slice (some ad) n c2, .int .i64 0, .int .i64 (k : Int), .slice A8 q8 c8, .int .i64 0, .int .i64 R, .bool true, .tuple #[.slice A1 q1 c1, .int .i64 0], .agg #[.string nm, .slice (some ⟨q, off, none⟩) n c], .tuple #[.slice A1 q1 c1, .int .i64 0], .slice A1 q1 c1, .int .i64 0, .pointer (some ⟨w.heap.size, 1, none⟩), .slice (some ⟨q, off, none⟩) n c, .int .i64 (n : Int), .bool false, .bool false, .int .i64 0, .bool false, .bool false, undef, .tuple #[.slice (some ad) n c2, .int .i64 0], .agg #[.string nm, .slice (some ⟨q, off, none⟩) n c], .tuple #[.slice (some ad) n c2, .int .i64 0], .slice (some ad) n c2, .int .i64 0, .int .i64 0, .bool false, .bool false, .slice (some ad) n c2, .int .i64 (n : Int), .pointer (some ⟨w.heap.size, 1, none⟩), .slice (some ⟨q, off, none⟩) n c, .int .i64 (n : Int), .bool false, .bool false, .int .i64 (k : Int), .slice (some ad) n c2, .int .i64 (n : Int), .bool true, u45, u46, .tuple #[.slice A3 q3 c3, .int .i64 0], .agg #[.string nm, .slice (some ⟨q, off, none⟩) n c], .int .i64 (k : Int), .tuple #[.slice A3 q3 c3, .int .i64 0], .slice A3 q3 c3, .int .i64 0, .tuple #[.int .i64 R, .bool true], .pointer (some ⟨w.heap.size, 1, none⟩), .slice (some ⟨q, off, none⟩) n c, .int .i64 (k : Int), .pointer (some ⟨q, off + k * 8, none⟩), .agg #[.int .i64 op, .int .i64 ra, .int .i64 rb, .int .i64 rc, .int .i64 obj, .int .i64 m, .int .i64 fn, .int .i64 ord], .tuple #[.int .i64 R, .bool true], .int .i64 R, .bool true, .bool true, .slice A3 q3 c3, .int .i64 R, .slice A8 q8 c8, .int .i64 0, .bool false, .bool false, .slice (some ad) n c2, .int .i64 (k : Int), .pointer (some (ad.add k)), .slice Al ql cl, .slice A8 q8 c8, .pointer (some ⟨w.heap.size, 1, none⟩), .slice (some ⟨q, off, none⟩) n c, .int .i64 (k : Int), .pointer (some ⟨q, off + k * 8, none⟩), .agg #[.int .i64 op, .int .i64 ra, .int .i64 rb, .int .i64 rc, .int .i64 obj, .int .i64 m, .int .i64 fn, .int .i64 ord], .slice A7 m7 c7, .slice A9 ql c9, .bool true, .bool false, u83, undef], defers := [] } X9 := by
          intro X9 A7 c7 A9 c9 HP
          have HP := Lib.hid HP
          refine (hG _ _ _ _).2 ?_
          refine wpAnyIn_ready (rs := [17]) (by kernel_rfl) (by simp) ?_
          refine AllReadyIn.cons rfl (fun K hK => ?_) (AllReadyIn.nil)
          · go_simp
            refine hK _ _ ?_
            clear hK K
            (try simp only [Act.put, List.setIfInBounds_toArray, List.set_cons_zero, List.set_cons_succ])
            exact (hG _ _ _ _).1 (hs111111111111111111 _ _ _ _ _ HP.out)
        have hs111111111111111100 : ∀ (X9 : World) (A7 : Option Addr) (c7 : Nat) (A9 : Option Addr) (c9 : Nat) (_ : Below Z1.heap.size Z1 X9), G 2 #[true, true, true, true, true, true, true, true, true, true, true, true, true, true, true, true, false, false] { tmps := #[.agg #[.string nm, .slice (some ⟨q, off, none⟩) n c], .pointer (some ⟨w.heap.size, 0, none⟩), u2, .slice A1 q1 c1, .int .i64 0, .slice (some ad) n c2, .int .i64 0, .int .i64 (k : Int), .slice A8 q8 c8, .int .i64 0, .int .i64 R, .bool true, .tuple #[.slice A1 q1 c1, .int .i64 0], .agg #[.string nm, .slice (some ⟨q, off, none⟩) n c], .tuple #[.slice A1 q1 c1, .int .i64 0], .slice A1 q1 c1, .int .i64 0, .pointer (some ⟨w.heap.size, 1, none⟩), .slice (some ⟨q, off, none⟩) n c, .int .i64 (n : Int), .bool false, .bool false, .int .i64 0, .bool false, .bool false, undef, .tuple #[.slice (some ad) n c2, .int .i64 0], .agg #[.string nm, .slice (some ⟨q, off, none⟩) n c], .tuple #[.slice (some ad) n c2, .int .i64 0], .slice (some ad) n c2, .int .i64 0, .int .i64 0, .bool false, .bool false, .slice (some ad) n c2, .int .i64 (n : Int), .pointer (some ⟨w.heap.size, 1, none⟩), .slice (some ⟨q, off, none⟩) n c, .int .i64 (n : Int), .bool false, .bool false, .int .i64 (k : Int), .slice (some ad) n c2, .int .i64 (n : Int), .bool true, u45, u46, .tuple #[.slice A3 q3 c3, .int .i64 0], .agg #[.string nm, .slice (some ⟨q, off, none⟩) n c], .int .i64 (k : Int), .tuple #[.slice A3 q3 c3, .int .i64 0], .slice A3 q3 c3, .int .i64 0, .tuple #[.int .i64 R, .bool true], .pointer (some ⟨w.heap.size, 1, none⟩), .slice (some ⟨q, off, none⟩) n c, .int .i64 (k : Int), .pointer (some ⟨q, off + k * 8, none⟩), .agg #[.int .i64 op, .int .i64 ra, .int .i64 rb, .int .i64 rc, .int .i64 obj, .int .i64 m, .int .i64 fn, .int .i64 ord], .tuple #[.int .i64 R, .bool true], .int .i64 R, .bool true, .bool true, .slice A3 q3 c3, .int .i64 R, .slice A8 q8 c8, .int .i64 0, .bool false, .bool false, .slice (some ad) n c2, .int .i64 (k : Int), .pointer (some (ad.add k)), .slice Al ql cl, .slice A8 q8 c8, .pointer (some ⟨w.heap.size, 1, none⟩), .slice (some ⟨q, off, none⟩) n c, .int .i64 (k : Int), .pointer (some ⟨q, off + k * 8, none⟩), .agg #[.int .i64 op, .int .i64 ra, .int .i64 rb, .int .i64 rc, .int .i64 obj, .int .i64 m, .int .i64 fn, .int .i64 ord], .slice A7 m7 c7, .slice A9 ql c9, .bool true, u82, u83, undef], defers := [] } X9 := by
          intro X9 A7 c7 A9 c9 HP
          have HP := Lib.hid HP
          refine (hG _ _ _ _).2 ?_
          refine wpAnyIn_ready (rs := [16]) (by kernel_rfl) (by simp) ?_
          refine AllReadyIn.cons rfl (fun K hK => ?_) (AllReadyIn.nil)
          · go_simp
            refine hK _ _ ?_
            clear hK K
            (try simp only [Act.put, List.setIfInBounds_toArray, List.set_cons_zero, List.set_cons_succ])
            exact (hG _ _ _ _).1 (hs111111111111111110 _ _ _ _ _ HP.out)
        have hs111111111111111000 : ∀ (X9 : World) (A7 : Option Addr) (c7 : Nat) (A9 : Option Addr) (c9 : Nat) (_ : Below Z1.heap.size Z1 X9 ∧ Rd X9 A9 c9 lk), G 3 #[true, true, true, true, true, true, true, true, true, true, true, true, true, true, true, false, false, false] { tmps := #[.agg #[.string nm, .slice (some ⟨q, off, none⟩) n c], .pointer (some ⟨w.heap.size, 0, none⟩), u2, .slice A1 q1 c1, .int .i64 0, .slice (some ad) n c2, .int .i64 0, .int .i64 (k : Int), .slice A8 q8 c8, .int .i64 0, .int .i64 R, .bool true, .tuple #[.slice A1 q1 c1, .int .i64 0], .agg #[.string nm, .slice (some ⟨q, off, none⟩) n c], .tuple #[.slice A1 q1 c1, .int .i64 0], .slice A1 q1 c1, .int .i64 0, .pointer (some ⟨w.heap.size, 1, none⟩), .slice (some ⟨q, off, none⟩) n c, .int .i64 (n : Int), .bool false, .bool false, .int .i64 0, .bool false, .bool false, undef, .tuple #[.slice (some ad) n c2, .int .i64 0], .agg #[.string nm, .slice (some ⟨q, off, none⟩) n c], .tuple #[.slice (some ad) n c2, .int .i64 0], .slice (some ad) n c2, .int .i64 0, .int .i64 0, .bool false, .bool false, .slice (some ad) n c2, .int .i64 (n : Int), .pointer (some ⟨w.heap.size, 1, none⟩), .slice (some ⟨q, off, none⟩) n c, .int .i64 (n : Int), .bool false, .bool false, .int .i64 (k : Int), .slice (some ad) n c2, .int .i64 (n : Int), .bool true, u45, u46, .tuple #[.slice A3 q3 c3, .int .i64 0], .agg #[.string nm, .slice (some ⟨q, off, none⟩) n c], .int .i64 (k : Int), .tuple #[.slice A3 q3 c3, .int .i64 0], .slice A3 q3 c3, .int .i64 0, .tuple #[.int .i64 R, .bool true], .pointer (some ⟨w.heap.size, 1, none⟩), .slice (some ⟨q, off, none⟩) n c, .int .i64 (k : Int), .pointer (some ⟨q, off + k * 8, none⟩), .agg #[.int .i64 op, .int .i64 ra, .int .i64 rb, .int .i64 rc, .int .i64 obj, .int .i64 m, .int .i64 fn, .int .i64 ord], .tuple #[.int .i64 R, .bool true], .int .i64 R, .bool true, .bool true, .slice A3 q3 c3, .int .i64 R, .slice A8 q8 c8, .int .i64 0, .bool false, .bool false, .slice (some ad) n c2, .int .i64 (k : Int), .pointer (some (ad.add k)), .slice Al ql cl, .slice A8 q8 c8, .pointer (some ⟨w.heap.size, 1, none⟩), .slice (some ⟨q, off, none⟩) n c, .int .i64 (k : Int), .pointer (some ⟨q, off + k * 8, none⟩), .agg #[.int .i64 op, .int .i64 ra, .int .i64 rb, .int .i64 rc, .int .i64 obj, .int .i64 m, .int .i64 fn, .int .i64 ord], .slice A7 m7 c7, .slice A9 ql c9, u81, u82, u83, undef], defers := [] } X9 := by
          intro X9 A7 c7 A9 c9 HP
          have HP := Lib.hid HP
          refine (hG _ _ _ _).2 ?_
          refine wpAnyIn_ready (rs := [15]) (by kernel_rfl) (by simp) ?_
          refine AllReadyIn.cons rfl (fun K hK => ?_) (AllReadyIn.nil)
          · go_simp
            gi_wp2_with fail
            refine ⟨trivial, (callsIn_wide.2 (HIN.out X9 A9 c9 HP.out.2 HP.out.1)).mono ?_⟩
            rintro e X10 ⟨rfl, hb9⟩
            refine hK _ _ ?_
            clear hK K
            (try simp only [Act.put, List.setIfInBounds_toArray, List.set_cons_zero, List.set_cons_succ])
            exact (hG _ _ _ _).1 (hs111111111111111100 _ _ _ _ _ (belowThen HP.out.1 hb9))
        have hs111111111111110000 : ∀ (X9 : World) (A7 : Option Addr) (c7 : Nat) (_ : Below Z1.heap.size Z1 X9 ∧ Rd X9 A7 c7 us), G 4 #[true, true, true, true, true, true, true, true, true, true, true, true, true, true, false, false, false, false] { tmps := #[.agg #[.string nm, .slice (some ⟨q, off, none⟩) n c], .pointer (some ⟨w.heap.size, 0, none⟩), u2, .slice A1 q1 c1, .int .i64 0, .slice (some ad) n c2, .int .i64 0, .int .i64 (k : Int), .slice A8 q8 c8, .int .i64 0, .int .i64 R, .bool true, .tuple #[.slice A1 q1 c1, .int .i64 0], .agg #[.string nm, .slice (some ⟨q, off, none⟩) n c], .tuple #[.slice A1 q1 c1, .int .i64 0], .slice A1 q1 c1, .int .i64 0, .pointer (some ⟨w.heap.size, 1, none⟩), .slice (some ⟨q, off, none⟩) n c, .int .i64 (n : Int), .bool false, .bool false, .int .i64 0, .bool false, .bool false, undef, .tuple #[.slice (some ad) n c2, .int .i64 0], .agg #[.string nm, .slice (some ⟨q, off, none⟩) n c], .tuple #[.slice (some ad) n c2, .int .i64 0], .slice (some ad) n c2, .int .i64 0, .int .i64 0, .bool false, .bool false, .slice (some ad) n c2, .int .i64 (n : Int), .pointer (some ⟨w.heap.size, 1, none⟩), .slice (some ⟨q, off, none⟩) n c, .int .i64 (n : Int), .bool false, .bool false, .int .i64 (k : Int), .slice (some ad) n c2, .int .i64 (n : Int), .bool true, u45, u46, .tuple #[.slice A3 q3 c3, .int .i64 0], .agg #[.string nm, .slice (some ⟨q, off, none⟩) n c], .int .i64 (k : Int), .tuple #[.slice A3 q3 c3, .int .i64 0], .slice A3 q3 c3, .int .i64 0, .tuple #[.int .i64 R, .bool true], .pointer (some ⟨w.heap.size, 1, none⟩), .slice (some ⟨q, off, none⟩) n c, .int .i64 (k : Int), .pointer (some ⟨q, off + k * 8, none⟩), .agg #[.int .i64 op, .int .i64 ra, .int .i64 rb, .int .i64 rc, .int .i64 obj, .int .i64 m, .int .i64 fn, .int .i64 ord], .tuple #[.int .i64 R, .bool true], .int .i64 R, .bool true, .bool true, .slice A3 q3 c3, .int .i64 R, .slice A8 q8 c8, .int .i64 0, .bool false, .bool false, .slice (some ad) n c2, .int .i64 (k : Int), .pointer (some (ad.add k)), .slice Al ql cl, .slice A8 q8 c8, .pointer (some ⟨w.heap.size, 1, none⟩), .slice (some ⟨q, off, none⟩) n c, .int .i64 (k : Int), .pointer (some ⟨q, off + k * 8, none⟩), .agg #[.int .i64 op, .int .i64 ra, .int .i64 rb, .int .i64 rc, .int .i64 obj, .int .i64 m, .int .i64 fn, .int .i64 ord], .slice A7 m7 c7, u80, u81, u82, u83, undef], defers := [] } X9 := by
          intro X9 A7 c7 HP
          have HP := Lib.hid HP
          refine (hG _ _ _ _).2 ?_
          refine wpAnyIn_ready (rs := [14]) (by kernel_rfl) (by simp) ?_
          refine AllReadyIn.cons rfl (fun K hK => ?_) (AllReadyIn.nil)
          · go_simp
            gi_wp2_with fail
            refine ⟨trivial, (callsIn_wide.2 (HUN.out X9 A7 c7 HP.out.2 HP.out.1)).mono ?_⟩
            rintro e X10 ⟨A9, c9, rfl, hr9, hb9⟩
            refine hK _ _ ?_
            clear hK K
            (try simp only [Act.put, List.setIfInBounds_toArray, List.set_cons_zero, List.set_cons_succ])
            exact (hG _ _ _ _).1 (hs111111111111111000 _ _ _ _ _ ⟨belowThen HP.out.1 hb9, hr9⟩)
        have hs111111011111111000 : ∀ (X9 : World) (A7 : Option Addr) (c7 : Nat) (A9 : Option Addr) (c9 : Nat) (_ : Below Z1.heap.size Z1 X9 ∧ Rd X9 A9 c9 lk), G 4 #[true, true, true, true, true, true, false, true, true, true, true, true, true, true, true, false, false, false] { tmps := #[.agg #[.string nm, .slice (some ⟨q, off, none⟩) n c], .pointer (some ⟨w.heap.size, 0, none⟩), u2, .slice A1 q1 c1, .int .i64 0, .slice (some ad) n c2, .int .i64 0, .int .i64 (k : Int), .slice A8 q8 c8, .int .i64 0, .int .i64 R, .bool true, .tuple #[.slice A1 q1 c1, .int .i64 0], .agg #[.string nm, .slice (some ⟨q, off, none⟩) n c], .tuple #[.slice A1 q1 c1, .int .i64 0], .slice A1 q1 c1, .int .i64 0, .pointer (some ⟨w.heap.size, 1, none⟩), .slice (some ⟨q, off, none⟩) n c, .int .i64 (n : Int), .bool false, .bool false, .int .i64 0, .bool false, .bool false, undef, .tuple #[.slice (some ad) n c2, .int .i64 0], .agg #[.string nm, .slice (some ⟨q, off, none⟩) n c], .tuple #[.slice (some ad) n c2, .int .i64 0], .slice (some ad) n c2, .int .i64 0, .int .i64 0, .bool false, .bool false, .slice (some ad) n c2, .int .i64 (n : Int), .pointer (some ⟨w.heap.size, 1, none⟩), .slice (some ⟨q, off, none⟩) n c, .int .i64 (n : Int), .bool false, .bool false, .int .i64 (k : Int), .slice (some ad) n c2, .int .i64 (n : Int), .bool true, u45, u46, .tuple #[.slice A3 q3 c3, .int .i64 0], .agg #[.string nm, .slice (some ⟨q, off, none⟩) n c], .int .i64 (k : Int), .tuple #[.slice A3 q3 c3, .int .i64 0], .slice A3 q3 c3, .int .i64 0, .tuple #[.int .i64 R, .bool true], .pointer (some ⟨w.heap.size, 1, none⟩), .slice (some ⟨q, off, none⟩) n c, .int .i64 (k : Int), .pointer (some ⟨q, off + k * 8, none⟩), .agg #[.int .i64 op, .int .i64 ra, .int .i64 rb, .int .i64 rc, .int .i64 obj, .int .i64 m, .int .i64 fn, .int .i64 ord], .tuple #[.int .i64 R, .bool true], .int .i64 R, .bool true, .bool true, .slice A3 q3 c3, .int .i64 R, .slice A8 q8 c8, .int .i64 0, .bool false, .bool false, .slice (some ad) n c2, .int .i64 (k : Int), .pointer (some (ad.add k)), u72, .slice A8 q8 c8, .pointer (some ⟨w.heap.size, 1, none⟩), .slice (some ⟨q, off, none⟩) n c, .int .i64 (k : Int), .pointer (some ⟨q, off + k * 8, none⟩), .agg #[.int .i64 op, .int .i64 ra, .int .i64 rb, .int .i64 rc, .int .i64 obj, .int .i64 m, .int .i64 fn, .int .i64 ord], .slice A7 m7 c7, .slice A9 ql c9, u81, u82, u83, undef], defers := [] } X9 := by
          intro X9 A7 c7 A9 c9 HP
          have HP := Lib.hid HP
          refine (hG _ _ _ _).2 ?_
          refine wpAnyIn_ready (rs := [6]) (by kernel_rfl) (by simp) ?_
          refine AllReadyIn.cons rfl (fun K hK => ?_) (AllReadyIn.nil)
          · have tl := HCL.out X9 HP.out.1
            go_simp
            refine hK _ _ ?_
            clear hK K
            (try simp only [Act.put, List.setIfInBounds_toArray, List.set_cons_zero, List.set_cons_succ])
            exact (hG _ _ _ _).1 (hs111111111111111000 _ _ _ _ _ HP.out)
        have hs111111111111100000 : G 5 #[true, true, true, true, true, true, true, true, true, true, true, true, true, false, false, false, false, false] { tmps := #[.agg #[.string nm, .slice (some ⟨q, off, none⟩) n c], .pointer (some ⟨w.heap.size, 0, none⟩), u2, .slice A1 q1 c1, .int .i64 0, .slice (some ad) n c2, .int .i64 0, .int .i64 (k : Int), .slice A8 q8 c8, .int .i64 0, .int .i64 R, .bool true, .tuple #[.slice A1 q1 c1, .int .i64 0], .agg #[.string nm, .slice (some ⟨q, off, none⟩) n c], .tuple #[.slice A1 q1 c1, .int .i64 0], .slice A1 q1 c1, .int .i64 0, .pointer (some ⟨w.heap.size, 1, none⟩), .slice (some ⟨q, off, none⟩) n c, .int .i64 (n : Int), .bool false, .bool false, .int .i64 0, .bool false, .bool false, undef, .tuple #[.slice (some ad) n c2, .int .i64 0], .agg #[.string nm, .slice (some ⟨q, off, none⟩) n c], .tuple #[.slice (some ad) n c2, .int .i64 0], .slice (some ad) n c2, .int .i64 0, .int .i64 0, .bool false, .bool false, .slice (some ad) n c2, .int .i64 (n : Int), .pointer (some ⟨w.heap.size, 1, none⟩), .slice (some ⟨q, off, none⟩) n c, .int .i64 (n : Int), .bool false, .bool false, .int .i64 (k : Int), .slice (some ad) n c2, .int .i64 (n : Int), .bool true, u45, u46, .tuple #[.slice A3 q3 c3, .int .i64 0], .agg #[.string nm, .slice (some ⟨q, off, none⟩) n c], .int .i64 (k : Int), .tuple #[.slice A3 q3 c3, .int .i64 0], .slice A3 q3 c3, .int .i64 0, .tuple #[.int .i64 R, .bool true], .pointer (some ⟨w.heap.size, 1, none⟩), .slice (some ⟨q, off, none⟩) n c, .int .i64 (k : Int), .pointer (some ⟨q, off + k * 8, none⟩), .agg #[.int .i64 op, .int .i64 ra, .int .i64 rb, .int .i64 rc, .int .i64 obj, .int .i64 m, .int .i64 fn, .int .i64 ord], .tuple #[.int .i64 R, .bool true], .int .i64 R, .bool true, .bool true, .slice A3 q3 c3, .int .i64 R, .slice A8 q8 c8, .int .i64 0, .bool false, .bool false, .slice (some ad) n c2, .int .i64 (k : Int), .pointer (some (ad.add k)), .slice Al ql cl, .slice A8 q8 c8, .pointer (some ⟨w.heap.size, 1, none⟩), .slice (some ⟨q, off, none⟩) n c, .int .i64 (k : Int), .pointer (some ⟨q, off + k * 8, none⟩), .agg #[.int .i64 op, .int .i64 ra, .int .i64 rb, .int .i64 rc, .int .i64 obj, .int .i64 m, .int .i64 fn, .int .i64 ord], u79, u80, u81, u82, u83, undef], defers := [] } Z1 := by
          refine (hG _ _ _ _).2 ?_
          refine wpAnyIn_ready (rs := [13]) (by kernel_rfl) (by simp) ?_
          refine AllReadyIn.cons rfl (fun K hK => ?_) (AllReadyIn.nil)
          · go_simp
            gi_wp2_with fail
            refine ⟨trivial, (callsIn_wide.2 HUC.out).mono ?_⟩
            rintro e X9 ⟨A7, c7, rfl, hr7, hb7⟩
            rw [HM7.out]
            refine hK _ _ ?_
            clear hK K
            (try simp only [Act.put, List.setIfInBounds_toArray, List.set_cons_zero, List.set_cons_succ])
            exact (hG _ _ _ _).1 (hs111111111111110000 _ _ _ ⟨hb7, hr7⟩)
        have hs111111011111110000 : ∀ (X9 : World) (A7 : Option Addr) (c7 : Nat) (_ : Below Z1.heap.size Z1 X9 ∧ Rd X9 A7 c7 us), G 5 #[true, true, true, true, true, true, false, true, true, true, true, true, true, true, false, false, false, false] { tmps := #[.agg #[.string nm, .slice (some ⟨q, off, none⟩) n c], .pointer (some ⟨w.heap.size, 0, none⟩), u2, .slice A1 q1 c1, .int .i64 0, .slice (some ad) n c2, .int .i64 0, .int .i64 (k : Int), .slice A8 q8 c8, .int .i64 0, .int .i64 R, .bool true, .tuple #[.slice A1 q1 c1, .int .i64 0], .agg #[.string nm, .slice (some ⟨q, off, none⟩) n c], .tuple #[.slice A1 q1 c1, .int .i64 0], .slice A1 q1 c1, .int .i64 0, .pointer (some ⟨w.heap.size, 1, none⟩), .slice (some ⟨q, off, none⟩) n c, .int .i64 (n : Int), .bool false, .bool false, .int .i64 0, .bool false, .bool false, undef, .tuple #[.slice (some ad) n c2, .int .i64 0], .agg #[.string nm, .slice (some ⟨q, off, none⟩) n c], .tuple #[.slice (some ad) n c2, .int .i64 0], .slice (some ad) n c2, .int .i64 0, .int .i64 0, .bool false, .bool false, .slice (some ad) n c2, .int .i64 (n : Int), .pointer (some ⟨w.heap.size, 1, none⟩), .slice (some ⟨q, off, none⟩) n c, .int .i64 (n : Int), .bool false, .bool false, .int .i64 (k : Int), .slice (some ad) n c2, .int .i64 (n : Int), .bool true, u45, u46, .tuple #[.slice A3 q3 c3, .int .i64 0], .agg #[.string nm, .slice (some ⟨q, off, none⟩) n c], .int .i64 (k : Int), .tuple #[.slice A3 q3 c3, .int .i64 0], .slice A3 q3 c3, .int .i64 0, .tuple #[.int .i64 R, .bool true], .pointer (some ⟨w.heap.size, 1, none⟩), .slice (some ⟨q, off, none⟩) n c, .int .i64 (k : Int), .pointer (some ⟨q, off + k * 8, none⟩), .agg #[.int .i64 op, .int .i64 ra, .int .i64 rb, .int .i64 rc, .int .i64 obj, .int .i64 m, .int .i64 fn, .int .i64 ord], .tuple #[.int .i64 R, .bool true], .int .i64 R, .bool true, .bool true, .slice A3 q3 c3, .int .i64 R, .slice A8 q8 c8, .int .i64 0, .bool false, .bool false, .slice (some ad) n c2, .int .i64 (k : Int), .pointer (some (ad.add k)), u72, .slice A8 q8 c8, .pointer (some ⟨w.heap.size, 1, none⟩), .slice (some ⟨q, off, none⟩) n c, .int .i64 (k : Int), .pointer (some ⟨q, off + k * 8, none⟩), .agg #[.int .i64 op, .int .i64 ra, .int .i64 rb, .int .i64 rc, .int .i64 obj, .int .i64 m, .int .i64 fn, .int .i64 ord], .slice A7 m7 c7, u80, u81, u82, u83, undef], defers := [] } X9 := by
          intro X9 A7 c7 HP
          have HP := Lib.hid HP
          refine (hG _ _ _ _).2 ?_
          refine wpAnyIn_ready (rs := [6, 14]) (by kernel_rfl) (by simp) ?_
          refine AllReadyIn.cons rfl (fun K hK => ?_) (AllReadyIn.cons rfl (fun K hK => ?_) (AllReadyIn.nil))
          · have tl := HCL.out X9 HP.out.1
            go_simp
            refine hK _ _ ?_
            clear hK K
            (try simp only [Act.put, List.setIfInBounds_toArray, List.set_cons_zero, List.set_cons_succ])
            exact (hG _ _ _ _).1 (hs111111111111110000 _ _ _ HP.out)
          · go_simp
            gi_wp2_with fail
            refine ⟨trivial, (callsIn_wide.2 (HUN.out X9 A7 c7 HP.out.2 HP.out.1)).mono ?_⟩
            rintro e X10 ⟨A9, c9, rfl, hr9, hb9⟩
            refine hK _ _ ?_
            clear hK K
            (try simp only [Act.put, List.setIfInBounds_toArray, List.set_cons_zero, List.set_cons_succ])
            exact (hG _ _ _ _).1 (hs111111011111111000 _ _ _ _ _ ⟨belowThen HP.out.1 hb9, hr9⟩)
        have hs111110011111111000 : ∀ (X9 : World) (A7 : Option Addr) (c7 : Nat) (A9 : Option Addr) (c9 : Nat) (_ : Below Z1.heap.size Z1 X9 ∧ Rd X9 A9 c9 lk), G 5 #[true, true, true, true, true, false, false, true, true, true, true, true, true, true, true, false, false, false] { tmps := #[.agg #[.string nm, .slice (some ⟨q, off, none⟩) n c], .pointer (some ⟨w.heap.size, 0, none⟩), u2, .slice A1 q1 c1, .int .i64 0, .slice (some ad) n c2, .int .i64 0, .int .i64 (k : Int), .slice A8 q8 c8, .int .i64 0, .int .i64 R, .bool true, .tuple #[.slice A1 q1 c1, .int .i64 0], .agg #[.string nm, .slice (some ⟨q, off, none⟩) n c], .tuple #[.slice A1 q1 c1, .int .i64 0], .slice A1 q1 c1, .int .i64 0, .pointer (some ⟨w.heap.size, 1, none⟩), .slice (some ⟨q, off, none⟩) n c, .int .i64 (n : Int), .bool false, .bool false, .int .i64 0, .bool false, .bool false, undef, .tuple #[.slice (some ad) n c2, .int .i64 0], .agg #[.string nm, .slice (some ⟨q, off, none⟩) n c], .tuple #[.slice (some ad) n c2, .int .i64 0], .slice (some ad) n c2, .int .i64 0, .int .i64 0, .bool false, .bool false, .slice (some ad) n c2, .int .i64 (n : Int), .pointer (some ⟨w.heap.size, 1, none⟩), .slice (some ⟨q, off, none⟩) n c, .int .i64 (n : Int), .bool false, .bool false, .int .i64 (k : Int), .slice (some ad) n c2, .int .i64 (n : Int), .bool true, u45, u46, .tuple #[.slice A3 q3 c3, .int .i64 0], .agg #[.string nm, .slice (some ⟨q, off, none⟩) n c], .int .i64 (k : Int), .tuple #[.slice A3 q3 c3, .int .i64 0], .slice A3 q3 c3, .int .i64 0, .tuple #[.int .i64 R, .bool true], .pointer (some ⟨w.heap.size, 1, none⟩), .slice (some ⟨q, off, none⟩) n c, .int .i64 (k : Int), .pointer (some ⟨q, off + k * 8, none⟩), .agg #[.int .i64 op, .int .i64 ra, .int .i64 rb, .int .i64 rc, .int .i64 obj, .int .i64 m, .int .i64 fn, .int .i64 ord], .tuple #[.int .i64 R, .bool true], .int .i64 R, .bool true, .bool true, .slice A3 q3 c3, .int .i64 R, .slice A8 q8 c8, .int .i64 0, .bool false, .bool false, .slice (some ad) n c2, .int .i64 (k : Int), u71, u72, .slice A8 q8 c8, .pointer (some ⟨w.heap.size, 1, none⟩), .slice (some ⟨q, off, none⟩) n c, .int .i64 (k : Int), .pointer (some ⟨q, off + k * 8, none⟩), .agg #[.int .i64 op, .int .i64 ra, .int .i64 rb, .int .i64 rc, .int .i64 obj, .int .i64 m, .int .i64 fn, .int .i64 ord], .slice A7 m7 c7, .slice A9 ql c9, u81, u82, u83, undef], defers := [] } X9 := by
          intro X9 A7 c7 A9 c9 HP
          have HP := Lib.hid HP
          refine (hG _ _ _ _).2 ?_
          refine wpAnyIn_ready (rs := [5]) (by kernel_rfl) (by simp) ?_
          refine AllReadyIn.cons rfl (fun K hK => ?_) (AllReadyIn.nil)
          · go_simp
            refine hK _ _ ?_
            clear hK K
            (try simp only [Act.put, List.setIfInBounds_toArray, List.set_cons_zero, List.set_cons_succ])
            exact (hG _ _ _ _).1 (hs111111011111111000 _ _ _ _ _ HP.out)
        have hs111111111111000000 : G 6 #[true, true, true, true, true, true, true, true, true, true, true, true, false, false, false, false, false, false] { tmps := #[.agg #[.string nm, .slice (some ⟨q, off, none⟩) n c], .pointer (some ⟨w.heap.size, 0, none⟩), u2, .slice A1 q1 c1, .int .i64 0, .slice (some ad) n c2, .int .i64 0, .int .i64 (k : Int), .slice A8 q8 c8, .int .i64 0, .int .i64 R, .bool true, .tuple #[.slice A1 q1 c1, .int .i64 0], .agg #[.string nm, .slice (some ⟨q, off, none⟩) n c], .tuple #[.slice A1 q1 c1, .int .i64 0], .slice A1 q1 c1, .int .i64 0, .pointer (some ⟨w.heap.size, 1, none⟩), .slice (some ⟨q, off, none⟩) n c, .int .i64 (n : Int), .bool false, .bool false, .int .i64 0, .bool false, .bool false, undef, .tuple #[.slice (some ad) n c2, .int .i64 0], .agg #[.string nm, .slice (some ⟨q, off, none⟩) n c], .tuple #[.slice (some ad) n c2, .int .i64 0], .slice (some ad) n c2, .int .i64 0, .int .i64 0, .bool false, .bool false, .slice (some ad) n c2, .int .i64 (n : Int), .pointer (some ⟨w.heap.size, 1, none⟩), .slice (some ⟨q, off, none⟩) n c, .int .i64 (n : Int), .bool false, .bool false, .int .i64 (k : Int), .slice (some ad) n c2, .int .i64 (n : Int), .bool true, u45, u46, .tuple #[.slice A3 q3 c3, .int .i64 0], .agg #[.string nm, .slice (some ⟨q, off, none⟩) n c], .int .i64 (k : Int), .tuple #[.slice A3 q3 c3, .int .i64 0], .slice A3 q3 c3, .int .i64 0, .tuple #[.int .i64 R, .bool true], .pointer (some ⟨w.heap.size, 1, none⟩), .slice (some ⟨q, off, none⟩) n c, .int .i64 (k : Int), .pointer (some ⟨q, off + k * 8, none⟩), .agg #[.int .i64 op, .int .i64 ra, .int .i64 rb, .int .i64 rc, .int .i64 obj, .int .i64 m, .int .i64 fn, .int .i64 ord], .tuple #[.int .i64 R, .bool true], .int .i64 R, .bool true, .bool true, .slice A3 q3 c3, .int .i64 R, .slice A8 q8 c8, .int .i64 0, .bool false, .bool false, .slice (some ad) n c2, .int .i64 (k : Int), .pointer (some (ad.add k)), .slice Al ql cl, .slice A8 q8 c8, .pointer (some ⟨w.heap.size, 1, none⟩), .slice (some ⟨q, off, none⟩) n c, .int .i64 (k : Int), .pointer (some ⟨q, off + k * 8, none⟩), u78, u79, u80, u81, u82, u83, undef], defers := [] } Z1 := by
          refine (hG _ _ _ _).2 ?_
          refine wpAnyIn_ready (rs := [12]) (by kernel_rfl) (by simp) ?_
          refine AllReadyIn.cons rfl (fun K hK => ?_) (AllReadyIn.nil)
          · go_simp
            refine hK _ _ ?_
            clear hK K
            (try simp only [Act.put, List.setIfInBounds_toArray, List.set_cons_zero, List.set_cons_succ])
            exact (hG _ _ _ _).1 hs111111111111100000
        have hs111111011111100000 : G 6 #[true, true, true, true, true, true, false, true, true, true, true, true, true, false, false, false, false, false] { tmps := #[.agg #[.string nm, .slice (some ⟨q, off, none⟩) n c], .pointer (some ⟨w.heap.size, 0, none⟩), u2, .slice A1 q1 c1, .int .i64 0, .slice (some ad) n c2, .int .i64 0, .int .i64 (k : Int), .slice A8 q8 c8, .int .i64 0, .int .i64 R, .bool true, .tuple #[.slice A1 q1 c1, .int .i64 0], .agg #[.string nm, .slice (some ⟨q, off, none⟩) n c], .tuple #[.slice A1 q1 c1, .int .i64 0], .slice A1 q1 c1, .int .i64 0, .pointer (some ⟨w.heap.size, 1, none⟩), .slice (some ⟨q, off, none⟩) n c, .int .i64 (n : Int), .bool false, .bool false, .int .i64 0, .bool false, .bool false, undef, .tuple #[.slice (some ad) n c2, .int .i64 0], .agg #[.string nm, .slice (some ⟨q, off, none⟩) n c], .tuple #[.slice (some ad) n c2, .int .i64 0], .slice (some ad) n c2, .int .i64 0, .int .i64 0, .bool false, .bool false, .slice (some ad) n c2, .int .i64 (n : Int), .pointer (some ⟨w.heap.size, 1, none⟩), .slice (some ⟨q, off, none⟩) n c, .int .i64 (n : Int), .bool false, .bool false, .int .i64 (k : Int), .slice (some ad) n c2, .int .i64 (n : Int), .bool true, u45, u46, .tuple #[.slice A3 q3 c3, .int .i64 0], .agg #[.string nm, .slice (some ⟨q, off, none⟩) n c], .int .i64 (k : Int), .tuple #[.slice A3 q3 c3, .int .i64 0], .slice A3 q3 c3, .int .i64 0, .tuple #[.int .i64 R, .bool true], .pointer (some ⟨w.heap.size, 1, none⟩), .slice (some ⟨q, off, none⟩) n c, .int .i64 (k : Int), .pointer (some ⟨q, off + k * 8, none⟩), .agg #[.int .i64 op, .int .i64 ra, .int .i64 rb, .int .i64 rc, .int .i64 obj, .int .i64 m, .int .i64 fn, .int .i64 ord], .tuple #[.int .i64 R, .bool true], .int .i64 R, .bool true, .bool true, .slice A3 q3 c3, .int .i64 R, .slice A8 q8 c8, .int .i64 0, .bool false, .bool false, .slice (some ad) n c2, .int .i64 (k : Int), .pointer (some (ad.add k)), u72, .slice A8 q8 c8, .pointer (some ⟨w.heap.size, 1, none⟩), .slice (some ⟨q, off, none⟩) n c, .int .i64 (k : Int), .pointer (some ⟨q, off + k * 8, none⟩), .agg #[.int .i64 op, .int .i64 ra, .int .i64 rb, .int .i64 rc, .int .i64 obj, .int .i64 m, .int .i64 fn, .int .i64 ord], u79, u80, u81, u82, u83, undef], defers := [] } Z1 := by
          refine (hG _ _ _ _).2 ?_
          refine wpAnyIn_ready (rs := [6, 13]) (by kernel_rfl) (by simp) ?_
          refine AllReadyIn.cons rfl (fun K hK => ?_) (AllReadyIn.cons rfl (fun K hK => ?_) (AllReadyIn.nil))
          · have tl := hcl
            go_simp
            refine hK _ _ ?_
            clear hK K
            (try simp only [Act.put, List.setIfInBounds_toArray, List.set_cons_zero, List.set_cons_succ])
            exact (hG _ _ _ _).1 hs111111111111100000
          · go_simp
            gi_wp2_with fail
            refine ⟨trivial, (callsIn_wide.2 HUC.out).mono ?_⟩
            rintro e X9 ⟨A7, c7, rfl, hr7, hb7⟩
            rw [HM7.out]
            refine hK _ _ ?_
            clear hK K
            (try simp only [Act.put, List.setIfInBounds_toArray, List.set_cons_zero, List.set_cons_succ])
            exact (hG _ _ _ _).1 (hs111111011111110000 _ _ _ ⟨hb7, hr7⟩)
        have hs111110011111110000 : ∀ (X9 : World) (A7 : Option Addr) (c7 : Nat) (_ : Below Z1.heap.size Z1 X9 ∧ Rd X9 A7 c7 us), G 6 #[true, true, true, true, true, false, false, true, true, true, true, true, true, true, false, false, false, false] { tmps := #[.agg #[.string nm, .slice (some ⟨q, off, none⟩) n c], .pointer (some ⟨w.heap.size, 0, none⟩), u2, .slice A1 q1 c1, .int .i64 0, .slice (some ad) n c2, .int .i64 0, .int .i64 (k : Int), .slice A8 q8 c8, .int .i64 0, .int .i64 R, .bool true, .tuple #[.slice A1 q1 c1, .int .i64 0], .agg #[.string nm, .slice (some ⟨q, off, none⟩) n c], .tuple #[.slice A1 q1 c1, .int .i64 0], .slice A1 q1 c1, .int .i64 0, .pointer (some ⟨w.heap.size, 1, none⟩), .slice (some ⟨q, off, none⟩) n c, .int .i64 (n : Int), .bool false, .bool false, .int .i64 0, .bool false, .bool false, undef, .tuple #[.slice (some ad) n c2, .int .i64 0], .agg #[.string nm, .slice (some ⟨q, off, none⟩) n c], .tuple #[.slice (some ad) n c2, .int .i64 0], .slice (some ad) n c2, .int .i64 0, .int .i64 0, .bool false, .bool false, .slice (some ad) n c2, .int .i64 (n : Int), .pointer (some ⟨w.heap.size, 1, none⟩), .slice (some ⟨q, off, none⟩) n c, .int .i64 (n : Int), .bool false, .bool false, .int .i64 (k : Int), .slice (some ad) n c2, .int .i64 (n : Int), .bool true, u45, u46, .tuple #[.slice A3 q3 c3, .int .i64 0], .agg #[.string nm, .slice (some ⟨q, off, none⟩) n c], .int .i64 (k : Int), .tuple #[.slice A3 q3 c3, .int .i64 0], .slice A3 q3 c3, .int .i64 0, .tuple #[.int .i64 R, .bool true], .pointer (some ⟨w.heap.size, 1, none⟩), .slice (some ⟨q, off, none⟩) n c, .int .i64 (k : Int), .pointer (some ⟨q, off + k * 8, none⟩), .agg #[.int .i64 op, .int .i64 ra, .int .i64 rb, .int .i64 rc, .int .i64 obj, .int .i64 m, .int .i64 fn, .int .i64 ord], .tuple #[.int .i64 R, .bool true], .int .i64 R, .bool true, .bool true, .slice A3 q3 c3, .int .i64 R, .slice A8 q8 c8, .int .i64 0, .bool false, .bool false, .slice (some ad) n c2, .int .i64 (k : Int), u71, u72, .slice A8 q8 c8, .pointer (some ⟨w.heap.size, 1, none⟩), .slice (some ⟨q, off, none⟩) n c, .int .i64 (k : Int), .pointer (some ⟨q, off + k * 8, none⟩), .agg #[.int .i64 op, .int .i64 ra, .int .i64 rb, .int .i64 rc, .int .i64 obj, .int .i64 m, .int .i64 fn, .int .i64 ord], .slice A7 m7 c7, u80, u81, u82, u83, undef], defers := [] } X9 := by
          intro X9 A7 c7 HP
          have HP := Lib.hid HP
          refine (hG _ _ _ _).2 ?_
          refine wpAnyIn_ready (rs := [5, 14]) (by kernel_rfl) (by simp) ?_
          refine AllReadyIn.cons rfl (fun K hK => ?_) (AllReadyIn.cons rfl (fun K hK => ?_) (AllReadyIn.nil))
          · go_simp
            refine hK _ _ ?_
            clear hK K
            (try simp only [Act.put, List.setIfInBounds_toArray, List.set_cons_zero, List.set_cons_succ])
            exact (hG _ _ _ _).1 (hs111111011111110000 _ _ _ HP.out)
          · go_simp
            gi_wp2_with fail
            refine ⟨trivial, (callsIn_wide.2 (HUN.out X9 A7 c7 HP.out.2 HP.out.1)).mono ?_⟩
            rintro e X10 ⟨A9, c9, rfl, hr9, hb9⟩
            refine hK _ _ ?_
            clear hK K
            (try simp only [Act.put, List.setIfInBounds_toArray, List.set_cons_zero, List.set_cons_succ])
            exact (hG _ _ _ _).1 (hs111110011111111000 _ _ _ _ _ ⟨belowThen HP.out.1 hb9, hr9⟩)
        have hs111111111110000000 : G 7 #[true, true, true, true, true, true, true, true, true, true, true, false, false, false, false, false, false, false] { tmps := #[.agg #[.string nm, .slice (some ⟨q, off, none⟩) n c], .pointer (some ⟨w.heap.size, 0, none⟩), u2, .slice A1 q1 c1, .int .i64 0, .slice (some ad) n c2, .int .i64 0, .int .i64 (k : Int), .slice A8 q8 c8, .int .i64 0, .int .i64 R, .bool true, .tuple #[.slice A1 q1 c1, .int .i64 0], .agg #[.string nm, .slice (some ⟨q, off, none⟩) n c], .tuple #[.slice A1 q1 c1, .int .i64 0], .slice A1 q1 c1, .int .i64 0, .pointer (some ⟨w.heap.size, 1, none⟩), .slice (some ⟨q, off, none⟩) n c, .int .i64 (n : Int), .bool false, .bool false, .int .i64 0, .bool false, .bool false, undef, .tuple #[.slice (some ad) n c2, .int .i64 0], .agg #[.string nm, .slice (some ⟨q, off, none⟩) n c], .tuple #[.slice (some ad) n c2, .int .i64 0], .slice (some ad) n c2, .int .i64 0, .int .i64 0, .bool false, .bool false, .slice (some ad) n c2, .int .i64 (n : Int), .pointer (some ⟨w.heap.size, 1, none⟩), .slice (some ⟨q, off, none⟩) n c, .int .i64 (n : Int), .bool false, .bool false, .int .i64 (k : Int), .slice (some ad) n c2, .int .i64 (n : Int), .bool true, u45, u46, .tuple #[.slice A3 q3 c3, .int .i64 0], .agg #[.string nm, .slice (some ⟨q, off, none⟩) n c], .int .i64 (k : Int), .tuple #[.slice A3 q3 c3, .int .i64 0], .slice A3 q3 c3, .int .i64 0, .tuple #[.int .i64 R, .bool true], .pointer (some ⟨w.heap.size, 1, none⟩), .slice (some ⟨q, off, none⟩) n c, .int .i64 (k : Int), .pointer (some ⟨q, off + k * 8, none⟩), .agg #[.int .i64 op, .int .i64 ra, .int .i64 rb, .int .i64 rc, .int .i64 obj, .int .i64 m, .int .i64 fn, .int .i64 ord], .tuple #[.int .i64 R, .bool true], .int .i64 R, .bool true, .bool true, .slice A3 q3 c3, .int .i64 R, .slice A8 q8 c8, .int .i64 0, .bool false, .bool false, .slice (some ad) n c2, .int .i64 (k : Int), .pointer (some (ad.add k)), .slice Al ql cl, .slice A8 q8 c8, .pointer (some ⟨w.heap.size, 1, none⟩), .slice (some ⟨q, off, none⟩) n c, .int .i64 (k : Int), u77, u78, u79, u80, u81, u82, u83, undef], defers := [] } Z1 := by
          refine (hG _ _ _ _).2 ?_
          refine wpAnyIn_ready (rs := [11]) (by kernel_rfl) (by simp) ?_
          refine AllReadyIn.cons rfl (fun K hK => ?_) (AllReadyIn.nil)
          · go_simp
            refine hK _ _ ?_
            clear hK K
            (try simp only [Act.put, List.setIfInBounds_toArray, List.set_cons_zero, List.set_cons_succ])
            exact (hG _ _ _ _).1 hs111111111111000000
        have hs111111011111000000 : G 7 #[true, true, true, true, true, true, false, true, true, true, true, true, false, false, false, false, false, false] { tmps := #[.agg #[.string nm, .slice (some ⟨q, off, none⟩) n c], .pointer (some ⟨w.heap.size, 0, none⟩), u2, .slice A1 q1 c1, .int .i64 0, .slice (some ad) n c2, .int .i64 0, .int .i64 (k : Int), .slice A8 q8 c8, .int .i64 0, .int .i64 R, .bool true, .tuple #[.slice A1 q1 c1, .int .i64 0], .agg #[.string nm, .slice (some ⟨q, off, none⟩) n c], .tuple #[.slice A1 q1 c1, .int .i64 0], .slice A1 q1 c1, .int .i64 0, .pointer (some ⟨w.heap.size, 1, none⟩), .slice (some ⟨q, off, none⟩) n c, .int .i64 (n : Int), .bool false, .bool false, .int .i64 0, .bool false, .bool false, undef, .tuple #[.slice (some ad) n c2, .int .i64 0], .agg #[.string nm, .slice (some ⟨q, off, none⟩) n c], .tuple #[.slice (some ad) n c2, .int .i64 0], .slice (some ad) n c2, .int .i64 0, .int .i64 0, .bool false, .bool false, .slice (some ad) n c2, .int .i64 (n : Int), .pointer (some ⟨w.heap.size, 1, none⟩), .slice (some ⟨q, off, none⟩) n c, .int .i64 (n : Int), .bool false, .bool false, .int .i64 (k : Int), .slice (some ad) n c2, .int .i64 (n : Int), .bool true, u45, u46, .tuple #[.slice A3 q3 c3, .int .i64 0], .agg #[.string nm, .slice (some ⟨q, off, none⟩) n c], .int .i64 (k : Int), .tuple #[.slice A3 q3 c3, .int .i64 0], .slice A3 q3 c3, .int .i64 0, .tuple #[.int .i64 R, .bool true], .pointer (some ⟨w.heap.size, 1, none⟩), .slice (some ⟨q, off, none⟩) n c, .int .i64 (k : Int), .pointer (some ⟨q, off + k * 8, none⟩), .agg #[.int .i64 op, .int .i64 ra, .int .i64 rb, .int .i64 rc, .int .i64 obj, .int .i64 m, .int .i64 fn, .int .i64 ord], .tuple #[.int .i64 R, .bool true], .int .i64 R, .bool true, .bool true, .slice A3 q3 c3, .int .i64 R, .slice A8 q8 c8, .int .i64 0, .bool false, .bool false, .slice (some ad) n c2, .int .i64 (k : Int), .pointer (some (ad.add k)), u72, .slice A8 q8 c8, .pointer (some ⟨w.heap.size, 1, none⟩), .slice (some ⟨q, off, none⟩) n c, .int .i64 (k : Int), .pointer (some ⟨q, off + k * 8, none⟩), u78, u79, u80, u81, u82, u83, undef], defers := [] } Z1 := by
          refine (hG _ _ _ _).2 ?_
          refine wpAnyIn_ready (rs := [6, 12]) (by kernel_rfl) (by simp) ?_
          refine AllReadyIn.cons rfl (fun K hK => ?_) (AllReadyIn.cons rfl (fun K hK => ?_) (AllReadyIn.nil))
          · have tl := hcl
            go_simp
            refine hK _ _ ?_
            clear hK K
            (try simp only [Act.put, List.setIfInBounds_toArray, List.set_cons_zero, List.set_cons_succ])
            exact (hG _ _ _ _).1 hs111111111111000000
          · go_simp
            refine hK _ _ ?_
            clear hK K
            (try simp only [Act.put, List.setIfInBounds_toArray, List.set_cons_zero, List.set_cons_succ])
            exact (hG _ _ _ _).1 hs111111011111100000
        have hs111110011111100000 : G 7 #[true, true, true, true, true, false, false, true, true, true, true, true, true, false, false, false, false, false] { tmps := #[.agg #[.string nm, .slice (some ⟨q, off, none⟩) n c], .pointer (some ⟨w.heap.size, 0, none⟩), u2, .slice A1 q1 c1, .int .i64 0, .slice (some ad) n c2, .int .i64 0, .int .i64 (k : Int), .slice A8 q8 c8, .int .i64 0, .int .i64 R, .bool true, .tuple #[.slice A1 q1 c1, .int .i64 0], .agg #[.string nm, .slice (some ⟨q, off, none⟩) n c], .tuple #[.slice A1 q1 c1, .int .i64 0], .slice A1 q1 c1, .int .i64 0, .pointer (some ⟨w.heap.size, 1, none⟩), .slice (some ⟨q, off, none⟩) n c, .int .i64 (n : Int), .bool false, .bool false, .int .i64 0, .bool false, .bool false, undef, .tuple #[.slice (some ad) n c2, .int .i64 0], .agg #[.string nm, .slice (some ⟨q, off, none⟩) n c], .tuple #[.slice (some ad) n c2, .int .i64 0], .slice (some ad) n c2, .int .i64 0, .int .i64 0, .bool false, .bool false, .slice (some ad) n c2, .int .i64 (n : Int), .pointer (some ⟨w.heap.size, 1, none⟩), .slice (some ⟨q, off, none⟩) n c, .int .i64 (n : Int), .bool false, .bool false, .int .i64 (k : Int), .slice (some ad) n c2, .int .i64 (n : Int), .bool true, u45, u46, .tuple #[.slice A3 q3 c3, .int .i64 0], .agg #[.string nm, .slice (some ⟨q, off, none⟩) n c], .int .i64 (k : Int), .tuple #[.slice A3 q3 c3, .int .i64 0], .slice A3 q3 c3, .int .i64 0, .tuple #[.int .i64 R, .bool true], .pointer (some ⟨w.heap.size, 1, none⟩), .slice (some ⟨q, off, none⟩) n c, .int .i64 (k : Int), .pointer (some ⟨q, off + k * 8, none⟩), .agg #[.int .i64 op, .int .i64 ra, .int .i64 rb, .int .i64 rc, .int .i64 obj, .int .i64 m, .int .i64 fn, .int .i64 ord], .tuple #[.int .i64 R, .bool true], .int .i64 R, .bool true, .bool true, .slice A3 q3 c3, .int .i64 R, .slice A8 q8 c8, .int .i64 0, .bool false, .bool false, .slice (some ad) n c2, .int .i64 (k : Int), u71, u72, .slice A8 q8 c8, .pointer (some ⟨w.heap.size, 1, none⟩), .slice (some ⟨q, off, none⟩) n c, .int .i64 (k : Int), .pointer (some ⟨q, off + k * 8, none⟩), .agg #[.int .i64 op, .int .i64 ra, .int .i64 rb, .int .i64 rc, .int .i64 obj, .int .i64 m, .int .i64 fn, .int .i64 ord], u79, u80, u81, u82, u83, undef], defers := [] } Z1 := by
          refine (hG _ _ _ _).2 ?_
          refine wpAnyIn_ready (rs := [5, 13]) (by kernel_rfl) (by simp) ?_
          refine AllReadyIn.cons rfl (fun K hK => ?_) (AllReadyIn.cons rfl (fun K hK => ?_) (AllReadyIn.nil))
          · go_simp
            refine hK _ _ ?_
            clear hK K
            (try simp only [Act.put, List.setIfInBounds_toArray, List.set_cons_zero, List.set_cons_succ])
            exact (hG _ _ _ _).1 hs111111011111100000
          · go_simp
            gi_wp2_with fail
            refine ⟨trivial, (callsIn_wide.2 HUC.out).mono ?_⟩
            rintro e X9 ⟨A7, c7, rfl, hr7, hb7⟩
            rw [HM7.out]
            refine hK _ _ ?_
            clear hK K
            (try simp only [Act.put, List.setIfInBounds_toArray, List.set_cons_zero, List.set_cons_succ])
            exact (hG _ _ _ _).1 (hs111110011111110000 _ _ _ ⟨hb7, hr7⟩)
        have hs111111111010000000 : G 8 #[true, true, true, true, true, true, true, true, true, false, true, false, false, false, false, false, false, false] { tmps := #[.agg #[.string nm, .slice (some ⟨q, off, none⟩) n c], .pointer (some ⟨w.heap.size, 0, none⟩), u2, .slice A1 q1 c1, .int .i64 0, .slice (some ad) n c2, .int .i64 0, .int .i64 (k : Int), .slice A8 q8 c8, .int .i64 0, .int .i64 R, .bool true, .tuple #[.slice A1 q1 c1, .int .i64 0], .agg #[.string nm, .slice (some ⟨q, off, none⟩) n c], .tuple #[.slice A1 q1 c1, .int .i64 0], .slice A1 q1 c1, .int .i64 0, .pointer (some ⟨w.heap.size, 1, none⟩), .slice (some ⟨q, off, none⟩) n c, .int .i64 (n : Int), .bool false, .bool false, .int .i64 0, .bool false, .bool false, undef, .tuple #[.slice (some ad) n c2, .int .i64 0], .agg #[.string nm, .slice (some ⟨q, off, none⟩) n c], .tuple #[.slice (some ad) n c2, .int .i64 0], .slice (some ad) n c2, .int .i64 0, .int .i64 0, .bool false, .bool false, .slice (some ad) n c2, .int .i64 (n : Int), .pointer (some ⟨w.heap.size, 1, none⟩), .slice (some ⟨q, off, none⟩) n c, .int .i64 (n : Int), .bool false, .bool false, .int .i64 (k : Int), .slice (some ad) n c2, .int .i64 (n : Int), .bool true, u45, u46, .tuple #[.slice A3 q3 c3, .int .i64 0], .agg #[.string nm, .slice (some ⟨q, off, none⟩) n c], .int .i64 (k : Int), .tuple #[.slice A3 q3 c3, .int .i64 0], .slice A3 q3 c3, .int .i64 0, .tuple #[.int .i64 R, .bool true], .pointer (some ⟨w.heap.size, 1, none⟩), .slice (some ⟨q, off, none⟩) n c, .int .i64 (k : Int), .pointer (some ⟨q, off + k * 8, none⟩), .agg #[.int .i64 op, .int .i64 ra, .int .i64 rb, .int .i64 rc, .int .i64 obj, .int .i64 m, .int .i64 fn, .int .i64 ord], .tuple #[.int .i64 R, .bool true], .int .i64 R, .bool true, .bool true, .slice A3 q3 c3, .int .i64 R, .slice A8 q8 c8, .int .i64 0, .bool false, .bool false, .slice (some ad) n c2, .int .i64 (k : Int), .pointer (some (ad.add k)), .slice Al ql cl, .slice A8 q8 c8, .pointer (some ⟨w.heap.size, 1, none⟩), u75, .int .i64 (k : Int), u77, u78, u79, u80, u81, u82, u83, undef], defers := [] } Z1 := by
          refine (hG _ _ _ _).2 ?_
          refine wpAnyIn_ready (rs := [9]) (by kernel_rfl) (by simp) ?_
          refine AllReadyIn.cons rfl (fun K hK => ?_) (AllReadyIn.nil)
          · go_simp
            refine hK _ _ ?_
            clear hK K
            (try simp only [Act.put, List.setIfInBounds_toArray, List.set_cons_zero, List.set_cons_succ])
            exact (hG _ _ _ _).1 hs111111111110000000
        have hs111111011110000000 : G 8 #[true, true, true, true, true, true, false, true, true, true, true, false, false, false, false, false, false, false] { tmps := #[.agg #[.string nm, .slice (some ⟨q, off, none⟩) n c], .pointer (some ⟨w.heap.size, 0, none⟩), u2, .slice A1 q1 c1, .int .i64 0, .slice (some ad) n c2, .int .i64 0, .int .i64 (k : Int), .slice A8 q8 c8, .int .i64 0, .int .i64 R, .bool true, .tuple #[.slice A1 q1 c1, .int .i64 0], .agg #[.string nm, .slice (some ⟨q, off, none⟩) n c], .tuple #[.slice A1 q1 c1, .int .i64 0], .slice A1 q1 c1, .int .i64 0, .pointer (some ⟨w.heap.size, 1, none⟩), .slice (some ⟨q, off, none⟩) n c, .int .i64 (n : Int), .bool false, .bool false, .int .i64 0, .bool false, .bool false, undef, .tuple #[.slice (some ad) n c2, .int .i64 0], .agg #[.string nm, .slice (some ⟨q, off, none⟩) n c], .tuple #[.slice (some ad) n c2, .int .i64 0], .slice (some ad) n c2, .int .i64 0, .int .i64 0, .bool false, .bool false, .slice (some ad) n c2, .int .i64 (n : Int), .pointer (some ⟨w.heap.size, 1, none⟩), .slice (some ⟨q, off, none⟩) n c, .int .i64 (n : Int), .bool false, .bool false, .int .i64 (k : Int), .slice (some ad) n c2, .int .i64 (n : Int), .bool true, u45, u46, .tuple #[.slice A3 q3 c3, .int .i64 0], .agg #[.string nm, .slice (some ⟨q, off, none⟩) n c], .int .i64 (k : Int), .tuple #[.slice A3 q3 c3, .int .i64 0], .slice A3 q3 c3, .int .i64 0, .tuple #[.int .i64 R, .bool true], .pointer (some ⟨w.heap.size, 1, none⟩), .slice (some ⟨q, off, none⟩) n c, .int .i64 (k : Int), .pointer (some ⟨q, off + k * 8, none⟩), .agg #[.int .i64 op, .int .i64 ra, .int .i64 rb, .int .i64 rc, .int .i64 obj, .int .i64 m, .int .i64 fn, .int .i64 ord], .tuple #[.int .i64 R, .bool true], .int .i64 R, .bool true, .bool true, .slice A3 q3 c3, .int .i64 R, .slice A8 q8 c8, .int .i64 0, .bool false, .bool false, .slice (some ad) n c2, .int .i64 (k : Int), .pointer (some (ad.add k)), u72, .slice A8 q8 c8, .pointer (some ⟨w.heap.size, 1, none⟩), .slice (some ⟨q, off, none⟩) n c, .int .i64 (k : Int), u77, u78, u79, u80, u81, u82, u83, undef], defers := [] } Z1 := by
          refine (hG _ _ _ _).2 ?_
          refine wpAnyIn_ready (rs := [6, 11]) (by kernel_rfl) (by simp) ?_
          refine AllReadyIn.cons rfl (fun K hK => ?_) (AllReadyIn.cons rfl (fun K hK => ?_) (AllReadyIn.nil))
          · have tl := hcl
            go_simp
            refine hK _ _ ?_
            clear hK K
            (try simp only [Act.put, List.setIfInBounds_toArray, List.set_cons_zero, List.set_cons_succ])
            exact (hG _ _ _ _).1 hs111111111110000000
          · go_simp
            refine hK _ _ ?_
            clear hK K
            (try simp only [Act.put, List.setIfInBounds_toArray, List.set_cons_zero, List.set_cons_succ])
            exact (hG _ _ _ _).1 hs111111011111000000
        have hs111110011111000000 : G 8 #[true, true, true, true, true, false, false, true, true, true, true, true, false, false, false, false, false, false] { tmps := #[.agg #[.string nm, .slice (some ⟨q, off, none⟩) n c], .pointer (some ⟨w.heap.size, 0, none⟩), u2, .slice A1 q1 c1, .int .i64 0, .slice (some ad) n c2, .int .i64 0, .int .i64 (k : Int), .slice A8 q8 c8, .int .i64 0, .int .i64 R, .bool true, .tuple #[.slice A1 q1 c1, .int .i64 0], .agg #[.string nm, .slice (some ⟨q, off, none⟩) n c], .tuple #[.slice A1 q1 c1, .int .i64 0], .slice A1 q1 c1, .int .i64 0, .pointer (some ⟨w.heap.size, 1, none⟩), .slice (some ⟨q, off, none⟩) n c, .int .i64 (n : Int), .bool false, .bool false, .int .i64 0, .bool false, .bool false, undef, .tuple #[.slice (some ad) n c2, .int .i64 0], .agg #[.string nm, .slice (some ⟨q, off, none⟩) n c], .tuple #[.slice (some ad) n c2, .int .i64 0], .slice (some ad) n c2, .int .i64 0, .int .i64 0, .bool false, .bool false, .slice (some ad) n c2, .int .i64 (n : Int), .pointer (some ⟨w.heap.size, 1, none⟩), .slice (some ⟨q, off, none⟩) n c, .int .i64 (n : Int), .bool false, .bool false, .int .i64 (k : Int), .slice (some ad) n c2, .int .i64 (n : Int), .bool true, u45, u46, .tuple #[.slice A3 q3 c3, .int .i64 0], .agg #[.string nm, .slice (some ⟨q, off, none⟩) n c], .int .i64 (k : Int), .tuple #[.slice A3 q3 c3, .int .i64 0], .slice A3 q3 c3, .int .i64 0, .tuple #[.int .i64 R, .bool true], .pointer (some ⟨w.heap.size, 1, none⟩), .slice (some ⟨q, off, none⟩) n c, .int .i64 (k : Int), .pointer (some ⟨q, off + k * 8, none⟩), .agg #[.int .i64 op, .int .i64 ra, .int .i64 rb, .int .i64 rc, .int .i64 obj, .int .i64 m, .int .i64 fn, .int .i64 ord], .tuple #[.int .i64 R, .bool true], .int .i64 R, .bool true, .bool true, .slice A3 q3 c3, .int .i64 R, .slice A8 q8 c8, .int .i64 0, .bool false, .bool false, .slice (some ad) n c2, .int .i64 (k : Int), u71, u72, .slice A8 q8 c8, .pointer (some ⟨w.heap.size, 1, none⟩), .slice (some ⟨q, off, none⟩) n c, .int .i64 (k : Int), .pointer (some ⟨q, off + k * 8, none⟩), u78, u79, u80, u81, u82, u83, undef], defers := [] } Z1 := by
          refine (hG _ _ _ _).2 ?_
          refine wpAnyIn_ready (rs := [5, 12]) (by kernel_rfl) (by simp) ?_
          refine AllReadyIn.cons rfl (fun K hK => ?_) (AllReadyIn.cons rfl (fun K hK => ?_) (AllReadyIn.nil))
          · go_simp
            refine hK _ _ ?_
            clear hK K
            (try simp only [Act.put, List.setIfInBounds_toArray, List.set_cons_zero, List.set_cons_succ])
            exact (hG _ _ _ _).1 hs111111011111000000
          · go_simp
            refine hK _ _ ?_
            clear hK K
            (try simp only [Act.put, List.setIfInBounds_toArray, List.set_cons_zero, List.set_cons_succ])
            exact (hG _ _ _ _).1 hs111110011111100000
        have hs111111110010000000 : G 9 #[true, true, true, true, true, true, true, true, false, false, true, false, false, false, false, false, false, false] { tmps := #[.agg #[.string nm, .slice (some ⟨q, off, none⟩) n c], .pointer (some ⟨w.heap.size, 0, none⟩), u2, .slice A1 q1 c1, .int .i64 0, .slice (some ad) n c2, .int .i64 0, .int .i64 (k : Int), .slice A8 q8 c8, .int .i64 0, .int .i64 R, .bool true, .tuple #[.slice A1 q1 c1, .int .i64 0], .agg #[.string nm, .slice (some ⟨q, off, none⟩) n c], .tuple #[.slice A1 q1 c1, .int .i64 0], .slice A1 q1 c1, .int .i64 0, .pointer (some ⟨w.heap.size, 1, none⟩), .slice (some ⟨q, off, none⟩) n c, .int .i64 (n : Int), .bool false, .bool false, .int .i64 0, .bool false, .bool false, undef, .tuple #[.slice (some ad) n c2, .int .i64 0], .agg #[.string nm, .slice (some ⟨q, off, none⟩) n c], .tuple #[.slice (some ad) n c2, .int .i64 0], .slice (some ad) n c2, .int .i64 0, .int .i64 0, .bool false, .bool false, .slice (some ad) n c2, .int .i64 (n : Int), .pointer (some ⟨w.heap.size, 1, none⟩), .slice (some ⟨q, off, none⟩) n c, .int .i64 (n : Int), .bool false, .bool false, .int .i64 (k : Int), .slice (some ad) n c2, .int .i64 (n : Int), .bool true, u45, u46, .tuple #[.slice A3 q3 c3, .int .i64 0], .agg #[.string nm, .slice (some ⟨q, off, none⟩) n c], .int .i64 (k : Int), .tuple #[.slice A3 q3 c3, .int .i64 0], .slice A3 q3 c3, .int .i64 0, .tuple #[.int .i64 R, .bool true], .pointer (some ⟨w.heap.size, 1, none⟩), .slice (some ⟨q, off, none⟩) n c, .int .i64 (k : Int), .pointer (some ⟨q, off + k * 8, none⟩), .agg #[.int .i64 op, .int .i64 ra, .int .i64 rb, .int .i64 rc, .int .i64 obj, .int .i64 m, .int .i64 fn, .int .i64 ord], .tuple #[.int .i64 R, .bool true], .int .i64 R, .bool true, .bool true, .slice A3 q3 c3, .int .i64 R, .slice A8 q8 c8, .int .i64 0, .bool false, .bool false, .slice (some ad) n c2, .int .i64 (k : Int), .pointer (some (ad.add k)), .slice Al ql cl, .slice A8 q8 c8, u74, u75, .int .i64 (k : Int), u77, u78, u79, u80, u81, u82, u83, undef], defers := [] } Z1 := by
          refine (hG _ _ _ _).2 ?_
          refine wpAnyIn_ready (rs := [8]) (by kernel_rfl) (by simp) ?_
          refine AllReadyIn.cons rfl (fun K hK => ?_) (AllReadyIn.nil)
          · go_simp
            refine hK _ _ ?_
            clear hK K
            (try simp only [Act.put, List.setIfInBounds_toArray, List.set_cons_zero, List.set_cons_succ])
            exact (hG _ _ _ _).1 hs111111111010000000
        have hs111111011010000000 : G 9 #[true, true, true, true, true, true, false, true, true, false, true, false, false, false, false, false, false, false] { tmps := #[.agg #[.string nm, .slice (some ⟨q, off, none⟩) n c], .pointer (some ⟨w.heap.size, 0, none⟩), u2, .slice A1 q1 c1, .int .i64 0, .slice (some ad) n c2, .int .i64 0, .int .i64 (k : Int), .slice A8 q8 c8, .int .i64 0, .int .i64 R, .bool true, .tuple #[.slice A1 q1 c1, .int .i64 0], .agg #[.string nm, .slice (some ⟨q, off, none⟩) n c], .tuple #[.slice A1 q1 c1, .int .i64 0], .slice A1 q1 c1, .int .i64 0, .pointer (some ⟨w.heap.size, 1, none⟩), .slice (some ⟨q, off, none⟩) n c, .int .i64 (n : Int), .bool false, .bool false, .int .i64 0, .bool false, .bool false, undef, .tuple #[.slice (some ad) n c2, .int .i64 0], .agg #[.string nm, .slice (some ⟨q, off, none⟩) n c], .tuple #[.slice (some ad) n c2, .int .i64 0], .slice (some ad) n c2, .int .i64 0, .int .i64 0, .bool false, .bool false, .slice (some ad) n c2, .int .i64 (n : Int), .pointer (some ⟨w.heap.size, 1, none⟩), .slice (some ⟨q, off, none⟩) n c, .int .i64 (n : Int), .bool false, .bool false, .int .i64 (k : Int), .slice (some ad) n c2, .int .i64 (n : Int), .bool true, u45, u46, .tuple #[.slice A3 q3 c3, .int .i64 0], .agg #[.string nm, .slice (some ⟨q, off, none⟩) n c], .int .i64 (k : Int), .tuple #[.slice A3 q3 c3, .int .i64 0], .slice A3 q3 c3, .int .i64 0, .tuple #[.int .i64 R, .bool true], .pointer (some ⟨w.heap.size, 1, none⟩), .slice (some ⟨q, off, none⟩) n c, .int .i64 (k : Int), .pointer (some ⟨q, off + k * 8, none⟩), .agg #[.int .i64 op, .int .i64 ra, .int .i64 rb, .int .i64 rc, .int .i64 obj, .int .i64 m, .int .i64 fn, .int .i64 ord], .tuple #[.int .i64 R, .bool true], .int .i64 R, .bool true, .bool true, .slice A3 q3 c3, .int .i64 R, .slice A8 q8 c8, .int .i64 0, .bool false, .bool false, .slice (some ad) n c2, .int .i64 (k : Int), .pointer (some (ad.add k)), u72, .slice A8 q8 c8, .pointer (some ⟨w.heap.size, 1, none⟩), u75, .int .i64 (k : Int), u77, u78, u79, u80, u81, u82, u83, undef], defers := [] } Z1 := by
          refine (hG _ _ _ _).2 ?_
          refine wpAnyIn_ready (rs := [6, 9]) (by kernel_rfl) (by simp) ?_
          refine AllReadyIn.cons rfl (fun K hK => ?_) (AllReadyIn.cons rfl (fun K hK => ?_) (AllReadyIn.nil))
          · have tl := hcl
            go_simp
            refine hK _ _ ?_
            clear hK K
            (try simp only [Act.put, List.setIfInBounds_toArray, List.set_cons_zero, List.set_cons_succ])
            exact (hG _ _ _ _).1 hs111111111010000000
          · go_simp
            refine hK _ _ ?_
            clear hK K
            (try simp only [Act.put, List.setIfInBounds_toArray, List.set_cons_zero, List.set_cons_succ])
            exact (hG _ _ _ _).1 hs111111011110000000
        have hs111110011110000000 : G 9 #[true, true, true, true, true, false, false, true, true, true, true, false, false, false, false, false, false, false] { tmps := #[.agg #[.string nm, .slice (some ⟨q, off, none⟩) n c], .pointer (some ⟨w.heap.size, 0, none⟩), u2, .slice A1 q1 c1, .int .i64 0, .slice (some ad) n c2, .int .i64 0, .int .i64 (k : Int), .slice A8 q8 c8, .int .i64 0, .int .i64 R, .bool true, .tuple #[.slice A1 q1 c1, .int .i64 0], .agg #[.string nm, .slice (some ⟨q, off, none⟩) n c], .tuple #[.slice A1 q1 c1, .int .i64 0], .slice A1 q1 c1, .int .i64 0, .pointer (some ⟨w.heap.size, 1, none⟩), .slice (some ⟨q, off, none⟩) n c, .int .i64 (n : Int), .bool false, .bool false, .int .i64 0, .bool false, .bool false, undef, .tuple #[.slice (some ad) n c2, .int .i64 0], .agg #[.string nm, .slice (some ⟨q, off, none⟩) n c], .tuple #[.slice (some ad) n c2, .int .i64 0], .slice (some ad) n c2, .int .i64 0, .int .i64 0, .bool false, .bool false, .slice (some ad) n c2, .int .i64 (n : Int), .pointer (some ⟨w.heap.size, 1, none⟩), .slice (some ⟨q, off, none⟩) n c, .int .i64 (n : Int), .bool false, .bool false, .int .i64 (k : Int), .slice (some ad) n c2, .int .i64 (n : Int), .bool true, u45, u46, .tuple #[.slice A3 q3 c3, .int .i64 0], .agg #[.string nm, .slice (some ⟨q, off, none⟩) n c], .int .i64 (k : Int), .tuple #[.slice A3 q3 c3, .int .i64 0], .slice A3 q3 c3, .int .i64 0, .tuple #[.int .i64 R, .bool true], .pointer (some ⟨w.heap.size, 1, none⟩), .slice (some ⟨q, off, none⟩) n c, .int .i64 (k : Int), .pointer (some ⟨q, off + k * 8, none⟩), .agg #[.int .i64 op, .int .i64 ra, .int .i64 rb, .int .i64 rc, .int .i64 obj, .int .i64 m, .int .i64 fn, .int .i64 ord], .tuple #[.int .i64 R, .bool true], .int .i64 R, .bool true, .bool true, .slice A3 q3 c3, .int .i64 R, .slice A8 q8 c8, .int .i64 0, .bool false, .bool false, .slice (some ad) n c2, .int .i64 (k : Int), u71, u72, .slice A8 q8 c8, .pointer (some ⟨w.heap.size, 1, none⟩), .slice (some ⟨q, off, none⟩) n c, .int .i64 (k : Int), u77, u78, u79, u80, u81, u82, u83, undef], defers := [] } Z1 := by
          refine (hG _ _ _ _).2 ?_
          refine wpAnyIn_ready (rs := [5, 11]) (by kernel_rfl) (by simp) ?_
          refine AllReadyIn.cons rfl (fun K hK => ?_) (AllReadyIn.cons rfl (fun K hK => ?_) (AllReadyIn.nil))
          · go_simp
            refine hK _ _ ?_
            clear hK K
            (try simp only [Act.put, List.setIfInBounds_toArray, List.set_cons_zero, List.set_cons_succ])
            exact (hG _ _ _ _).1 hs111111011110000000
          · go_simp
            refine hK _ _ ?_
            clear hK K
            (try simp only [Act.put, List.setIfInBounds_toArray, List.set_cons_zero, List.set_cons_succ])
            exact (hG _ _ _ _).1 hs111110011111000000
        have hs111111010010000000 : G 10 #[true, true, true, true, true, true, false, true, false, false, true, false, false, false, false, false, false, false] { tmps := #[.agg #[.string nm, .slice (some ⟨q, off, none⟩) n c], .pointer (some ⟨w.heap.size, 0, none⟩), u2, .slice A1 q1 c1, .int .i64 0, .slice (some ad) n c2, .int .i64 0, .int .i64 (k : Int), .slice A8 q8 c8, .int .i64 0, .int .i64 R, .bool true, .tuple #[.slice A1 q1 c1, .int .i64 0], .agg #[.string nm, .slice (some ⟨q, off, none⟩) n c], .tuple #[.slice A1 q1 c1, .int .i64 0], .slice A1 q1 c1, .int .i64 0, .pointer (some ⟨w.heap.size, 1, none⟩), .slice (some ⟨q, off, none⟩) n c, .int .i64 (n : Int), .bool false, .bool false, .int .i64 0, .bool false, .bool false, undef, .tuple #[.slice (some ad) n c2, .int .i64 0], .agg #[.string nm, .slice (some ⟨q, off, none⟩) n c], .tuple #[.slice (some ad) n c2, .int .i64 0], .slice (some ad) n c2, .int .i64 0, .int .i64 0, .bool false, .bool false, .slice (some ad) n c2, .int .i64 (n : Int), .pointer (some ⟨w.heap.size, 1, none⟩), .slice (some ⟨q, off, none⟩) n c, .int .i64 (n : Int), .bool false, .bool false, .int .i64 (k : Int), .slice (some ad) n c2, .int .i64 (n : Int), .bool true, u45, u46, .tuple #[.slice A3 q3 c3, .int .i64 0], .agg #[.string nm, .slice (some ⟨q, off, none⟩) n c], .int .i64 (k : Int), .tuple #[.slice A3 q3 c3, .int .i64 0], .slice A3 q3 c3, .int .i64 0, .tuple #[.int .i64 R, .bool true], .pointer (some ⟨w.heap.size, 1, none⟩), .slice (some ⟨q, off, none⟩) n c, .int .i64 (k : Int), .pointer (some ⟨q, off + k * 8, none⟩), .agg #[.int .i64 op, .int .i64 ra, .int .i64 rb, .int .i64 rc, .int .i64 obj, .int .i64 m, .int .i64 fn, .int .i64 ord], .tuple #[.int .i64 R, .bool true], .int .i64 R, .bool true, .bool true, .slice A3 q3 c3, .int .i64 R, .slice A8 q8 c8, .int .i64 0, .bool false, .bool false, .slice (some ad) n c2, .int .i64 (k : Int), .pointer (some (ad.add k)), u72, .slice A8 q8 c8, u74, u75, .int .i64 (k : Int), u77, u78, u79, u80, u81, u82, u83, undef], defers := [] } Z1 := by
          refine (hG _ _ _ _).2 ?_
          refine wpAnyIn_ready (rs := [6, 8]) (by kernel_rfl) (by simp) ?_
          refine AllReadyIn.cons rfl (fun K hK => ?_) (AllReadyIn.cons rfl (fun K hK => ?_) (AllReadyIn.nil))
          · have tl := hcl
            go_simp
            refine hK _ _ ?_
            clear hK K
            (try simp only [Act.put, List.setIfInBounds_toArray, List.set_cons_zero, List.set_cons_succ])
            exact (hG _ _ _ _).1 hs111111110010000000
          · go_simp
            refine hK _ _ ?_
            clear hK K
            (try simp only [Act.put, List.setIfInBounds_toArray, List.set_cons_zero, List.set_cons_succ])
            exact (hG _ _ _ _).1 hs111111011010000000
        have hs111110011010000000 : G 10 #[true, true, true, true, true, false, false, true, true, false, true, false, false, false, false, false, false, false] { tmps := #[.agg #[.string nm, .slice (some ⟨q, off, none⟩) n c], .pointer (some ⟨w.heap.size, 0, none⟩), u2, .slice A1 q1 c1, .int .i64 0, .slice (some ad) n c2, .int .i64 0, .int .i64 (k : Int), .slice A8 q8 c8, .int .i64 0, .int .i64 R, .bool true, .tuple #[.slice A1 q1 c1, .int .i64 0], .agg #[.string nm, .slice (some ⟨q, off, none⟩) n c], .tuple #[.slice A1 q1 c1, .int .i64 0], .slice A1 q1 c1, .int .i64 0, .pointer (some ⟨w.heap.size, 1, none⟩), .slice (some ⟨q, off, none⟩) n c, .int .i64 (n : Int), .bool false, .bool false, .int .i64 0, .bool false, .bool false, undef, .tuple #[.slice (some ad) n c2, .int .i64 0], .agg #[.string nm, .slice (some ⟨q, off, none⟩) n c], .tuple #[.slice (some ad) n c2, .int .i64 0], .slice (some ad) n c2, .int .i64 0, .int .i64 0, .bool false, .bool false, .slice (some ad) n c2, .int .i64 (n : Int), .pointer (some ⟨w.heap.size, 1, none⟩), .slice (some ⟨q, off, none⟩) n c, .int .i64 (n : Int), .bool false, .bool false, .int .i64 (k : Int), .slice (some ad) n c2, .int .i64 (n : Int), .bool true, u45, u46, .tuple #[.slice A3 q3 c3, .int .i64 0], .agg #[.string nm, .slice (some ⟨q, off, none⟩) n c], .int .i64 (k : Int), .tuple #[.slice A3 q3 c3, .int .i64 0], .slice A3 q3 c3, .int .i64 0, .tuple #[.int .i64 R, .bool true], .pointer (some ⟨w.heap.size, 1, none⟩), .slice (some ⟨q, off, none⟩) n c, .int .i64 (k : Int), .pointer (some ⟨q, off + k * 8, none⟩), .agg #[.int .i64 op, .int .i64 ra, .int .i64 rb, .int .i64 rc, .int .i64 obj, .int .i64 m, .int .i64 fn, .int .i64 ord], .tuple #[.int .i64 R, .bool true], .int .i64 R, .bool true, .bool true, .slice A3 q3 c3, .int .i64 R, .slice A8 q8 c8, .int .i64 0, .bool false, .bool false, .slice (some ad) n c2, .int .i64 (k : Int), u71, u72, .slice A8 q8 c8, .pointer (some ⟨w.heap.size, 1, none⟩), u75, .int .i64 (k : Int), u77, u78, u79, u80, u81, u82, u83, undef], defers := [] } Z1 := by
          refine (hG _ _ _ _).2 ?_
          refine wpAnyIn_ready (rs := [5, 9]) (by kernel_rfl) (by simp) ?_
          refine AllReadyIn.cons rfl (fun K hK => ?_) (AllReadyIn.cons rfl (fun K hK => ?_) (AllReadyIn.nil))
          · go_simp
            refine hK _ _ ?_
            clear hK K
            (try simp only [Act.put, List.setIfInBounds_toArray, List.set_cons_zero, List.set_cons_succ])
            exact (hG _ _ _ _).1 hs111111011010000000
          · go_simp
            refine hK _ _ ?_
            clear hK K
            (try simp only [Act.put, List.setIfInBounds_toArray, List.set_cons_zero, List.set_cons_succ])
            exact (hG _ _ _ _).1 hs111110011110000000
        have hs111110010010000000 : G 11 #[true, true, true, true, true, false, false, true, false, false, true, false, false, false, false, false, false, false] { tmps := #[.agg #[.string nm, .slice (some ⟨q, off, none⟩) n c], .pointer (some ⟨w.heap.size, 0, none⟩), u2, .slice A1 q1 c1, .int .i64 0, .slice (some ad) n c2, .int .i64 0, .int .i64 (k : Int), .slice A8 q8 c8, .int .i64 0, .int .i64 R, .bool true, .tuple #[.slice A1 q1 c1, .int .i64 0], .agg #[.string nm, .slice (some ⟨q, off, none⟩) n c], .tuple #[.slice A1 q1 c1, .int .i64 0], .slice A1 q1 c1, .int .i64 0, .pointer (some ⟨w.heap.size, 1, none⟩), .slice (some ⟨q, off, none⟩) n c, .int .i64 (n : Int), .bool false, .bool false, .int .i64 0, .bool false, .bool false, undef, .tuple #[.slice (some ad) n c2, .int .i64 0], .agg #[.string nm, .slice (some ⟨q, off, none⟩) n c], .tuple #[.slice (some ad) n c2, .int .i64 0], .slice (some ad) n c2, .int .i64 0, .int .i64 0, .bool false, .bool false, .slice (some ad) n c2, .int .i64 (n : Int), .pointer (some ⟨w.heap.size, 1, none⟩), .slice (some ⟨q, off, none⟩) n c, .int .i64 (n : Int), .bool false, .bool false, .int .i64 (k : Int), .slice (some ad) n c2, .int .i64 (n : Int), .bool true, u45, u46, .tuple #[.slice A3 q3 c3, .int .i64 0], .agg #[.string nm, .slice (some ⟨q, off, none⟩) n c], .int .i64 (k : Int), .tuple #[.slice A3 q3 c3, .int .i64 0], .slice A3 q3 c3, .int .i64 0, .tuple #[.int .i64 R, .bool true], .pointer (some ⟨w.heap.size, 1, none⟩), .slice (some ⟨q, off, none⟩) n c, .int .i64 (k : Int), .pointer (some ⟨q, off + k * 8, none⟩), .agg #[.int .i64 op, .int .i64 ra, .int .i64 rb, .int .i64 rc, .int .i64 obj, .int .i64 m, .int .i64 fn, .int .i64 ord], .tuple #[.int .i64 R, .bool true], .int .i64 R, .bool true, .bool true, .slice A3 q3 c3, .int .i64 R, .slice A8 q8 c8, .int .i64 0, .bool false, .bool false, .slice (some ad) n c2, .int .i64 (k : Int), u71, u72, .slice A8 q8 c8, u74, u75, .int .i64 (k : Int), u77, u78, u79, u80, u81, u82, u83, undef], defers := [] } Z1 := by
          refine (hG _ _ _ _).2 ?_
          refine wpAnyIn_ready (rs := [5, 8]) (by kernel_rfl) (by simp) ?_
          refine AllReadyIn.cons rfl (fun K hK => ?_) (AllReadyIn.cons rfl (fun K hK => ?_) (AllReadyIn.nil))
          · go_simp
            refine hK _ _ ?_
            clear hK K
            (try simp only [Act.put, List.setIfInBounds_toArray, List.set_cons_zero, List.set_cons_succ])
            exact (hG _ _ _ _).1 hs111111010010000000
          · go_simp
            refine hK _ _ ?_
            clear hK K
            (try simp only [Act.put, List.setIfInBounds_toArray, List.set_cons_zero, List.set_cons_succ])
            exact (hG _ _ _ _).1 hs111110011010000000
        have hs111110010000000000 : G 12 #[true, true, true, true, true, false, false, true, false, false, false, false, false, false, false, false, false, false] { tmps := #[.agg #[.string nm, .slice (some ⟨q, off, none⟩) n c], .pointer (some ⟨w.heap.size, 0, none⟩), u2, .slice A1 q1 c1, .int .i64 0, .slice (some ad) n c2, .int .i64 0, .int .i64 (k : Int), .slice A8 q8 c8, .int .i64 0, .int .i64 R, .bool true, .tuple #[.slice A1 q1 c1, .int .i64 0], .agg #[.string nm, .slice (some ⟨q, off, none⟩) n c], .tuple #[.slice A1 q1 c1, .int .i64 0], .slice A1 q1 c1, .int .i64 0, .pointer (some ⟨w.heap.size, 1, none⟩), .slice (some ⟨q, off, none⟩) n c, .int .i64 (n : Int), .bool false, .bool false, .int .i64 0, .bool false, .bool false, undef, .tuple #[.slice (some ad) n c2, .int .i64 0], .agg #[.string nm, .slice (some ⟨q, off, none⟩) n c], .tuple #[.slice (some ad) n c2, .int .i64 0], .slice (some ad) n c2, .int .i64 0, .int .i64 0, .bool false, .bool false, .slice (some ad) n c2, .int .i64 (n : Int), .pointer (some ⟨w.heap.size, 1, none⟩), .slice (some ⟨q, off, none⟩) n c, .int .i64 (n : Int), .bool false, .bool false, .int .i64 (k : Int), .slice (some ad) n c2, .int .i64 (n : Int), .bool true, u45, u46, .tuple #[.slice A3 q3 c3, .int .i64 0], .agg #[.string nm, .slice (some ⟨q, off, none⟩) n c], .int .i64 (k : Int), .tuple #[.slice A3 q3 c3, .int .i64 0], .slice A3 q3 c3, .int .i64 0, .tuple #[.int .i64 R, .bool true], .pointer (some ⟨w.heap.size, 1, none⟩), .slice (some ⟨q, off, none⟩) n c, .int .i64 (k : Int), .pointer (some ⟨q, off + k * 8, none⟩), .agg #[.int .i64 op, .int .i64 ra, .int .i64 rb, .int .i64 rc, .int .i64 obj, .int .i64 m, .int .i64 fn, .int .i64 ord], .tuple #[.int .i64 R, .bool true], .int .i64 R, .bool true, .bool true, .slice A3 q3 c3, .int .i64 R, .slice A8 q8 c8, .int .i64 0, .bool false, .bool false, .slice (some ad) n c2, .int .i64 (k : Int), u71, u72, .slice A8 q8 c8, u74, u75, u76, u77, u78, u79, u80, u81, u82, u83, undef], defers := [] } Z1 := by
          refine (hG _ _ _ _).2 ?_
          refine wpAnyIn_take (i := 10) (v := .int .i64 (k : Int)) rfl rfl (by kernel_rfl) (by kernel_rfl) (by kernel_rfl) (fun _ _ _ h => h) (And.intro (Or.inl (And.intro (by kernel_rfl) (fun _ => by kernel_rfl))) (fun _ => by kernel_rfl)) ?_
          (try simp only [Act.put, List.setIfInBounds_toArray, List.set_cons_zero, List.set_cons_succ])
          exact (hG _ _ _ _).1 hs111110010010000000
        have hs111110000000000000 : G 13 #[true, true, true, true, true, false, false, false, false, false, false, false, false, false, false, false, false, false] { tmps := #[.agg #[.string nm, .slice (some ⟨q, off, none⟩) n c], .pointer (some ⟨w.heap.size, 0, none⟩), u2, .slice A1 q1 c1, .int .i64 0, .slice (some ad) n c2, .int .i64 0, .int .i64 (k : Int), .slice A8 q8 c8, .int .i64 0, .int .i64 R, .bool true, .tuple #[.slice A1 q1 c1, .int .i64 0], .agg #[.string nm, .slice (some ⟨q, off, none⟩) n c], .tuple #[.slice A1 q1 c1, .int .i64 0], .slice A1 q1 c1, .int .i64 0, .pointer (some ⟨w.heap.size, 1, none⟩), .slice (some ⟨q, off, none⟩) n c, .int .i64 (n : Int), .bool false, .bool false, .int .i64 0, .bool false, .bool false, undef, .tuple #[.slice (some ad) n c2, .int .i64 0], .agg #[.string nm, .slice (some ⟨q, off, none⟩) n c], .tuple #[.slice (some ad) n c2, .int .i64 0], .slice (some ad) n c2, .int .i64 0, .int .i64 0, .bool false, .bool false, .slice (some ad) n c2, .int .i64 (n : Int), .pointer (some ⟨w.heap.size, 1, none⟩), .slice (some ⟨q, off, none⟩) n c, .int .i64 (n : Int), .bool false, .bool false, .int .i64 (k : Int), .slice (some ad) n c2, .int .i64 (n : Int), .bool true, u45, u46, .tuple #[.slice A3 q3 c3, .int .i64 0], .agg #[.string nm, .slice (some ⟨q, off, none⟩) n c], .int .i64 (k : Int), .tuple #[.slice A3 q3 c3, .int .i64 0], .slice A3 q3 c3, .int .i64 0, .tuple #[.int .i64 R, .bool true], .pointer (some ⟨w.heap.size, 1, none⟩), .slice (some ⟨q, off, none⟩) n c, .int .i64 (k : Int), .pointer (some ⟨q, off + k * 8, none⟩), .agg #[.int .i64 op, .int .i64 ra, .int .i64 rb, .int .i64 rc, .int .i64 obj, .int .i64 m, .int .i64 fn, .int .i64 ord], .tuple #[.int .i64 R, .bool true], .int .i64 R, .bool true, .bool true, .slice A3 q3 c3, .int .i64 R, .slice A8 q8 c8, .int .i64 0, .bool false, .bool false, .slice (some ad) n c2, .int .i64 (k : Int), u71, u72, u73, u74, u75, u76, u77, u78, u79, u80, u81, u82, u83, undef], defers := [] } Z1 := by
          refine (hG _ _ _ _).2 ?_
          refine wpAnyIn_take (i := 7) (v := .slice A8 q8 c8) rfl rfl (by kernel_rfl) (by kernel_rfl) (by kernel_rfl) (fun _ _ _ h => h) (And.intro (Or.inl (And.intro (by kernel_rfl) (fun _ => by kernel_rfl))) (fun _ => by kernel_rfl)) ?_
          (try simp only [Act.put, List.setIfInBounds_toArray, List.set_cons_zero, List.set_cons_succ])
          exact (hG _ _ _ _).1 hs111110010000000000
        have hs111100000000000000 : G 14 #[true, true, true, true, false, false, false, false, false, false, false, false, false, false, false, false, false, false] { tmps := #[.agg #[.string nm, .slice (some ⟨q, off, none⟩) n c], .pointer (some ⟨w.heap.size, 0, none⟩), u2, .slice A1 q1 c1, .int .i64 0, .slice (some ad) n c2, .int .i64 0, .int .i64 (k : Int), .slice A8 q8 c8, .int .i64 0, .int .i64 R, .bool true, .tuple #[.slice A1 q1 c1, .int .i64 0], .agg #[.string nm, .slice (some ⟨q, off, none⟩) n c], .tuple #[.slice A1 q1 c1, .int .i64 0], .slice A1 q1 c1, .int .i64 0, .pointer (some ⟨w.heap.size, 1, none⟩), .slice (some ⟨q, off, none⟩) n c, .int .i64 (n : Int), .bool false, .bool false, .int .i64 0, .bool false, .bool false, undef, .tuple #[.slice (some ad) n c2, .int .i64 0], .agg #[.string nm, .slice (some ⟨q, off, none⟩) n c], .tuple #[.slice (some ad) n c2, .int .i64 0], .slice (some ad) n c2, .int .i64 0, .int .i64 0, .bool false, .bool false, .slice (some ad) n c2, .int .i64 (n : Int), .pointer (some ⟨w.heap.size, 1, none⟩), .slice (some ⟨q, off, none⟩) n c, .int .i64 (n : Int), .bool false, .bool false, .int .i64 (k : Int), .slice (some ad) n c2, .int .i64 (n : Int), .bool true, u45, u46, .tuple #[.slice A3 q3 c3, .int .i64 0], .agg #[.string nm, .slice (some ⟨q, off, none⟩) n c], .int .i64 (k : Int), .tuple #[.slice A3 q3 c3, .int .i64 0], .slice A3 q3 c3, .int .i64 0, .tuple #[.int .i64 R, .bool true], .pointer (some ⟨w.heap.size, 1, none⟩), .slice (some ⟨q, off, none⟩) n c, .int .i64 (k : Int), .pointer (some ⟨q, off + k * 8, none⟩), .agg #[.int .i64 op, .int .i64 ra, .int .i64 rb, .int .i64 rc, .int .i64 obj, .int .i64 m, .int .i64 fn, .int .i64 ord], .tuple #[.int .i64 R, .bool true], .int .i64 R, .bool true, .bool true, .slice A3 q3 c3, .int .i64 R, .slice A8 q8 c8, .int .i64 0, .bool false, .bool false, .slice (some ad) n c2, u70, u71, u72, u73, u74, u75, u76, u77, u78, u79, u80, u81, u82, u83, undef], defers := [] } Z1 := by
          refine (hG _ _ _ _).2 ?_
          refine wpAnyIn_take (i := 4) (v := .int .i64 (k : Int)) rfl rfl (by kernel_rfl) (by kernel_rfl) (by kernel_rfl) (fun _ _ _ h => h) (And.intro (Or.inl (And.intro (by kernel_rfl) (fun _ => by kernel_rfl))) (fun _ => by kernel_rfl)) ?_
          (try simp only [Act.put, List.setIfInBounds_toArray, List.set_cons_zero, List.set_cons_succ])
          exact (hG _ _ _ _).1 hs111110000000000000
        have hs111000000000000000 : G 15 #[true, true, true, false, false, false, false, false, false, false, false, false, false, false, false, false, false, false] { tmps := #[.agg #[.string nm, .slice (some ⟨q, off, none⟩) n c], .pointer (some ⟨w.heap.size, 0, none⟩), u2, .slice A1 q1 c1, .int .i64 0, .slice (some ad) n c2, .int .i64 0, .int .i64 (k : Int), .slice A8 q8 c8, .int .i64 0, .int .i64 R, .bool true, .tuple #[.slice A1 q1 c1, .int .i64 0], .agg #[.string nm, .slice (some ⟨q, off, none⟩) n c], .tuple #[.slice A1 q1 c1, .int .i64 0], .slice A1 q1 c1, .int .i64 0, .pointer (some ⟨w.heap.size, 1, none⟩), .slice (some ⟨q, off, none⟩) n c, .int .i64 (n : Int), .bool false, .bool false, .int .i64 0, .bool false, .bool false, undef, .tuple #[.slice (some ad) n c2, .int .i64 0], .agg #[.string nm, .slice (some ⟨q, off, none⟩) n c], .tuple #[.slice (some ad) n c2, .int .i64 0], .slice (some ad) n c2, .int .i64 0, .int .i64 0, .bool false, .bool false, .slice (some ad) n c2, .int .i64 (n : Int), .pointer (some ⟨w.heap.size, 1, none⟩), .slice (some ⟨q, off, none⟩) n c, .int .i64 (n : Int), .bool false, .bool false, .int .i64 (k : Int), .slice (some ad) n c2, .int .i64 (n : Int), .bool true, u45, u46, .tuple #[.slice A3 q3 c3, .int .i64 0], .agg #[.string nm, .slice (some ⟨q, off, none⟩) n c], .int .i64 (k : Int), .tuple #[.slice A3 q3 c3, .int .i64 0], .slice A3 q3 c3, .int .i64 0, .tuple #[.int .i64 R, .bool true], .pointer (some ⟨w.heap.size, 1, none⟩), .slice (some ⟨q, off, none⟩) n c, .int .i64 (k : Int), .pointer (some ⟨q, off + k * 8, none⟩), .agg #[.int .i64 op, .int .i64 ra, .int .i64 rb, .int .i64 rc, .int .i64 obj, .int .i64 m, .int .i64 fn, .int .i64 ord], .tuple #[.int .i64 R, .bool true], .int .i64 R, .bool true, .bool true, .slice A3 q3 c3, .int .i64 R, .slice A8 q8 c8, .int .i64 0, .bool false, .bool false, u69, u70, u71, u72, u73, u74, u75, u76, u77, u78, u79, u80, u81, u82, u83, undef], defers := [] } Z1 := by
          refine (hG _ _ _ _).2 ?_
          refine wpAnyIn_take (i := 3) (v := .slice (some ad) n c2) rfl rfl (by kernel_rfl) (by kernel_rfl) (by kernel_rfl) (fun _ _ _ h => h) (And.intro (Or.inl (And.intro (by kernel_rfl) (fun _ => by kernel_rfl))) (fun _ => by kernel_rfl)) ?_
          (try simp only [Act.put, List.setIfInBounds_toArray, List.set_cons_zero, List.set_cons_succ])
          exact (hG _ _ _ _).1 hs111100000000000000
        have hs110000000000000000 : G 16 #[true, true, false, false, false, false, false, false, false, false, false, false, false, false, false, false, false, false] { tmps := #[.agg #[.string nm, .slice (some ⟨q, off, none⟩) n c], .pointer (some ⟨w.heap.size, 0, none⟩), u2, .slice A1 q1 c1, .int .i64 0, .slice (some ad) n c2, .int .i64 0, .int .i64 (k : Int), .slice A8 q8 c8, .int .i64 0, .int .i64 R, .bool true, .tuple #[.slice A1 q1 c1, .int .i64 0], .agg #[.string nm, .slice (some ⟨q, off, none⟩) n c], .tuple #[.slice A1 q1 c1, .int .i64 0], .slice A1 q1 c1, .int .i64 0, .pointer (some ⟨w.heap.size, 1, none⟩), .slice (some ⟨q, off, none⟩) n c, .int .i64 (n : Int), .bool false, .bool false, .int .i64 0, .bool false, .bool false, undef, .tuple #[.slice (some ad) n c2, .int .i64 0], .agg #[.string nm, .slice (some ⟨q, off, none⟩) n c], .tuple #[.slice (some ad) n c2, .int .i64 0], .slice (some ad) n c2, .int .i64 0, .int .i64 0, .bool false, .bool false, .slice (some ad) n c2, .int .i64 (n : Int), .pointer (some ⟨w.heap.size, 1, none⟩), .slice (some ⟨q, off, none⟩) n c, .int .i64 (n : Int), .bool false, .bool false, .int .i64 (k : Int), .slice (some ad) n c2, .int .i64 (n : Int), .bool true, u45, u46, .tuple #[.slice A3 q3 c3, .int .i64 0], .agg #[.string nm, .slice (some ⟨q, off, none⟩) n c], .int .i64 (k : Int), .tuple #[.slice A3 q3 c3, .int .i64 0], .slice A3 q3 c3, .int .i64 0, .tuple #[.int .i64 R, .bool true], .pointer (some ⟨w.heap.size, 1, none⟩), .slice (some ⟨q, off, none⟩) n c, .int .i64 (k : Int), .pointer (some ⟨q, off + k * 8, none⟩), .agg #[.int .i64 op, .int .i64 ra, .int .i64 rb, .int .i64 rc, .int .i64 obj, .int .i64 m, .int .i64 fn, .int .i64 ord], .tuple #[.int .i64 R, .bool true], .int .i64 R, .bool true, .bool true, .slice A3 q3 c3, .int .i64 R, .slice A8 q8 c8, .int .i64 0, .bool false, u68, u69, u70, u71, u72, u73, u74, u75, u76, u77, u78, u79, u80, u81, u82, u83, undef], defers := [] } Z1 := by
          refine (hG _ _ _ _).2 ?_
          refine wpAnyIn_ready (rs := [2]) (by kernel_rfl) (by simp) ?_
          refine AllReadyIn.cons rfl (fun K hK => ?_) (AllReadyIn.nil)
          go_simp
          refine hK _ _ ?_
          clear hK K
          (try simp only [Act.put, List.setIfInBounds_toArray, List.set_cons_zero, List.set_cons_succ])
          exact (hG _ _ _ _).1 hs111000000000000000
        have hs100000000000000000 : G 17 #[true, false, false, false, false, false, false, false, false, false, false, false, false, false, false, false, false, false] { tmps := #[.agg #[.string nm, .slice (some ⟨q, off, none⟩) n c], .pointer (some ⟨w.heap.size, 0, none⟩), u2, .slice A1 q1 c1, .int .i64 0, .slice (some ad) n c2, .int .i64 0, .int .i64 (k : Int), .slice A8 q8 c8, .int .i64 0, .int .i64 R, .bool true, .tuple #[.slice A1 q1 c1, .int .i64 0], .agg #[.string nm, .slice (some ⟨q, off, none⟩) n c], .tuple #[.slice A1 q1 c1, .int .i64 0], .slice A1 q1 c1, .int .i64 0, .pointer (some ⟨w.heap.size, 1, none⟩), .slice (some ⟨q, off, none⟩) n c, .int .i64 (n : Int), .bool false, .bool false, .int .i64 0, .bool false, .bool false, undef, .tuple #[.slice (some ad) n c2, .int .i64 0], .agg #[.string nm, .slice (some ⟨q, off, none⟩) n c], .tuple #[.slice (some ad) n c2, .int .i64 0], .slice (some ad) n c2, .int .i64 0, .int .i64 0, .bool false, .bool false, .slice (some ad) n c2, .int .i64 (n : Int), .pointer (some ⟨w.heap.size, 1, none⟩), .slice (some ⟨q, off, none⟩) n c, .int .i64 (n : Int), .bool false, .bool false, .int .i64 (k : Int), .slice (some ad) n c2, .int .i64 (n : Int), .bool true, u45, u46, .tuple #[.slice A3 q3 c3, .int .i64 0], .agg #[.string nm, .slice (some ⟨q, off, none⟩) n c], .int .i64 (k : Int), .tuple #[.slice A3 q3 c3, .int .i64 0], .slice A3 q3 c3, .int .i64 0, .tuple #[.int .i64 R, .bool true], .pointer (some ⟨w.heap.size, 1, none⟩), .slice (some ⟨q, off, none⟩) n c, .int .i64 (k : Int), .pointer (some ⟨q, off + k * 8, none⟩), .agg #[.int .i64 op, .int .i64 ra, .int .i64 rb, .int .i64 rc, .int .i64 obj, .int .i64 m, .int .i64 fn, .int .i64 ord], .tuple #[.int .i64 R, .bool true], .int .i64 R, .bool true, .bool true, .slice A3 q3 c3, .int .i64 R, .slice A8 q8 c8, .int .i64 0, u67, u68, u69, u70, u71, u72, u73, u74, u75, u76, u77, u78, u79, u80, u81, u82, u83, undef], defers := [] } Z1 := by
          refine (hG _ _ _ _).2 ?_
          refine wpAnyIn_ready (rs := [1]) (by kernel_rfl) (by simp) ?_
          refine AllReadyIn.cons rfl (fun K hK => ?_) (AllReadyIn.nil)
          go_simp
          refine hK _ _ ?_
          clear hK K
          (try simp only [Act.put, List.setIfInBounds_toArray, List.set_cons_zero, List.set_cons_succ])
          exact (hG _ _ _ _).1 hs110000000000000000
        have hs000000000000000000 : G 18 #[false, false, false, false, false, false, false, false, false, false, false, false, false, false, false, false, false, false] { tmps := #[.agg #[.string nm, .slice (some ⟨q, off, none⟩) n c], .pointer (some ⟨w.heap.size, 0, none⟩), u2, .slice A1 q1 c1, .int .i64 0, .slice (some ad) n c2, .int .i64 0, .int .i64 (k : Int), .slice A8 q8 c8, .int .i64 0, .int .i64 R, .bool true, .tuple #[.slice A1 q1 c1, .int .i64 0], .agg #[.string nm, .slice (some ⟨q, off, none⟩) n c], .tuple #[.slice A1 q1 c1, .int .i64 0], .slice A1 q1 c1, .int .i64 0, .pointer (some ⟨w.heap.size, 1, none⟩), .slice (some ⟨q, off, none⟩) n c, .int .i64 (n : Int), .bool false, .bool false, .int .i64 0, .bool false, .bool false, undef, .tuple #[.slice (some ad) n c2, .int .i64 0], .agg #[.string nm, .slice (some ⟨q, off, none⟩) n c], .tuple #[.slice (some ad) n c2, .int .i64 0], .slice (some ad) n c2, .int .i64 0, .int .i64 0, .bool false, .bool false, .slice (some ad) n c2, .int .i64 (n : Int), .pointer (some ⟨w.heap.size, 1, none⟩), .slice (some ⟨q, off, none⟩) n c, .int .i64 (n : Int), .bool false, .bool false, .int .i64 (k : Int), .slice (some ad) n c2, .int .i64 (n : Int), .bool true, u45, u46, .tuple #[.slice A3 q3 c3, .int .i64 0], .agg #[.string nm, .slice (some ⟨q, off, none⟩) n c], .int .i64 (k : Int), .tuple #[.slice A3 q3 c3, .int .i64 0], .slice A3 q3 c3, .int .i64 0, .tuple #[.int .i64 R, .bool true], .pointer (some ⟨w.heap.size, 1, none⟩), .slice (some ⟨q, off, none⟩) n c, .int .i64 (k : Int), .pointer (some ⟨q, off + k * 8, none⟩), .agg #[.int .i64 op, .int .i64 ra, .int .i64 rb, .int .i64 rc, .int .i64 obj, .int .i64 m, .int .i64 fn, .int .i64 ord], .tuple #[.int .i64 R, .bool true], .int .i64 R, .bool true, .bool true, .slice A3 q3 c3, .int .i64 R, .slice A8 q8 c8, u66, u67, u68, u69, u70, u71, u72, u73, u74, u75, u76, u77, u78, u79, u80, u81, u82, u83, undef], defers := [] } Z1 := by
          refine (hG _ _ _ _).2 ?_
          refine wpAnyIn_ready (rs := [0]) (by kernel_rfl) (by simp) ?_
          refine AllReadyIn.cons rfl (fun K hK => ?_) (AllReadyIn.nil)
          go_simp
          refine hK _ _ ?_
          clear hK K
          (try simp only [Act.put, List.setIfInBounds_toArray, List.set_cons_zero, List.set_cons_succ])
          exact (hG _ _ _ _).1 hs100000000000000000
        exact hs000000000000000000
    · obtain rfl : k = n := by omega
      have HX2 := Lib.hid (HEX.out wr hbw)
      clear hbw
      gi_wp2_with fail
      refine ⟨trivial, (callsIn_wide.2 HX2.out).mono ?_⟩
      rintro e w9 ⟨rfl, b9⟩
      gi_wp2
      go_ret
      exact ⟨rfl, belowThen HBW.out (belowThen (belowThen HB2.out HB.out) b9)⟩
end Go.Proofs.YtjdimlofdblgdaaDoor
