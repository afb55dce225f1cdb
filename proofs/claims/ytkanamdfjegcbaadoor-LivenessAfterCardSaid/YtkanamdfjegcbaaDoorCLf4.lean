/-
  The contracts of Before and After.
-/
import Derived.Test.YtkanamdfjegcbaaDoorCLfL
import Derived.Test.YtkanamdfjegcbaaDoorCInT
namespace Go.Proofs.YtkanamdfjegcbaaDoor
open Go Go.RowKit Go.Shelf

theorem slNot9 {w : World} {g n : Nat} {vs : List Value} (h : w.ownsRow 0 34 1 (.slice (some ⟨g, 0, none⟩) n n) n vs) (hv : ∀ v ∈ vs, ∃ A m c, v = .slice A m c) {a : Addr} {u : Value} (hu : w.cell? a = some u) (hb : ∀ A m c, u ≠ .slice A m c) : a.block ≠ g := by
  intro e
  rcases h.2 with ⟨h2, _⟩ | ⟨k, cap, cur, hv', _, hg, hn, hm, hs, ht⟩
  · cases h2
  · injection hv' with e1 _ e3
    injection e1 with e1
    injection e1 with e1
    subst e1; subst e3
    unfold World.cell? at hu
    rw [e, hg] at hu
    simp only at hu
    split at hu
    · cases hu
    · have h1 : cur.toList[a.off]? = some u := by simpa using hu
      have h2 : a.off < cur.toList.length := (List.getElem?_eq_some_iff.1 h1).1
      rw [List.take_of_length_le (by rw [Array.length_toList]; omega)] at ht
      rw [ht] at h1
      obtain ⟨A, m, c, hh⟩ := hv u (List.mem_of_getElem? h1)
      exact hb A m c hh
/-- A row of lists that is filled place by place: those below k are there. -/
structure BeSt (L : List (List Int)) (n : Nat) (w0 : World) (k : Nat) (X : World) : Prop where
  row : ∃ vs, vs.length = n ∧ X.ownsRow 0 34 1 (.slice (some ⟨w0.heap.size, 0, none⟩) n n) n vs ∧ (∀ v ∈ vs, ∃ A m c, v = .slice A m c) ∧ ∀ j, j < k → ∀ (h : j < L.length), ∃ A c, vs[j]? = some (.slice A L[j].length c) ∧ Rd X A c L[j]
  bel : Below w0.heap.size w0 X
section
variable {L : List (List Int)} {n k : Nat} {w0 X Y : World}
theorem makeLl (N : Nat) (hN : N ≤ 1048576) (w : World) : (Instr.makeSlice 26 (.int .i64 N) (.int .i64 N)).run Tryd.prog w = .ok (.slice (some ⟨w.heap.size, 0, none⟩) N N) (w.alloc (.cells (madeCells #[.slice none 0 0] N) 34)) := by
  obtain ⟨i, hi, hz, hs, hb⟩ := info_parts infoSl
  have h := run_make (P := Tryd.prog) w 26 34 i (.slice none 0 0) Tryd.underlying26 hi hz .i64 .i64 N N (by omega) (by omega) (by rw [hb]; omega) (by omega)
  rw [hs] at h
  simpa [Value.cells] using h
theorem BeSt.made (w0 : World) (L : List (List Int)) (n : Nat) (hn : n ≤ 1000) : BeSt L n w0 0 (w0.alloc (.cells (madeCells #[.slice none 0 0] n) 34)) :=
  ⟨⟨List.replicate n (.slice none 0 0), by simp, ⟨by simp, .inr ⟨w0.heap.size, n, madeCells #[.slice none 0 0] n, rfl, Nat.zero_le _, heap_alloc_new w0 _, Nat.le_refl _, by unfold maxLen; omega, by rw [← Array.length_toList, toList_madeCells_one]; simp, by rw [toList_madeCells_one]; simp⟩⟩, fun v hv => ⟨none, 0, 0, (List.mem_replicate.1 hv).2⟩, fun _ h => absurd h (Nat.not_lt_zero _)⟩, belowAlloc w0 _⟩
theorem BeSt.below (h : BeSt L n w0 k X) (hb : Below X.heap.size X Y) : BeSt L n w0 k Y := by
  obtain ⟨⟨vs, h1, h2, h3, h4⟩, h5⟩ := h
  exact ⟨⟨vs, h1, ownChg h2 (Chg.ofBelow hb fun _ => True) fun _ _ => trivial, h3, fun j hj hl => by
    obtain ⟨A, c, e, hr⟩ := h4 j hj hl
    exact ⟨A, c, e, Rd.below hr hb⟩⟩, belowThen h5 hb⟩
theorem BeSt.cell (h : BeSt L n w0 k X) {j : Nat} (hj : j < n) : ∃ v, X.cell? ⟨w0.heap.size, j, none⟩ = some v ∧ X.frozen? ⟨w0.heap.size, j, none⟩ = false := by
  obtain ⟨⟨vs, h1, h2, h3, h4⟩, h5⟩ := h
  exact ⟨vs[j], (World.ownsRow.cellAt h2 j (by omega)).trans (List.getElem?_eq_getElem (by omega)), World.ownsRow.frozenAt h2 j⟩
theorem BeSt.put (h : BeSt L n w0 k X) (hk : k < n) {l : List Int} (hL : L[k]? = some l) {A : Option Addr} {c : Nat} (hr : Rd X A c l) : BeSt L n w0 (k + 1) (X.setCell ⟨w0.heap.size, k, none⟩ (.slice A l.length c)) := by
  obtain ⟨⟨vs, h1, h2, h3, h4⟩, h5⟩ := h
  have hc := chgSet X ⟨w0.heap.size, k, none⟩ (.slice A l.length c)
  have hrd : ∀ {A1 : Option Addr} {c1 : Nat} {l1 : List Int}, Rd X A1 c1 l1 → Rd (X.setCell ⟨w0.heap.size, k, none⟩ (.slice A l.length c)) A1 c1 l1 := fun {A1 c1 l1} hr => by
    refine Rd.chg hr hc fun ad e hl => ?_
    obtain ⟨ad', e', _, hcell⟩ := hr.one hl
    rw [e] at e'
    injection e' with e'
    subst e'
    have := slNot9 h2 h3 hcell (fun _ _ _ e => by cases e)
    rw [addBlock] at this
    exact this
  refine ⟨⟨vs.set k (.slice A l.length c), by rw [List.length_set]; exact h1, (World.ownsRow.stored h2 k (.slice A l.length c)).1, fun v hv => ?_, fun j hj hl => ?_⟩, ⟨hc.os.trans h5.os, hc.tape.trans h5.tape, hc.output.trans h5.output, Nat.le_trans h5.size hc.size, fun q hq => (hc.block q (Nat.lt_of_lt_of_le hq h5.size) (show q ≠ w0.heap.size by omega)).trans (h5.block q hq)⟩⟩
  · rcases List.mem_or_eq_of_mem_set hv with hv | rfl
    · exact h3 v hv
    · exact ⟨_, _, _, rfl⟩
  · by_cases e : j = k
    · subst e
      have e2 : L[j] = l := by rw [List.getElem?_eq_getElem hl] at hL; exact Option.some.inj hL
      exact ⟨A, c, by rw [List.getElem?_set_self (by omega), e2], by rw [e2]; exact hrd hr⟩
    · obtain ⟨A1, c1, e1, hr1⟩ := h4 j (by omega) hl
      exact ⟨A1, c1, by rw [List.getElem?_set_ne (fun h => e h.symm)]; exact e1, hrd hr1⟩
theorem BeSt.rdL (h : BeSt L n w0 n X) (hn : L.length = n) (hn2 : n ≤ 1000) : RdL X (some ⟨w0.heap.size, 0, none⟩) n L := by
  obtain ⟨⟨vs, h1, h2, h3, h4⟩, h5⟩ := h
  refine ⟨vs, ⟨by omega, by unfold maxLen; omega, fun h0 => ⟨⟨w0.heap.size, 0, none⟩, rfl, (World.ownsRow.lt h2 _ rfl).2, fun j u hj => ?_⟩⟩, by omega, fun i hi => h4 i (by omega) hi⟩
  have hj2 := (List.getElem?_eq_some_iff.1 hj).1
  rw [Addr.add_lit, Nat.zero_add]
  exact (World.ownsRow.cellAt h2 j (by omega)).trans hj
end
/-- The rows that Before gives. -/
noncomputable def beL (C : List I8) : List (List Int) := (List.range C.length).map fun k => rgL (lvB C false k)
noncomputable def beR (C : List I8) : List (List Int) := if cfE C = 0 then beL C else []
def GivesQL (ls : List (List Int)) (k : Int) (w : World) (e : Ending) (w' : World) : Prop := ∃ A c, e = .returned (.tuple #[.slice A ls.length c, .int .i64 k]) ∧ RdL w' A c ls ∧ Below w.heap.size w w'
theorem rdLNil (w : World) : RdL w none 0 [] := ⟨[], Rds.nil, rfl, fun _ h => absurd h (by simp)⟩
theorem iSortedN (v : Value) (S : Int → Bool) (hS : Regs S) (w : World) (h : SetV w v S) (l : List Int) (hl : rgL S = l) : Calls Tryd.prog 40 #[v] w (GivesL l w) := hl ▸ iSortedR v S hS w h
set_option maxRecDepth 100000 in
set_option maxHeartbeats 4000000 in
theorem iBeforeL (nm : ByteArray) (C : List I8) (n : Nat) (hn : C.length = n) (A : Option Addr) (c : Nat) (w : World) (h : CdW w A c C) :
    Calls Tryd.prog 12 #[fnV nm A n c] w (GivesQL (beR C) (cfE C) w) := by
  obtain ⟨W, hWE⟩ : ∃ W, w.alloc (.cells #[.string nm, .slice A n c] 24) = W := ⟨_, rfl⟩
  have hbW : Below w.heap.size w W := by rw [← hWE]; exact belowAlloc w _
  have hBF : Blk W w.heap.size 24 #[.string nm, .slice A n c] := by rw [← hWE]; exact Blk.new w _ _
  have k0 : W.cell? ⟨w.heap.size, 0, none⟩ = some (.string nm) := hBF.cell 0
  have k1 : W.cell? ⟨w.heap.size, 1, none⟩ = some (.slice A n c) := hBF.cell 1
  have HCO := Lib.hid (iCodeL nm C n hn A c W (h.below hbW))
  have HLD := Lib.hid (fun X (hX : Below W.heap.size W X) => ((h.below hbW).below hX).ld)
  have HWF := Lib.hid h.wf
  have hle := h.rd.le
  have hmx := h.rd.max
  rw [hn] at hle
  unfold maxLen at hmx
  have HW := Lib.hid hWE
  have HBW := Lib.hid hbW
  have HN := Lib.hid hn
  clear hbW hBF hWE h hn
  unfold fnV at HCO ⊢
  by_cases hc : cfE C = 0
  rotate_left
  · have e1 : beR C = [] := by unfold beR; rw [if_neg hc]
    have hne : (cfE C != 0) = true := by simpa using hc
    rw [e1]
    clear hc e1
    go_enter Tryd.func12, Tryd.ntmps12
    go_wp2_with fail
    rw [HW.out]
    refine HCO.out.mono ?_
    rintro e w1 ⟨A1, n1, c1, rfl, _, b1⟩
    go_wp2
    go_ret2
    exact ⟨none, 0, rfl, rdLNil _, belowThen HBW.out b1⟩
  have e1 : beR C = beL C := by unfold beR; rw [if_pos hc]
  have hok := cfOk hc
  have h64 := hok.len
  have HLE := Lib.hid (fun k y (hy : y ∈ sc C k) => (scLe hok hy).2)
  have HRG : Hid (∀ k, Regs (lvB C false k)) := Lib.hid fun k r hr => lvRg hok hr
  have HBL := Lib.hid (show (beL C).length = n by unfold beL; rw [List.length_map, List.length_range]; exact HN.out)
  have HBA : Hid (∀ k, k < n → (beL C)[k]? = some (rgL (lvB C false k))) := Lib.hid fun k hk => by
    unfold beL
    rw [List.getElem?_map, List.getElem?_range (by rw [HN.out]; exact hk)]
    rfl
  have HOK := Lib.hid hok
  have HHC := Lib.hid hc
  rw [HN.out] at h64
  rw [e1, hc]
  obtain ⟨bL, hbL⟩ : ∃ bL, beL C = bL := ⟨_, rfl⟩
  rw [hbL] at HBL HBA ⊢
  have hmm := @run_makeMap Tryd.prog
  have hmk := makeLl n (by omega)
  clear hc e1 hok hbL
  go_enter Tryd.func12, Tryd.ntmps12
  go_wp2_with fail
  rw [HW.out]
  refine HCO.out.mono ?_
  rintro e w1 ⟨A1, n1, c1, rfl, hst, b1⟩
  rw [HHC.out]
  obtain ⟨e1, hst⟩ := hst HHC.out
  rw [HN.out] at e1
  subst e1
  unfold StR at hst
  rw [HN.out] at hst
  have HB1 := Lib.hid b1
  have HLB := Lib.hid (iLiveB C HOK.out n1 HN.out HWF.out false (.map (some w1.heap.size)) A1 c1 (w1.alloc (.map #[] 0)) (hst.below stabStep (belowAlloc w1 _)) ((HLD.out w1 b1).below (belowAlloc w1 _)) (.inr ⟨_, 0, rfl, by omega, (SetM.made w1).congr fun x => by simp⟩))
  have hcl := hst.le
  have hcm := hst.max
  rw [stLLen] at hcl
  unfold maxLen at hcm
  clear hst b1
  go_wp2_with fail
  refine HLB.out.mono ?_
  rintro e w3 ⟨Ab, cb, rfl, hrt, b3⟩
  have hbl := hrt.le
  have hbm := hrt.max
  rw [tLLen] at hbl
  unfold maxLen at hbm
  have HRT := Lib.hid (fun X (hX : Below w3.heap.size w3 X) => hrt.below stabSet hX)
  have HB3 := Lib.hid (belowThen (belowThen HB1.out (belowAlloc w1 _)) b3)
  clear hrt b3
  have HS0 := Lib.hid (BeSt.made w3 bL n1 (by omega))
  go_wp2_with fail
  clear hmm hmk
  go_loopw [25] (fun v X => ∃ k : Nat, k ≤ n1 ∧ v = .int .i64 k ∧ Hid (BeSt bL n1 w3 k X)) (fun v _ => n1 - (intOf v).toNat)
  case atStart => exact ⟨0, Nat.zero_le _, rfl, HS0⟩
  case round =>
    clear HS0
    obtain ⟨k, hk, rfl, HS⟩ := hrel
    by_cases hkn : k < n1
    · obtain ⟨qb, ob, hAb, _, v, hcv, hsv⟩ := (HRT.out wr HS.out.bel).one (j := k) (by rw [tLLen]; omega)
      rw [tLAt] at hsv
      rw [Nat.mul_one] at hcv
      subst hAb
      obtain ⟨l, hl⟩ : ∃ l, rgL (lvB C false k) = l := ⟨_, rfl⟩
      have HC := Lib.hid (iSortedN v _ (HRG.out k) wr hsv l hl)
      have HLA := Lib.hid (hl ▸ HBA.out k hkn)
      have hk0 : (0 : Int) ≤ k := by omega
      have hk1 : (k : Int) < n1 := by omega
      have hk2 : (k : Int) < ((n1 + 1 : Nat) : Int) := by omega
      clear hsv hl
      go_wp2_with fail
      refine HC.out.mono ?_
      rintro e w5 ⟨A5, c5, rfl, r5, b5⟩
      obtain ⟨v5, hc5, hf5⟩ := (HS.out.below b5).cell hkn
      have HF := Lib.hid ((HS.out.below b5).put hkn HLA.out r5)
      clear r5 b5
      go_wp2_with fail
      go_roundw
      case rel => exact ⟨k + 1, by omega, by go_num, HF⟩
      case measure => simp [intOf]; omega
    · obtain rfl : k = n1 := by omega
      have HR := Lib.hid (HS.out.rdL HBL.out (by omega))
      have HBF := Lib.hid HS.out.bel
      go_wp2
      go_ret2
      exact ⟨_, _, by rw [HBL.out]; rfl, HR.out, belowThen HBW.out (belowThen HB3.out HBF.out)⟩
end Go.Proofs.YtkanamdfjegcbaaDoor

namespace Go.Proofs.YtkanamdfjegcbaaDoor
open Go Go.RowKit Go.Shelf

/-- What is live behind a place. -/
noncomputable def anyB (C : List I8) (ex : Bool) (k : Nat) (r : Int) : Bool := (sc C k).any fun y => lvB C ex y r
noncomputable def afR (C : List I8) (x : Int) : List Int := if nxE C x = 0 then rgL (anyB C false x.toNat) else []
set_option maxRecDepth 100000 in
set_option maxHeartbeats 4000000 in
theorem iAfterC (nm : ByteArray) (C : List I8) (n : Nat) (hn : C.length = n) (x : Int) (A : Option Addr) (c : Nat) (w : World) (h : CdW w A c C) :
    Calls Tryd.prog 17 #[fnV nm A n c, .int .i64 x] w (GivesE9 (afR C x) (nxE C x) w) := by
  obtain ⟨W, hWE⟩ : ∃ W, w.alloc (.cells #[.string nm, .slice A n c] 24) = W := ⟨_, rfl⟩
  have hbW : Below w.heap.size w W := by rw [← hWE]; exact belowAlloc w _
  have hBF : Blk W w.heap.size 24 #[.string nm, .slice A n c] := by rw [← hWE]; exact Blk.new w _ _
  have k0 : W.cell? ⟨w.heap.size, 0, none⟩ = some (.string nm) := hBF.cell 0
  have k1 : W.cell? ⟨w.heap.size, 1, none⟩ = some (.slice A n c) := hBF.cell 1
  have HCO := Lib.hid (iCodeL nm C n hn A c W (h.below hbW))
  have HLD := Lib.hid (fun X (hX : Below W.heap.size W X) => ((h.below hbW).below hX).ld)
  have HWF := Lib.hid h.wf
  have hle := h.rd.le
  have hmx := h.rd.max
  rw [hn] at hle
  unfold maxLen at hmx
  have HW := Lib.hid hWE
  have HBW := Lib.hid hbW
  have HN := Lib.hid hn
  clear hbW hBF hWE h
  unfold fnV at HCO ⊢
  by_cases hc : cfE C = 0
  rotate_left
  · have e1 : nxE C x = cfE C := by unfold nxE; rw [if_pos hc]
    have e2 : afR C x = [] := by unfold afR; rw [if_neg (by rw [e1]; exact hc)]
    have hne : (cfE C != 0) = true := by simpa using hc
    rw [e1, e2]
    clear hc e1 e2 hn
    go_enter Tryd.func17, Tryd.ntmps17
    go_wp2_with fail
    rw [HW.out]
    refine HCO.out.mono ?_
    rintro e w1 ⟨A1, n1, c1, rfl, _, b1⟩
    go_wp2
    go_ret2
    exact ⟨none, 0, rfl, Rd.nil, belowThen HBW.out b1⟩
  have hok := cfOk hc
  have h64 := hok.len
  rw [hn] at h64
  have HOK := Lib.hid hok
  have HHC := Lib.hid hc
  by_cases hx : x < 0 ∨ (n : Int) ≤ x
  · have e1 : nxE C x = 2 := by unfold nxE; rw [if_neg (by rw [hc]; simp), if_pos (by rw [hn]; exact hx)]
    have e2 : afR C x = [] := by unfold afR; rw [if_neg (by rw [e1]; decide)]
    rw [e1, e2]
    clear hc hok e1 e2 hn
    go_enter Tryd.func17, Tryd.ntmps17
    go_wp2_with fail
    rw [HW.out]
    refine HCO.out.mono ?_
    rintro e w1 ⟨A1, n1, c1, rfl, hst, b1⟩
    rw [HHC.out]
    obtain ⟨e1, _⟩ := hst HHC.out
    rw [HN.out] at e1
    subst e1
    clear hst
    go_wp2
    all_goals first
      | (exfalso; omega)
      | (go_ret2; exact ⟨none, 0, rfl, Rd.nil, belowThen HBW.out b1⟩)
  · have e1 : nxE C x = 0 := by unfold nxE; rw [if_neg (by rw [hc]; simp), if_neg (by rw [hn]; exact hx)]
    have e2 : afR C x = rgL (anyB C false x.toNat) := by unfold afR; rw [if_pos e1]
    rw [e1, e2]
    obtain ⟨k, rfl⟩ : ∃ k : Nat, x = k := ⟨x.toNat, by omega⟩
    have hk : k < n := by omega
    have hk0 : (0 : Int) ≤ k := by omega
    have hk1 : (k : Int) < n := by omega
    have e3 : (k : Int).toNat = k := rfl
    rw [e3]
    have HLE := Lib.hid (fun y (hy : y ∈ sc C k) => (show y ≤ n by have := (scLe hok hy).2; omega))
    have HRG : Hid (∀ k, Regs (lvB C false k)) := Lib.hid fun k r hr => lvRg hok hr
    have HRA : Hid (Regs (anyB C false k)) := Lib.hid fun r hr => by
      unfold anyB at hr
      obtain ⟨y, _, hy⟩ := List.any_eq_true.1 hr
      exact lvRg hok hy
    obtain ⟨l, hl⟩ : ∃ l, rgL (anyB C false k) = l := ⟨_, rfl⟩
    have HL := Lib.hid hl
    rw [hl]
    have hmm := @run_makeMap Tryd.prog
    clear hc hok e1 e2 e3 hx hl hn
    go_enter Tryd.func17, Tryd.ntmps17
    go_wp2_with fail
    rw [HW.out]
    refine HCO.out.mono ?_
    rintro e w1 ⟨A1, n1, c1, rfl, hst, b1⟩
    rw [HHC.out]
    obtain ⟨e1, hst⟩ := hst HHC.out
    rw [HN.out] at e1
    subst e1
    unfold StR at hst
    rw [HN.out] at hst
    have HB1 := Lib.hid b1
    have HLB := Lib.hid (iLiveB C HOK.out n1 HN.out HWF.out false (.map (some w1.heap.size)) A1 c1 (w1.alloc (.map #[] 0)) (hst.below stabStep (belowAlloc w1 _)) ((HLD.out w1 b1).below (belowAlloc w1 _)) (.inr ⟨_, 0, rfl, by omega, (SetM.made w1).congr fun x => by simp⟩))
    have hcl := hst.le
    have hcm := hst.max
    rw [stLLen] at hcl
    unfold maxLen at hcm
    have HST := Lib.hid hst
    clear hst b1
    go_wp2_with fail
    all_goals first
      | (exfalso; omega)
      | skip
    refine HLB.out.mono ?_
    rintro e w3 ⟨Ab, cb, rfl, hrt, b3⟩
    have HAF := Lib.hid (iAfterL C n1 k hk HLE.out (lvB C false) (fun j _ => HRG.out j) A1 c1 Ab cb w3 ((HST.out.below stabStep (belowAlloc w1 _)).below stabStep b3) hrt)
    have HB3 := Lib.hid (belowThen (belowThen HB1.out (belowAlloc w1 _)) b3)
    clear hrt b3
    go_wp2_with fail
    refine HAF.out.mono ?_
    rintro e w4 ⟨b, rfl, hm4, b4, _⟩
    have HSO := Lib.hid (iSortedN (.map (some b)) _ HRA.out w4 (.inr ⟨b, 100, rfl, by omega, hm4⟩) l HL.out)
    have HB4 := Lib.hid (belowThen HB3.out b4)
    clear hm4 b4
    go_wp2_with fail
    refine HSO.out.mono ?_
    rintro e w5 ⟨A5, c5, rfl, r5, b5⟩
    go_wp2
    go_ret2
    exact ⟨A5, c5, rfl, r5, belowThen HBW.out (belowThen HB4.out b5)⟩
/-- The greatest number of registers live at once. -/
def mxL (ls : List (List Int)) : Nat → Nat
  | 0 => 0
  | k + 1 => max (mxL ls k) ((ls.getD k []).length)
noncomputable def prR (C : List I8) : Int := ((mxL (beR C) (beR C).length : Nat) : Int)
theorem mxLe {ls : List (List Int)} (h : ∀ l ∈ ls, l.length ≤ 1000) : ∀ k, mxL ls k ≤ 1000
  | 0 => Nat.zero_le _
  | k + 1 => by
    unfold mxL
    have := mxLe h k
    refine Nat.max_le.2 ⟨this, ?_⟩
    by_cases hk : k < ls.length
    · rw [List.getD, List.getElem?_eq_getElem hk]
      exact h _ (List.getElem_mem hk)
    · rw [List.getD, List.getElem?_eq_none (by omega)]
      exact Nat.zero_le _
theorem beLen {C : List I8} : ∀ l ∈ beR C, l.length ≤ 1000 := fun l hl => by
  unfold beR at hl
  split at hl
  · unfold beL at hl
    obtain ⟨k, _, rfl⟩ := List.mem_map.1 hl
    have := rgLLen (T := lvB C false k)
    omega
  · cases hl
theorem beRLen {C : List I8} : (beR C).length ≤ 64 := by
  unfold beR
  split
  · rename_i h
    have := (cfOk h).len
    unfold beL
    simpa using this
  · simp
set_option maxRecDepth 100000 in
set_option maxHeartbeats 4000000 in
theorem iPressure (nm : ByteArray) (C : List I8) (n : Nat) (hn : C.length = n) (A : Option Addr) (c : Nat) (w : World) (h : CdW w A c C) :
    Calls Tryd.prog 14 #[fnV nm A n c] w fun e w' => e = .returned (.tuple #[.int .i64 (prR C), .int .i64 (cfE C)]) ∧ Below w.heap.size w w' := by
  obtain ⟨W, hWE⟩ : ∃ W, w.alloc (.cells #[.string nm, .slice A n c] 24) = W := ⟨_, rfl⟩
  have hbW : Below w.heap.size w W := by rw [← hWE]; exact belowAlloc w _
  have hBF : Blk W w.heap.size 24 #[.string nm, .slice A n c] := by rw [← hWE]; exact Blk.new w _ _
  have k0 : W.cell? ⟨w.heap.size, 0, none⟩ = some (.string nm) := hBF.cell 0
  have k1 : W.cell? ⟨w.heap.size, 1, none⟩ = some (.slice A n c) := hBF.cell 1
  have HCO := Lib.hid (iBeforeL nm C n hn A c W (h.below hbW))
  have HW := Lib.hid hWE
  have HBW := Lib.hid hbW
  have hlen := beRLen (C := C)
  have HM := Lib.hid (mxLe (beLen (C := C)))
  unfold prR
  obtain ⟨ls, hls⟩ : ∃ ls, beR C = ls := ⟨_, rfl⟩
  rw [hls] at HCO hlen HM ⊢
  obtain ⟨q, hq⟩ : ∃ q, ls.length = q := ⟨_, rfl⟩
  have HQ := Lib.hid hq
  rw [hq] at hlen ⊢
  generalize cfE C = E at HCO ⊢
  clear hbW hBF hWE h hn hls hq
  unfold fnV at HCO ⊢
  go_enter Tryd.func14, Tryd.ntmps14
  go_wp2_with fail
  rw [HW.out]
  refine HCO.out.mono ?_
  rintro e w1 ⟨A1, c1, rfl, hr1, b1⟩
  rw [HQ.out]
  obtain ⟨vs, hrs, hvl, hvr⟩ := hr1
  have HRS := Lib.hid (fun X (hX : Below w1.heap.size w1 X) => Rds.below hrs hX)
  have hcl := hrs.le
  have hcm := hrs.max
  rw [hvl, HQ.out] at hcl
  unfold maxLen at hcm
  have HVR := Lib.hid hvr
  have HVL := Lib.hid hvl
  have HB1 := Lib.hid b1
  clear hrs hvr hvl b1
  go_wp2_with fail
  go_loopw [6, 16] (fun m v X => ∃ k : Nat, k ≤ q ∧ v = .int .i64 k ∧ m = .int .i64 ((mxL ls k : Nat) : Int) ∧ Hid (Below w1.heap.size w1 X)) (fun _ v _ => q - (intOf v).toNat)
  case atStart => exact ⟨0, Nat.zero_le _, rfl, rfl, Lib.hid (Below.refl _ _)⟩
  case round =>
    obtain ⟨k, hk, rfl, rfl, HB⟩ := hrel
    by_cases hkq : k < q
    · have hkl : k < ls.length := by rw [HQ.out]; exact hkq
      obtain ⟨A5, c5, hv5, hr5⟩ := HVR.out k hkl
      obtain ⟨ad, hA, _, hcells⟩ := (HRS.out wr HB.out).at_ (by rw [HVL.out]; omega)
      have hc5 := hcells k _ hv5
      subst hA
      have HSU : Hid (mxL ls (k + 1) = max (mxL ls k) ls[k].length) := Lib.hid (by
        show max (mxL ls k) ((ls.getD k []).length) = _
        rw [List.getD, List.getElem?_eq_getElem hkl]; rfl)
      have hm1 := HM.out k
      obtain ⟨a, ha⟩ : ∃ a, mxL ls k = a := ⟨_, rfl⟩
      obtain ⟨b, hb⟩ : ∃ b, ls[k].length = b := ⟨_, rfl⟩
      rw [ha, hb] at HSU
      rw [ha] at hm1 ⊢
      rw [hb] at hc5
      have hmax : max (a : Int) (b : Int) = ((max a b : Nat) : Int) := by omega
      have hk0 : (0 : Int) ≤ k := by omega
      have hk1 : (k : Int) < q := by omega
      clear hcells hv5 hr5 ha hb
      go_wp2_with fail
      go_roundw
      case rel => exact ⟨k + 1, by omega, by go_num, by rw [HSU.out], HB⟩
      case measure => simp [intOf]; omega
    · obtain rfl : k = q := by omega
      go_wp2
      go_ret2
      exact ⟨rfl, belowThen HBW.out (belowThen HB1.out HB.out)⟩
end Go.Proofs.YtkanamdfjegcbaaDoor

namespace Go.Proofs.YtkanamdfjegcbaaDoor
open Go Go.RowKit Go.Shelf

theorem iVisM (o : Int) (r : Bool) (h : visL o = r) (w : World) : Calls Tryd.prog 46 #[.int .i64 o] w fun e w' => e = .returned (.bool r) ∧ w = w' := by subst h; exact iVisL o w
theorem rVisM (o : Int) (r : Bool) (h : visL o = r) (w : World) : Calls Tryd.prog 48 #[.int .i64 o] w fun e w' => e = .returned (.bool r) ∧ w = w' := by subst h; exact rVisL o w
/-- Instruction k is local, and its result is not live. -/
noncomputable def deB (C : List I8) (k : Nat) : Bool := (C.getD k I8.zero).dfB && !visL (C.getD k I8.zero).op && !anyB C true k (C.getD k I8.zero).dfR
noncomputable def deL (C : List I8) (k : Nat) : List Int := ((List.range k).filter (deB C)).map Int.ofNat
noncomputable def deR (C : List I8) : List Int := if cfE C = 0 then deL C C.length else []
theorem deNo {C : List I8} {k : Nat} (h : deB C k = false) : deL C (k + 1) = deL C k := by
  unfold deL
  rw [List.range_succ, List.filter_append, List.filter_cons, List.filter_nil, h]
  simp
theorem deYes {C : List I8} {k : Nat} (h : deB C k = true) : deL C (k + 1) = deL C k ++ [(k : Int)] := by
  unfold deL
  rw [List.range_succ, List.filter_append, List.filter_cons, List.filter_nil, h]
  simp
theorem deLen {C : List I8} {k : Nat} : (deL C k).length ≤ k := by
  unfold deL
  rw [List.length_map]
  exact Nat.le_trans (List.length_filter_le _ _) (by simp)
set_option maxRecDepth 100000 in
set_option maxHeartbeats 8000000 in
theorem iDead (nm : ByteArray) (C : List I8) (n : Nat) (hn : C.length = n) (A : Option Addr) (c : Nat) (w : World) (h : CdW w A c C) :
    Calls Tryd.prog 19 #[fnV nm A n c] w (GivesE9 (deR C) (cfE C) w) := by
  obtain ⟨W, hWE⟩ : ∃ W, w.alloc (.cells #[.string nm, .slice A n c] 24) = W := ⟨_, rfl⟩
  have hbW : Below w.heap.size w W := by rw [← hWE]; exact belowAlloc w _
  have hBF : Blk W w.heap.size 24 #[.string nm, .slice A n c] := by rw [← hWE]; exact Blk.new w _ _
  have k0 : W.cell? ⟨w.heap.size, 0, none⟩ = some (.string nm) := hBF.cell 0
  have k1 : W.cell? ⟨w.heap.size, 1, none⟩ = some (.slice A n c) := hBF.cell 1
  have HCO := Lib.hid (iCodeL nm C n hn A c W (h.below hbW))
  have HLD := Lib.hid (fun X (hX : Below W.heap.size W X) => ((h.below hbW).below hX).ld)
  have HWF := Lib.hid h.wf
  have hle := h.rd.le
  have hmx := h.rd.max
  rw [hn] at hle
  unfold maxLen at hmx
  have HW := Lib.hid hWE
  have HBW := Lib.hid hbW
  have HN := Lib.hid hn
  clear hbW hBF hWE h hn
  unfold fnV at HCO ⊢
  by_cases hc : cfE C = 0
  rotate_left
  · have e2 : deR C = [] := by unfold deR; rw [if_neg hc]
    have hne : (cfE C != 0) = true := by simpa using hc
    rw [e2]
    clear hc e2
    go_enter Tryd.func19, Tryd.ntmps19
    go_wp2_with fail
    rw [HW.out]
    refine HCO.out.mono ?_
    rintro e w1 ⟨A1, n1, c1, rfl, _, b1⟩
    go_wp2
    go_ret2
    exact ⟨none, 0, rfl, Rd.nil, belowThen HBW.out b1⟩
  have e2 : deR C = deL C n := by unfold deR; rw [if_pos hc, HN.out]
  have hok := cfOk hc
  have h64 := hok.len
  rw [HN.out] at h64
  have HOK := Lib.hid hok
  have HHC := Lib.hid hc
  have HLE := Lib.hid (fun k y (hy : y ∈ sc C k) => (show y ≤ n by have := (scLe hok hy).2; have := HN.out; omega))
  have HRG : Hid (∀ k, Regs (lvB C true k)) := Lib.hid fun k r hr => lvRg hok hr
  have HDF : Hid (∀ k (hk : k < C.length), (C.getD k I8.zero).dfB = true → rgB (C.getD k I8.zero).dfR = true) := Lib.hid fun k hk h => by rw [getDAt hk] at h ⊢; exact dfRg hok hk h
  rw [e2, hc]
  have hmm := @run_makeMap Tryd.prog
  clear hc hok e2
  go_enter Tryd.func19, Tryd.ntmps19
  go_wp2_with fail
  rw [HW.out]
  refine HCO.out.mono ?_
  rintro e w1 ⟨A1, n1, c1, rfl, hst, b1⟩
  rw [HHC.out]
  obtain ⟨e1, hst⟩ := hst HHC.out
  rw [HN.out] at e1
  subst e1
  unfold StR at hst
  rw [HN.out] at hst
  have HB1 := Lib.hid b1
  have hcl := hst.le
  have hcm := hst.max
  rw [stLLen] at hcl
  unfold maxLen at hcm
  have HST := Lib.hid (fun X (hX : Below w1.heap.size w1 X) => hst.below stabStep hX)
  have HM0 : Hid (SetM (w1.alloc (.map #[] 0)) w1.heap.size 0 (fun r => decide (0 ≤ r ∧ r < ((0 : Nat) : Int)))) := Lib.hid ((SetM.made w1).congr fun x => by simp)
  have HB0 := Lib.hid (belowAlloc w1 (.map #[] 0))
  clear hst b1
  go_wp2_with fail
  clear hmm
  go_loopw [23] (fun v X => ∃ j : Nat, j ≤ 8 ∧ v = .int .i64 j ∧ Hid (SetM X w1.heap.size j (fun r => decide (0 ≤ r ∧ r < (j : Int)))) ∧ Hid (Below w1.heap.size w1 X)) (fun v _ => 8 - (intOf v).toNat)
  case atStart => exact ⟨0, Nat.zero_le _, rfl, HM0, HB0⟩
  case round =>
    clear HM0 HB0
    obtain ⟨j, hj, rfl, HM, HB⟩ := hrel
    by_cases hj8 : j < 8
    · obtain ⟨Z, hst, hm2, hg2⟩ := HM.out.store (by omega) (r := (j : Int)) (by unfold rgB; exact decide_eq_true ⟨by omega, by omega⟩)
      have HM2 := Lib.hid ((hm2.congr (S' := fun r => decide (0 ≤ r ∧ r < ((j + 1 : Nat) : Int))) fun r => by
        rw [Bool.eq_iff_iff]; simp only [Bool.or_eq_true, decide_eq_true_iff]; omega))
      have HB2 := Lib.hid (HB.out.grown hg2.grown HB.out.size fun q hq => by injection hq with hq; omega)
      have hj0 : (j : Int) < 8 := by omega
      clear hm2 hg2
      go_wp2_with fail
      go_roundw
      case rel => exact ⟨j + 1, by omega, by go_num, HM2, HB2⟩
      case measure => simp [intOf]; omega
    · obtain rfl : j = 8 := by omega
      have HSV : Hid (SetV wr (.map (some w1.heap.size)) (fun r => true && rgB r)) := Lib.hid (.inr ⟨_, 8, rfl, by omega, HM.out.congr fun r => by unfold rgB; simp⟩)
      have HLB := Lib.hid (iLiveB C HOK.out n1 HN.out HWF.out true (.map (some w1.heap.size)) A1 c1 wr (HST.out wr HB.out) (HLD.out wr (belowThen HB1.out HB.out)) HSV.out)
      go_wp2_with fail
      refine HLB.out.mono ?_
      rintro e w3 ⟨Ab, cb, rfl, hrt, b3⟩
      have HB3 := Lib.hid (belowThen HB.out b3)
      have HRT := Lib.hid (fun X (hX : Below w3.heap.size w3 X) => hrt.below stabSet hX)
      clear hrt b3 HSV HLB HM
      have HO0 : Hid (OwnI w3 w3.heap.size (.slice none 0 0) (deL C 0)) := Lib.hid (OwnI.nil _ _)
      go_wp2_with fail
      go_loopw [9, 34] (fun v i X => ∃ k : Nat, k ≤ n1 ∧ i = .int .i64 k ∧ Hid (OwnI X w3.heap.size v (deL C k)) ∧ Hid (Below w3.heap.size w3 X)) (fun _ i _ => n1 - (intOf i).toNat)
      case atStart => exact ⟨0, Nat.zero_le _, rfl, HO0, Lib.hid (Below.refl _ _)⟩
      case round =>
        clear HO0
        obtain ⟨k, hk, rfl, HO, HBk⟩ := hrel
        by_cases hkn : k < n1
        · have hkC : k < C.length := by rw [HN.out]; exact hkn
          have hbk := belowThen HB3.out HBk.out
          obtain ⟨q, off, hA, _, ⟨i0, i1, i2, i3, i4, i5, i6, i7⟩, A8, c8, i8, _⟩ := (HST.out wr hbk).one (j := k) (by rw [stLLen]; exact hkn)
          subst hA
          rw [stLAt] at i0 i1 i2 i3 i4 i5 i6 i7 i8
          have hwfi : (C.getD k I8.zero).Wf := by rw [getDAt hkC]; exact HWF.out C[k] (List.getElem_mem hkC)
          have hdf := HDF.out k hkC
          obtain ⟨d, hd⟩ : ∃ d, deB C k = d := ⟨_, rfl⟩
          have HD := Lib.hid hd
          unfold deB at hd
          obtain ⟨ii, hii⟩ : ∃ ii, C.getD k I8.zero = ii := ⟨_, rfl⟩
          simp only at i0 i1 i2 i3 i4 i5 i6 i7 i8
          rw [hii] at i0 i1 i2 i3 i4 i5 i6 i7 hwfi hdf hd
          clear hii
          obtain ⟨op, ra, rb, rc, obj, m, fn, ord⟩ := ii
          simp only at i0 i1 i2 i3 i4 i5 i6 i7 hd
          obtain ⟨R, hR⟩ : ∃ R, (I8.mk8 op ra rb rc obj m fn ord).dfR = R := ⟨_, rfl⟩
          obtain ⟨p, hp⟩ : ∃ p, (I8.mk8 op ra rb rc obj m fn ord).dfB = p := ⟨_, rfl⟩
          obtain ⟨vi, hvi⟩ : ∃ vi, visL op = vi := ⟨_, rfl⟩
          rw [hR, hp, hvi] at hd
          rw [hR, hp] at hdf
          obtain ⟨mm, hmm⟩ : ∃ mm, (scS C k).length = mm := ⟨_, rfl⟩
          rw [hmm] at i8
          obtain ⟨wb, hwb⟩ : ∃ x, wr.alloc (.cells #[.int .i64 op, .int .i64 ra, .int .i64 rb, .int .i64 rc, .int .i64 obj, .int .i64 m, .int .i64 fn, .int .i64 ord, .slice A8 mm c8] 86) = x := ⟨_, rfl⟩
          have hbb : Below wr.heap.size wr wb := by rw [← hwb]; exact belowAlloc wr _
          have hbx : Blk wb wr.heap.size 86 #[.int .i64 op, .int .i64 ra, .int .i64 rb, .int .i64 rc, .int .i64 obj, .int .i64 m, .int .i64 fn, .int .i64 ord, .slice A8 mm c8] := by rw [← hwb]; exact Blk.new wr _ _
          have HJ : Hid (∀ Z, Below wb.heap.size wb Z → Z.cell? ⟨wr.heap.size, 0, none⟩ = some (.int .i64 op) ∧ Z.cell? ⟨wr.heap.size, 1, none⟩ = some (.int .i64 ra) ∧ Z.cell? ⟨wr.heap.size, 2, none⟩ = some (.int .i64 rb) ∧ Z.cell? ⟨wr.heap.size, 3, none⟩ = some (.int .i64 rc) ∧ Z.cell? ⟨wr.heap.size, 4, none⟩ = some (.int .i64 obj) ∧ Z.cell? ⟨wr.heap.size, 5, none⟩ = some (.int .i64 m) ∧ Z.cell? ⟨wr.heap.size, 6, none⟩ = some (.int .i64 fn) ∧ Z.cell? ⟨wr.heap.size, 7, none⟩ = some (.int .i64 ord)) := Lib.hid fun Z hZ => by
            have h := hbx.below' hZ
            exact ⟨h.cell 0, h.cell 1, h.cell 2, h.cell 3, h.cell 4, h.cell 5, h.cell 6, h.cell 7⟩
          have HBB := Lib.hid hbb
          have HWB := Lib.hid hwb
          have HDE := Lib.hid (iDefs (I8.mk8 op ra rb rc obj m fn ord) R p hR hp hwfi wb (HLD.out wb (belowThen HB1.out (belowThen hbk hbb))).ins (HLD.out wb (belowThen HB1.out (belowThen hbk hbb))).nm)
          have HVI := Lib.hid (fun X => iVisM op vi hvi X)
          obtain ⟨j0, j1, j2, j3, j4, j5, j6, j7⟩ := HJ.out wb (Below.refl _ _)
          have hk0 : (0 : Int) ≤ k := by omega
          have hk1 : (k : Int) < n1 := by omega
          clear hwb hbb hbx hbk hwfi hR hp hvi hmm
          go_wp2_with fail
          rw [HWB.out]
          go_wp2_with fail
          refine HDE.out.mono ?_
          rintro e w4 ⟨rfl, b4⟩
          obtain ⟨j0, j1, j2, j3, j4, j5, j6, j7⟩ := HJ.out w4 b4
          have HB4 := Lib.hid (belowThen HBB.out b4)
          have HNO : Hid (d = false → ∀ X, Below wr.heap.size wr X → OwnI X w3.heap.size u9 (deL C (k + 1))) := Lib.hid fun e X hX => by
            rw [deNo (HD.out.trans e)]
            exact HO.out.below hX
          have HBX := Lib.hid (fun X (hX : Below wr.heap.size wr X) => belowThen HBk.out hX)
          cases p with
          | false =>
            have HF := Lib.hid (HNO.out (by rw [← hd]; rfl) w4 HB4.out)
            have HG := Lib.hid (HBX.out w4 HB4.out)
            clear hd HNO HDE
            go_wp2
            go_roundw
            case rel => exact ⟨k + 1, by omega, by go_num, HF, HG⟩
            case measure => simp [intOf]; omega
          | true =>
            go_wp2_with fail
            refine (HVI.out _).mono ?_
            rintro e w5 ⟨rfl, rfl⟩
            cases vi with
            | true =>
              have HF := Lib.hid (HNO.out (by rw [← hd]; rfl) w4 HB4.out)
              have HG := Lib.hid (HBX.out w4 HB4.out)
              clear hd HNO HDE
              go_wp2
              go_roundw
              case rel => exact ⟨k + 1, by omega, by go_num, HF, HG⟩
              case measure => simp [intOf]; omega
            | false =>
              have hb4 := HBX.out w4 HB4.out
              have HAF := Lib.hid (iAfterL C n1 k hkn (HLE.out k) (lvB C true) (fun j _ => HRG.out j) (some ⟨q, off, none⟩) c1 Ab cb w4 (HST.out w4 (belowThen HB3.out hb4)) (HRT.out w4 hb4))
              have hbl := (HRT.out w4 hb4).le
              have hbm := (HRT.out w4 hb4).max
              rw [tLLen] at hbl
              unfold maxLen at hbm
              clear hb4
              go_wp2_with fail
              refine HAF.out.mono ?_
              rintro e w6 ⟨b, rfl, hm6, b6, _⟩
              have hlook := hm6.look (show rgB R = true by first | exact hdf rfl | exact hdf trivial)
              obtain ⟨lv, hlv⟩ : ∃ lv, anyB C true k R = lv := ⟨_, rfl⟩
              rw [show ((sc C k).any fun y => lvB C true y R) = lv from hlv] at hlook
              rw [hlv] at hd
              have HB6 := Lib.hid (belowThen HB4.out b6)
              clear hm6 b6 hlv HAF
              cases lv with
              | true =>
                have HF := Lib.hid (HNO.out (by rw [← hd]; rfl) w6 HB6.out)
                have HG := Lib.hid (HBX.out w6 HB6.out)
                clear hd HNO HDE
                go_wp2
                go_roundw
                case rel => exact ⟨k + 1, by omega, by go_num, HF, HG⟩
                case measure => simp [intOf]; omega
              | false =>
                have hdY := deYes (HD.out.trans (show d = true by rw [← hd]; rfl))
                have HDY := Lib.hid hdY
                have HO6 := Lib.hid (HO.out.below HB6.out)
                have HG := Lib.hid (HBX.out w6 HB6.out)
                have HSZ := Lib.hid HG.out.size
                have hdl := deLen (C := C) (k := k)
                clear hd HNO HDE hdY
                go_wp2_with (first
                  | (at_builtin; refine appI _ rfl (.tmp 62) (.tmp 64) rfl w3.heap.size _ _ rfl (HO6.out.alloc _) (some ⟨w6.heap.size, 0, none⟩) 1 1 [(k : Int)] rfl rfl (Rd.lit w6 [(k : Int)] 3 (by simp)) (by simp; omega) (by have := HSZ.out; simp; omega) ?_; intro v1 w7 o1 _ d1; rw [← HDY.out] at o1; have HF := Lib.hid o1; have HH := Lib.hid (((HG.out.alloc HSZ.out (.cells #[.int .i64 (k : Int)] 3))).trans d1); clear o1 d1)
                  | fail)
                go_roundw
                case rel => exact ⟨k + 1, by omega, by go_num, HF, HH⟩
                case measure => simp [intOf]; omega
        · obtain rfl : k = n1 := by omega
          obtain ⟨A9, c9, rfl, hr9, _⟩ := HO.out.rd
          have HR9 := Lib.hid hr9
          have HBZ := Lib.hid (belowThen HB3.out HBk.out)
          obtain ⟨q9, hq9⟩ : ∃ q9, (deL C k).length = q9 := ⟨_, rfl⟩
          rw [hq9]
          have HQ9 := Lib.hid hq9
          clear hr9 hq9
          go_wp2
          go_ret2
          exact ⟨A9, c9, by rw [HQ9.out]; rfl, HR9.out, belowThen HBW.out (belowThen HB1.out HBZ.out)⟩
end Go.Proofs.YtkanamdfjegcbaaDoor

namespace Go.Proofs.YtkanamdfjegcbaaDoor
open Go Go.RowKit

def exL : List I8 := [⟨1, 0, 0, 0, 0, 1, 0, 0⟩, ⟨2, 1, 0, 0, 0, 0, 0, 0⟩, ⟨1, 0, 0, 0, 0, 2, 0, 0⟩]
def exM : List I8 := [⟨1, 0, 0, 0, 0, 1, 0, 0⟩, ⟨1, 0, 0, 0, 0, 2, 0, 0⟩]
theorem exLE : cfE exL = 0 := by kernel_rfl
theorem exME : cfE exM = 0 := by kernel_rfl
def Lv (ex : Bool) (S : Int → Bool) (C : List I8) (k : Nat) : Prop := ∀ r, lvB C ex k r = S r
theorem lvNext {C : List I8} {ex : Bool} {k : Nat} {S S' : Int → Bool} (hk : k < C.length) (hs : sc C k = [k + 1]) (h : Lv ex S C (k + 1)) (hS : ∀ r, (rdB C k r || (!wrB C k r && S r)) = S' r) : Lv ex S' C k := fun r => by
  rw [lvFix hk]
  unfold lfF
  rw [hs, List.any_cons, List.any_nil, Bool.or_false, h r]
  exact hS r
theorem exR0 (r : Int) : rdB exL 0 r = false := by
  have h : (⟨1, 0, 0, 0, 0, 1, 0, 0⟩ : I8).uses = [] := by kernel_rfl
  rw [rdAt (by decide)]
  show decide (r ∈ (⟨1, 0, 0, 0, 0, 1, 0, 0⟩ : I8).uses) = false
  rw [h]; rfl
theorem exR1 (r : Int) : rdB exL 1 r = decide (r = 0) := by
  have h : (⟨2, 1, 0, 0, 0, 0, 0, 0⟩ : I8).uses = [0] := by kernel_rfl
  rw [rdAt (by decide)]
  show decide (r ∈ (⟨2, 1, 0, 0, 0, 0, 0, 0⟩ : I8).uses) = _
  rw [h]; simp
theorem exR2 (r : Int) : rdB exL 2 r = false := by
  have h : (⟨1, 0, 0, 0, 0, 2, 0, 0⟩ : I8).uses = [] := by kernel_rfl
  rw [rdAt (by decide)]
  show decide (r ∈ (⟨1, 0, 0, 0, 0, 2, 0, 0⟩ : I8).uses) = false
  rw [h]; rfl
theorem exW0 (r : Int) : wrB exL 0 r = decide (r = 0) := by
  have h : (⟨1, 0, 0, 0, 0, 1, 0, 0⟩ : I8).dfB = true := by kernel_rfl
  have h2 : (⟨1, 0, 0, 0, 0, 1, 0, 0⟩ : I8).dfR = 0 := by kernel_rfl
  rw [wrAt (by decide)]
  show ((⟨1, 0, 0, 0, 0, 1, 0, 0⟩ : I8).dfB && decide ((⟨1, 0, 0, 0, 0, 1, 0, 0⟩ : I8).dfR = r)) = _
  rw [h, h2, Bool.true_and]
  exact decide_eq_decide.2 eq_comm
theorem exW1 (r : Int) : wrB exL 1 r = decide (r = 1) := by
  have h : (⟨2, 1, 0, 0, 0, 0, 0, 0⟩ : I8).dfB = true := by kernel_rfl
  have h2 : (⟨2, 1, 0, 0, 0, 0, 0, 0⟩ : I8).dfR = 1 := by kernel_rfl
  rw [wrAt (by decide)]
  show ((⟨2, 1, 0, 0, 0, 0, 0, 0⟩ : I8).dfB && decide ((⟨2, 1, 0, 0, 0, 0, 0, 0⟩ : I8).dfR = r)) = _
  rw [h, h2, Bool.true_and]
  exact decide_eq_decide.2 eq_comm
theorem exW2 (r : Int) : wrB exL 2 r = decide (r = 0) := by
  have h : (⟨1, 0, 0, 0, 0, 2, 0, 0⟩ : I8).dfB = true := by kernel_rfl
  have h2 : (⟨1, 0, 0, 0, 0, 2, 0, 0⟩ : I8).dfR = 0 := by kernel_rfl
  rw [wrAt (by decide)]
  show ((⟨1, 0, 0, 0, 0, 2, 0, 0⟩ : I8).dfB && decide ((⟨1, 0, 0, 0, 0, 2, 0, 0⟩ : I8).dfR = r)) = _
  rw [h, h2, Bool.true_and]
  exact decide_eq_decide.2 eq_comm
theorem exN1 (r : Int) : rdB exM 1 r = false := exR2 r
theorem exV1 (r : Int) : wrB exM 1 r = decide (r = 0) := exW2 r
theorem exF3 : Lv false (fun _ => false) exL 3 := fun r => by
  have := lvOut (C := exL) (ex := false) (r := r)
  exact this.trans (Bool.false_and _)
theorem exF2 : Lv false (fun _ => false) exL 2 := lvNext (by decide) (by kernel_rfl) exF3 fun r => by rw [exR2, Bool.and_false]; rfl
theorem exF1 : Lv false (fun r => decide (r = 0)) exL 1 := lvNext (by decide) (by kernel_rfl) exF2 fun r => by rw [exR1, Bool.and_false, Bool.or_false]
theorem exF0 : Lv false (fun _ => false) exL 0 := lvNext (by decide) (by kernel_rfl) exF1 fun r => by rw [exR0, exW0]; cases decide (r = 0) <;> rfl
theorem exT3 : Lv true rgB exL 3 := fun r => by
  have := lvOut (C := exL) (ex := true) (r := r)
  exact this.trans (Bool.true_and _)
theorem exT2 : Lv true (fun r => !decide (r = 0) && rgB r) exL 2 := lvNext (by decide) (by kernel_rfl) exT3 fun r => by rw [exR2, exW2, Bool.false_or]
theorem exT1 : Lv true (fun r => decide (r = 0) || (!decide (r = 1) && (!decide (r = 0) && rgB r))) exL 1 := lvNext (by decide) (by kernel_rfl) exT2 fun r => by rw [exR1, exW1]
theorem exU2 : Lv true rgB exM 2 := fun r => by
  have := lvOut (C := exM) (ex := true) (r := r)
  exact this.trans (Bool.true_and _)
theorem exU1 : Lv true (fun r => !decide (r = 0) && rgB r) exM 1 := lvNext (by decide) (by kernel_rfl) exU2 fun r => by rw [exN1, exV1, Bool.false_or]
theorem rgLEq {S : Int → Bool} {C : List I8} {ex : Bool} {k : Nat} (h : Lv ex S C k) : rgL (lvB C ex k) = rgL S := by
  have : lvB C ex k = S := funext h
  rw [this]
theorem exBe : beR exL = [[], [0], []] := by
  unfold beR beL
  rw [if_pos exLE]
  show [rgL (lvB exL false 0), rgL (lvB exL false 1), rgL (lvB exL false 2)] = _
  rw [rgLEq exF0, rgLEq exF1, rgLEq exF2]
  decide
theorem exPr : prR exL = 1 := by
  unfold prR
  rw [exBe]
  decide
theorem exAf : nxE exL 3 = 2 := by kernel_rfl
theorem exAfR : afR exL 3 = [] := by
  unfold afR
  rw [exAf]
  rfl
theorem anyAt {C : List I8} {ex : Bool} {k : Nat} {S : Int → Bool} (hs : sc C k = [k + 1]) (h : Lv ex S C (k + 1)) (r : Int) : anyB C ex k r = S r := by
  unfold anyB
  rw [hs, List.any_cons, List.any_nil, Bool.or_false, h r]
theorem exDe : deR exL = [] := by
  unfold deR
  rw [if_pos exLE]
  have h0 : deB exL 0 = false := by
    unfold deB
    have e : (exL.getD 0 I8.zero).dfR = 0 := by kernel_rfl
    rw [e, anyAt (by kernel_rfl) exT1]
    simp
  have h1 : deB exL 1 = false := by
    unfold deB
    have e : (exL.getD 1 I8.zero).dfR = 1 := by kernel_rfl
    rw [e, anyAt (by kernel_rfl) exT2]
    simp [rgB]
  have h2 : deB exL 2 = false := by
    unfold deB
    have e : (exL.getD 2 I8.zero).dfR = 0 := by kernel_rfl
    rw [e, anyAt (by kernel_rfl) exT3]
    simp [rgB]
  show deL exL 3 = []
  rw [deNo h2, deNo h1, deNo h0]
  rfl
theorem exDeM : deR exM = [0] := by
  unfold deR
  rw [if_pos exME]
  have h0 : deB exM 0 = true := by
    unfold deB
    have e : (exM.getD 0 I8.zero).dfR = 0 := by kernel_rfl
    have e2 : (exM.getD 0 I8.zero).dfB = true := by kernel_rfl
    have e3 : visL (exM.getD 0 I8.zero).op = false := by kernel_rfl
    rw [e, e2, e3, anyAt (by kernel_rfl) exU1]
    rfl
  have h1 : deB exM 1 = false := by
    unfold deB
    have e : (exM.getD 1 I8.zero).dfR = 0 := by kernel_rfl
    rw [e, anyAt (by kernel_rfl) exU2]
    simp [rgB]
  show deL exM 2 = [0]
  rw [deNo h1, deYes h0]
  rfl
end Go.Proofs.YtkanamdfjegcbaaDoor

namespace Go.Proofs.YtkanamdfjegcbaaDoor
open Go Go.RowKit Go.Shelf

noncomputable def rhL (C : List I8) (n k : Nat) : List Int := ((List.range k).filter (rcB n (sc C) (-1))).map Int.ofNat
theorem rhNo {C : List I8} {n k : Nat} (h : rcB n (sc C) (-1) k = false) : rhL C n (k + 1) = rhL C n k := by
  unfold rhL
  rw [List.range_succ, List.filter_append, List.filter_cons, List.filter_nil, h]
  simp
theorem rhYes {C : List I8} {n k : Nat} (h : rcB n (sc C) (-1) k = true) : rhL C n (k + 1) = rhL C n k ++ [(k : Int)] := by
  unfold rhL
  rw [List.range_succ, List.filter_append, List.filter_cons, List.filter_nil, h]
  simp
theorem rhLen {C : List I8} {n k : Nat} : (rhL C n k).length ≤ k := by
  unfold rhL
  rw [List.length_map]
  exact Nat.le_trans (List.length_filter_le _ _) (by simp)
noncomputable def rhR (C : List I8) : List Int := if cfE C = 0 then rhL C C.length C.length else []
set_option maxRecDepth 100000 in
set_option maxHeartbeats 4000000 in
theorem rReach (nm : ByteArray) (C : List I8) (n : Nat) (hn : C.length = n) (A : Option Addr) (c : Nat) (w : World) (h : CdW w A c C) :
    Calls Tryd.prog 22 #[fnV nm A n c] w (GivesE9 (rhR C) (cfE C) w) := by
  obtain ⟨W, hWE⟩ : ∃ W, w.alloc (.cells #[.string nm, .slice A n c] 24) = W := ⟨_, rfl⟩
  have hbW : Below w.heap.size w W := by rw [← hWE]; exact belowAlloc w _
  have hBF : Blk W w.heap.size 24 #[.string nm, .slice A n c] := by rw [← hWE]; exact Blk.new w _ _
  have k0 : W.cell? ⟨w.heap.size, 0, none⟩ = some (.string nm) := hBF.cell 0
  have k1 : W.cell? ⟨w.heap.size, 1, none⟩ = some (.slice A n c) := hBF.cell 1
  have HK := Lib.hid (fun X (hX : Below W.heap.size W X) => (⟨(hBF.below' hX).cell 0, (hBF.below' hX).cell 1⟩ : X.cell? ⟨w.heap.size, 0, none⟩ = some (.string nm) ∧ X.cell? ⟨w.heap.size, 1, none⟩ = some (.slice A n c)))
  have HCK := Lib.hid (rCk12 nm C n hn A c W (h.below hbW))
  have HCW := Lib.hid (fun X (hX : Below W.heap.size W X) => ((h.below hbW).below hX).rd)
  have HW := Lib.hid hWE
  have HBW := Lib.hid hbW
  have HN := Lib.hid hn
  clear hbW hBF hWE h
  unfold fnV at HCK ⊢
  by_cases hc : cfE C = 0
  rotate_left
  · have e2 : rhR C = [] := by unfold rhR; rw [if_neg hc]
    have hne : (cfE C != 0) = true := by simpa using hc
    rw [e2]
    generalize cfE C = E at HCK hne ⊢
    clear hc e2 hn
    go_enter Tryd.func22, Tryd.ntmps22
    go_wp2_with fail
    rw [HW.out]
    refine HCK.out.mono ?_
    rintro e w1 ⟨rfl, b1⟩
    go_wp2
    go_ret2
    exact ⟨none, 0, rfl, Rd.nil, belowThen HBW.out b1⟩
  have e2 : rhR C = rhL C n n := by unfold rhR; rw [if_pos hc, hn]
  have hok := cfOk hc
  have h64 := hok.len
  rw [hn] at h64
  have HWO := Lib.hid (fun X (hX : Below W.heap.size W X) => rWithout nm C hok n hn (-1) A c X (HCW.out X hX))
  unfold fnV at HWO
  rw [e2, hc]
  rw [hc] at HCK
  clear hc hok e2 hn
  go_enter Tryd.func22, Tryd.ntmps22
  go_wp2_with fail
  rw [HW.out]
  refine HCK.out.mono ?_
  rintro e w1 ⟨rfl, b1⟩
  have HB1 := Lib.hid b1
  obtain ⟨m0, m1⟩ := HK.out w1 b1
  clear b1 k0 k1
  go_wp2_with fail
  refine (HWO.out w1 HB1.out).mono ?_
  rintro e w2 ⟨gb, n1, E, rfl, hrow, hn1, hn2, hE, hgb, b2⟩
  have HROW := Lib.hid hrow
  have HE := Lib.hid hE
  have HB2 := Lib.hid (belowThen HB1.out b2)
  have HO0 : Hid (OwnI w2 w2.heap.size (.slice none 0 0) (rhL C n 0)) := Lib.hid (OwnI.nil _ _)
  clear hrow hE b2 m0 m1
  go_wp2_with fail
  go_loopw [5, 7] (fun v i X => ∃ k : Nat, k ≤ n ∧ i = .int .i64 k ∧ Hid (OwnI X w2.heap.size v (rhL C n k)) ∧ Hid (Below w2.heap.size w2 X)) (fun _ i _ => n - (intOf i).toNat)
  case atStart => exact ⟨0, Nat.zero_le _, rfl, HO0, Lib.hid (Below.refl _ _)⟩
  case round =>
    clear HO0
    obtain ⟨k, hk, rfl, HO, HB⟩ := hrel
    by_cases hkn : k < n
    · have hce := (HROW.out.chg (Chg.ofBelow HB.out fun _ => True) trivial).cell (i := k) (by omega)
      rw [HE.out k hkn] at hce
      obtain ⟨d, hd⟩ : ∃ d, rcB n (sc C) (-1) k = d := ⟨_, rfl⟩
      rw [hd] at hce
      have hk0 : (0 : Int) ≤ k := by omega
      have hk1 : (k : Int) < n := by omega
      cases d with
      | false =>
        have HF : Hid (OwnI wr w2.heap.size u5 (rhL C n (k + 1))) := Lib.hid (by rw [rhNo hd]; exact HO.out)
        clear hd
        go_wp2
        go_roundw
        case rel => exact ⟨k + 1, by omega, by go_num, HF, HB⟩
        case measure => simp [intOf]; omega
      | true =>
        have HDY := Lib.hid (rhYes hd)
        have hdl := rhLen (C := C) (n := n) (k := k)
        have HSZ := Lib.hid HB.out.size
        clear hd
        go_wp2_with (first
          | (at_builtin; refine appI _ rfl (.tmp 25) (.tmp 27) rfl w2.heap.size _ _ rfl (HO.out.alloc _) (some ⟨wr.heap.size, 0, none⟩) 1 1 [(k : Int)] rfl rfl (Rd.lit wr [(k : Int)] 3 (by simp)) (by simp; omega) (by have := HSZ.out; simp; omega) ?_; intro v1 w7 o1 _ d1; rw [← HDY.out] at o1; have HF := Lib.hid o1; have HH := Lib.hid (((HB.out.alloc HSZ.out (.cells #[.int .i64 (k : Int)] 3))).trans d1); clear o1 d1)
          | fail)
        go_roundw
        case rel => exact ⟨k + 1, by omega, by go_num, HF, HH⟩
        case measure => simp [intOf]; omega
    · obtain rfl : k = n := by omega
      obtain ⟨A9, c9, rfl, hr9, _⟩ := HO.out.rd
      have HR9 := Lib.hid hr9
      obtain ⟨q9, hq9⟩ : ∃ q9, (rhL C k k).length = q9 := ⟨_, rfl⟩
      rw [hq9]
      have HQ9 := Lib.hid hq9
      clear hr9 hq9
      go_wp2
      go_ret2
      exact ⟨A9, c9, by rw [HQ9.out]; rfl, HR9.out, belowThen HBW.out (belowThen HB2.out HB.out)⟩
end Go.Proofs.YtkanamdfjegcbaaDoor
