/-
  The contract of codeOf: the steps of a code, or its first fault.
-/
import Derived.Test.YtkanamdfjegcbaaDoorCLf1
import Derived.Test.YtkanamdfjegcbaaDoorCCfFf
import Derived.Lib.AppendZeros
namespace Go.Proofs.YtkanamdfjegcbaaDoor
open Go Go.RowKit Go.Shelf

theorem nxAtL {C : List I8} (hc : cfE C = 0) {n k : Nat} (hn : C.length = n) (hk : k < n) : nxE C k = 0 ∧ nxR C k = scS C k := by
  have e : nxE C k = 0 := by unfold nxE; rw [if_neg (by rw [hc]; simp), if_neg (by omega)]
  refine ⟨e, ?_⟩
  unfold nxR
  rw [if_pos e]; rfl
theorem nxBad {C : List I8} (hc : cfE C ≠ 0) (x : Int) : nxE C x = cfE C ∧ nxR C x = [] := by
  have e : nxE C x = cfE C := by unfold nxE; rw [if_pos hc]
  exact ⟨e, by unfold nxR; rw [if_neg (by rw [e]; exact hc)]⟩
theorem cfEnil {C : List I8} (hc : cfE C ≠ 0) : 0 < C.length := by
  refine Nat.pos_of_ne_zero fun h => hc ?_
  rw [List.eq_nil_of_length_eq_zero h]; rfl
/-- The steps of C in memory. -/
abbrev StR (w : World) (A : Option Addr) (c : Nat) (C : List I8) : Prop := RdE 9 EStep w A c (stL C C.length)
def GivesSt (C : List I8) (w : World) (e : Ending) (w' : World) : Prop := ∃ A n c, e = .returned (.tuple #[.slice A n c, .int .i64 (cfE C)]) ∧ (cfE C = 0 → n = C.length ∧ StR w' A c C) ∧ Below w.heap.size w w'
set_option maxRecDepth 100000 in
set_option maxHeartbeats 4000000 in
theorem iCodeL (nm : ByteArray) (C : List I8) (n : Nat) (hn : C.length = n) (A : Option Addr) (c : Nat) (w : World) (h : CdW w A c C) :
    Calls Tryd.prog 38 #[fnV nm A n c] w (GivesSt C w) := by
  obtain ⟨W, hWE⟩ : ∃ W, w.alloc (.cells #[.string nm, .slice A n c] 24) = W := ⟨_, rfl⟩
  have hbW : Below w.heap.size w W := by rw [← hWE]; exact belowAlloc w _
  have hBF : Blk W w.heap.size 24 #[.string nm, .slice A n c] := by rw [← hWE]; exact Blk.new w _ _
  have HKF : Hid (∀ Y, Below W.heap.size W Y → Y.cell? ⟨w.heap.size, 0, none⟩ = some (.string nm) ∧ Y.cell? ⟨w.heap.size, 1, none⟩ = some (.slice A n c)) := Lib.hid (fun Y hY => ⟨(hBF.below' hY).cell 0, (hBF.below' hY).cell 1⟩)
  have hr := h.rd
  have HI := Lib.hid (fun Y (hY : Below W.heap.size W Y) k (hk : k < C.length) => ((hr.below stabI hbW).below stabI hY).one hk)
  have HNX := Lib.hid (fun k X (hX : Below W.heap.size W X) => iNextF nm C n hn (k : Int) A c X ((h.below hbW).below hX))
  have hle := hr.le
  have hmx := hr.max
  rw [hn] at hle
  unfold maxLen at hmx
  have HN := Lib.hid hn
  have HW := Lib.hid hWE
  have HBW := Lib.hid hbW
  have hb0 := Below.refl W.heap.size W
  obtain ⟨f0, f1⟩ := HKF.out W hb0
  have HS0 := Lib.hid (StSt.start C W)
  have h64 : cfE C = 0 → n ≤ 64 := fun hc => by have := (cfOk hc).len; omega
  obtain ⟨r, hrr⟩ : ∃ r, cfE C = r := ⟨_, rfl⟩
  have HP : Hid (r ≠ 0 → 0 < n) := Lib.hid fun h => by have := cfEnil (C := C) (by rw [hrr]; exact h); omega
  have HA : Hid (r = 0 → ∀ k : Nat, k < n → nxE C k = 0 ∧ nxR C k = scS C k) := Lib.hid fun h k hk => nxAtL (by rw [hrr, h]) hn hk
  have HE : Hid (r ≠ 0 → ∀ x : Int, nxE C x = r ∧ nxR C x = []) := Lib.hid fun h x => by rw [← hrr]; exact nxBad (by rw [hrr]; exact h) x
  have HR := Lib.hid hrr
  rw [hrr] at h64
  clear hbW hBF hWE hn hr h hrr
  unfold fnV at HNX ⊢
  go_enter Tryd.func38, Tryd.ntmps38
  go_wp2
  rw [HW.out]
  go_loopw [4, 12] (fun v i wr => ∃ k : Nat, k ≤ n ∧ i = .int .i64 k ∧ Hid (r ≠ 0 → k = 0) ∧ Hid (StSt C W k v wr)) (fun _ i _ => n - (intOf i).toNat)
  case atStart => exact ⟨0, Nat.zero_le _, rfl, Lib.hid fun _ => rfl, HS0⟩
  case round =>
    clear HS0 f0 f1
    obtain ⟨k, hk, rfl, HK, HS⟩ := hrel
    have hb := HS.out.bel
    obtain ⟨f0, f1⟩ := HKF.out wr hb
    by_cases hlt : k < n
    · have hkl : k < C.length := by rw [HN.out]; exact hlt
      obtain ⟨q, off, hA, _, i0, i1, i2, i3, i4, i5, i6, i7⟩ := HI.out wr hb k hkl
      have hA : A = _ := hA
      subst hA
      have hgd := getDAt hkl
      obtain ⟨ii, hii⟩ : ∃ x, C[k] = x := ⟨_, rfl⟩
      rw [hii] at i0 i1 i2 i3 i4 i5 i6 i7 hgd
      clear hii
      obtain ⟨op, ra, rb, rc, obj, m, fn, ord⟩ := ii
      simp only at i0 i1 i2 i3 i4 i5 i6 i7
      have hk0 : (0 : Int) ≤ k := by omega
      have hk1 : (k : Int) < n := by omega
      obtain ⟨wb, hwb⟩ : ∃ x, wr.alloc (.cells #[.int .i64 op, .int .i64 ra, .int .i64 rb, .int .i64 rc, .int .i64 obj, .int .i64 m, .int .i64 fn, .int .i64 ord] 44) = x := ⟨_, rfl⟩
      have hbb : Below wr.heap.size wr wb := by rw [← hwb]; exact belowAlloc wr _
      have hbi : Blk wb wr.heap.size 44 #[.int .i64 op, .int .i64 ra, .int .i64 rb, .int .i64 rc, .int .i64 obj, .int .i64 m, .int .i64 fn, .int .i64 ord] := by rw [← hwb]; exact Blk.new wr _ _
      have hBB := belowThen hb hbb
      have HBB := Lib.hid hBB
      have HBr := Lib.hid hbb
      obtain ⟨g0, g1⟩ := HKF.out wb hBB
      have HC := Lib.hid (HNX.out k wb hBB)
      have HBI := Lib.hid (fun Y (hY : Below wb.heap.size wb Y) => boxFactsW (hbi.below' hY))
      obtain ⟨j0, j1, j2, j3, j4, j5, j6, j7⟩ := HBI.out wb (Below.refl _ _)
      have HWB := Lib.hid hwb
      have g0r := g0
      have g1r := g1
      rw [← hwb] at g0r g1r
      have HZB : Hid (wr.heap.size < wb.heap.size) := Lib.hid (by rw [← hwb, World.size_alloc]; omega)
      have HGD := Lib.hid hgd
      clear hwb hbb hbi hb hBB hgd
      by_cases hr0 : r = 0
      rotate_left
      · obtain ⟨e1, e2⟩ := HE.out hr0 (k : Int)
        rw [e1, e2] at HC
        have hne : (r != 0) = true := by simpa using hr0
        clear e1 e2
        go_wp2_with fail
        rw [HWB.out]
        go_wp2_with fail
        refine HC.out.mono ?_
        rintro e1 w2 ⟨A2, c2, rfl, _, b2, _⟩
        go_wp2
        go_ret2
        exact ⟨none, 0, 0, by rw [HR.out]; rfl, fun h => absurd (HR.out.symm.trans h) hr0, belowThen HBW.out (belowThen HBB.out b2)⟩
      obtain ⟨e1, e2⟩ := HA.out hr0 k hlt
      rw [e1, e2] at HC
      have hn64 := h64 hr0
      subst hr0
      clear e1 e2
      go_wp2_with fail
      rw [HWB.out]
      go_wp2_with fail
      refine HC.out.mono ?_
      rintro e w2 ⟨A2, c2, rfl, r2, b2, f2⟩
      obtain ⟨l0, l1, l2, l3, l4, l5, l6, l7⟩ := HBI.out w2 b2
      have hS2 := (HS.out.below HBr.out).below b2
      obtain ⟨mm, hmm⟩ : ∃ mm, (scS C k).length = mm := ⟨_, rfl⟩
      have hzz := HZB.out
      have hst := stPush (X := w2.alloc (.cells #[.int .i64 op, .int .i64 ra, .int .i64 rb, .int .i64 rc, .int .i64 obj, .int .i64 m, .int .i64 fn, .int .i64 ord, .slice A2 mm c2] 86)) (hS2.below (belowAlloc w2 _)) (by omega) (g := w2.heap.size) (A := A2) (c := c2) (by rw [HGD.out, hmm]; exact Blk.new w2 _ _) (Rd.below r2 (belowAlloc w2 _)) (fun ad e hl hv => by
        have h1 := f2 ad e hl
        have h2 := HS.out.lt hv
        omega) 73
      obtain ⟨v', w', hap, hs'⟩ := hst
      have HS' := Lib.hid hs'
      rw [hmm]
      clear hs' hS2 r2 f2 hmm b2
      go_wp2_with (at_builtin; refine Lib.wpList_append_run _ rfl (.tmp 26) (.tmp 30) 73 73 rfl _ _ rfl rfl _ _ hap ?_)
      all_goals go_roundw
      case rel => exact ⟨k + 1, by omega, by go_num, Lib.hid fun h => absurd rfl h, HS'⟩
      case measure => simp [intOf]; omega
    · obtain rfl : k = n := by omega
      have hr0 : r = 0 := Classical.byContradiction fun h => by
        have := HK.out h
        have := HP.out h
        omega
      obtain ⟨A9, c9, rfl, hrd⟩ := HS.out.rd
      have HRD := Lib.hid hrd
      have HB := Lib.hid hb
      clear hrd hb
      go_wp2
      go_ret2
      exact ⟨A9, k, c9, by rw [HR.out, hr0]; rfl, fun _ => ⟨HN.out.symm, by unfold StR; rw [HN.out]; exact HRD.out⟩, belowThen HBW.out HB.out⟩
end Go.Proofs.YtkanamdfjegcbaaDoor

namespace Go.Proofs.YtkanamdfjegcbaaDoor
open Go Go.RowKit Go.Shelf Go.Maps

/-- A cell that holds a set of registers. -/
def ESet (w : World) (b o : Nat) (S : Int → Bool) : Prop := ∃ v, w.cell? ⟨b, o, none⟩ = some v ∧ SetV w v S
theorem stabSet : StabE ESet := fun w w' b o x hl hb h => by
  obtain ⟨v, h1, h2⟩ := h
  exact ⟨v, (hb.cell hl).trans h1, h2.below hb⟩
def tL (T : Nat → Int → Bool) (n : Nat) : List (Int → Bool) := (List.range n).map T
theorem tLLen {T : Nat → Int → Bool} {n : Nat} : (tL T n).length = n := by simp [tL]
theorem tLAt {T : Nat → Int → Bool} {n j : Nat} (h : j < (tL T n).length) : (tL T n)[j] = T j := by simp [tL]
def afB (T : Nat → Int → Bool) (l : List Int) (r : Int) : Bool := l.any fun y => T y.toNat r
theorem afScS {C : List I8} {T : Nat → Int → Bool} {k : Nat} {r : Int} : afB T (scS C k) r = (sc C k).any fun y => T y r := by
  rw [Bool.eq_iff_iff]
  unfold afB
  rw [List.any_eq_true, List.any_eq_true]
  constructor
  · rintro ⟨x, hx, h⟩
    obtain ⟨y, hy, rfl⟩ := scSMem.1 hx
    exact ⟨y, hy, h⟩
  · rintro ⟨y, hy, h⟩
    exact ⟨(y : Int), scSMem.2 ⟨y, hy, rfl⟩, h⟩
theorem afTake {T : Nat → Int → Bool} {l : List Int} {j : Nat} (h : j < l.length) (r : Int) : (afB T (l.take j) r || T l[j].toNat r) = afB T (l.take (j + 1)) r := by
  unfold afB
  rw [List.take_succ_eq_append_getElem h, List.any_append, List.any_cons, List.any_nil, Bool.or_false]
/-- The call returns a new map that is the set S; nothing that was in memory has changed. -/
def GivesSet (S : Int → Bool) (w : World) (e : Ending) (w' : World) : Prop := ∃ b, e = .returned (.map (some b)) ∧ SetM w' b 100 S ∧ Below w.heap.size w w' ∧ w.heap.size ≤ b
set_option maxRecDepth 100000 in
set_option maxHeartbeats 4000000 in
theorem iAfterL (C : List I8) (n : Nat) (k : Nat) (hk : k < n) (hle : ∀ y, y ∈ sc C k → y ≤ n) (T : Nat → Int → Bool) (hT : ∀ j, j ≤ n → Regs (T j)) (A : Option Addr) (c : Nat) (Ab : Option Addr) (cb : Nat) (w : World) (hs : RdE 9 EStep w A c (stL C n)) (hb : RdE 1 ESet w Ab cb (tL T (n + 1))) :
    Calls Tryd.prog 43 #[.slice A n c, .int .i64 (k : Int), .slice Ab (n + 1) cb] w (GivesSet (fun r => (sc C k).any fun y => T y r) w) := by
  have HST := Lib.hid (fun X (hX : Below w.heap.size w X) => (hs.below stabStep hX).one (j := k) (by rw [stLLen]; exact hk))
  have HSB := Lib.hid (fun j (hj : j < n + 1) X (hX : Below w.heap.size w X) => (hb.below stabSet hX).one (j := j) (by rw [tLLen]; exact hj))
  have HSW := Lib.hid (fun j (hj : j < n + 1) => hb.one (j := j) (by rw [tLLen]; exact hj))
  have hc1 := hs.le
  have hc2 := hb.le
  have hm1 := hs.max
  have hm2 := hb.max
  rw [stLLen] at hc1
  rw [tLLen] at hc2
  unfold maxLen at hm1 hm2
  have HLE := Lib.hid hle
  have HT := Lib.hid hT
  have e0 : (fun r => (sc C k).any fun y => T y r) = afB T (scS C k) := funext fun r => afScS.symm
  rw [e0]
  have HMEM := Lib.hid (fun (x : Int) => scSMem (C := C) (k := k) (x := x))
  obtain ⟨q, off, hA, _, _, A8, c8, h8, r8⟩ := HST.out w (Below.refl _ _)
  subst hA
  have hL2 := scSLen (C := C) (k := k)
  rw [stLAt] at h8 r8
  simp only at h8 r8
  obtain ⟨l, hl⟩ : ∃ l, scS C k = l := ⟨_, rfl⟩
  rw [hl] at h8 r8 hL2 HMEM ⊢
  obtain ⟨m, hm⟩ : ∃ m, l.length = m := ⟨_, rfl⟩
  rw [hm] at h8 hL2
  have HM := Lib.hid hm
  have h8c := r8.le
  have h8m := r8.max
  rw [hm] at h8c
  unfold maxLen at h8m
  have HRD := Lib.hid (fun X (hX : Below w.heap.size w X) => Rd.below r8 hX)
  obtain ⟨W, hW⟩ : ∃ W, w.alloc (.map #[] 0) = W := ⟨_, rfl⟩
  have hbW : Below w.heap.size w W := by rw [← hW]; exact belowAlloc w _
  have hM0 : SetM W w.heap.size 0 (afB T (l.take 0)) := by rw [← hW]; exact SetM.made w
  have HM0 := Lib.hid hM0
  have HBW := Lib.hid hbW
  have HWE := Lib.hid hW
  have hqw : q < w.heap.size := by assumption
  have h8W := (hbW.cell (p := ⟨q, off + k * 9 + 8, none⟩) hqw).trans h8
  have h8R := h8W
  rw [← hW] at h8R
  have hk0 : (0 : Int) ≤ k := by omega
  have hk1 : (k : Int) < n := by omega
  clear hs hb hle hT e0 r8 hm hl hbW hW hM0 HST
  have hmm := @run_makeMap Tryd.prog
  go_enter Tryd.func43, Tryd.ntmps43
  go_wp2_with fail
  rw [HWE.out]
  clear hmm
  go_loopw [17] (fun i X => ∃ j : Nat, j ≤ m ∧ i = .int .i64 j ∧ Hid (SetM X w.heap.size (8 * j) (afB T (l.take j))) ∧ Hid (Below w.heap.size w X)) (fun i _ => m - (intOf i).toNat)
  case atStart => exact ⟨0, Nat.zero_le _, rfl, HM0, HBW⟩
  case round =>
    obtain ⟨j, hj, rfl, HS, HB⟩ := hrel
    by_cases hjm : j < m
    · have hjl : j < l.length := by rw [HM.out]; exact hjm
      obtain ⟨ad, eA, _, hcj⟩ := (HRD.out wr HB.out).one hjl
      obtain ⟨y, hyg, hly⟩ := (HMEM.out l[j]).1 (List.getElem_mem hjl)
      have hyn := HLE.out y hyg
      have HTK := Lib.hid (fun r => afTake (T := T) hjl r)
      rw [hly] at hcj HTK
      obtain ⟨qb, ob, hAb, hqb, v, hcv, hsv⟩ := HSB.out y (by omega) wr HB.out
      obtain ⟨qb2, ob2, hAb2, hqb2, v2, hcv2, hsv2⟩ := HSW.out y (by omega)
      have hb2 := HB.out
      rw [hAb] at hAb2
      injection hAb2 with hAb2
      injection hAb2 with hAb2 hAb3
      subst hAb2
      subst hAb3
      have hv : v = v2 := by
        have h5 := (hb2.cell (p := ⟨qb, ob + y * 1, none⟩) hqb2).trans hcv2
        rw [hcv] at h5
        exact Option.some.inj h5
      subst hv
      rw [tLAt] at hsv hsv2
      have hne : v ≠ .map (some w.heap.size) := fun e => by
        rcases hsv2 with ⟨e2, _⟩ | ⟨b2, n2, e2, _, h2⟩
        · rw [e] at e2; cases e2
        · rw [e] at e2
          injection e2 with e2
          injection e2 with e2
          have := h2.lt
          omega
      subst hAb
      subst eA
      have HC := Lib.hid (iCopySet w.heap.size (8 * j) v (afB T (l.take j)) (T y) (HT.out y hyn) hne (by omega) wr HS.out hsv)
      have hj0 : (0 : Int) ≤ j := by omega
      have hj1 : (j : Int) < m := by omega
      have hy0 : (0 : Int) ≤ y := by omega
      have hy1 : (y : Int) < ((n + 1 : Nat) : Int) := by omega
      rw [Nat.mul_one] at hcv
      have e1 : ((y : Int)).toNat = y := rfl
      clear hsv hsv2 hcv2 hne hly hyg hb2
      go_wp2_with fail
      refine HC.out.mono ?_
      rintro e w2 ⟨rfl, hm2, hg2⟩
      have HF := Lib.hid ((hm2.mono (n' := 8 * (j + 1)) (by omega)).congr fun x => HTK.out x)
      have HB2 := Lib.hid (HB.out.grown hg2 HB.out.size fun q hq => by injection hq with hq; omega)
      clear hm2 hg2
      go_wp2
      go_roundw
      case rel => exact ⟨j + 1, by omega, by go_num, HF, HB2⟩
      case measure => simp [intOf]; omega
    · obtain rfl : j = m := by omega
      have e1 : l.take j = l := List.take_of_length_le (by rw [HM.out]; exact Nat.le_refl _)
      rw [e1] at HS
      have HS2 := Lib.hid (HS.out.mono (n' := 100) (by omega))
      clear e1 HS
      go_wp2
      go_ret
      exact ⟨_, rfl, HS2.out, HB.out, Nat.le_refl _⟩
end Go.Proofs.YtkanamdfjegcbaaDoor
