/-
  The specification's expr and CheckExpr.
-/
import Derived.Test.YtiaendggmamnkaaGreatDoorEAsRb
import Derived.Test.YtiaendggmamnkaaGreatDoorEXe
import Derived.Test.YtiaendggmamnkaaGreatDoorEAsAv
import Derived.Deep.RegionHeld3
namespace Go.Proofs.YtiaendggmamnkaaGreatDoor
open Go Go.RowKit

/-- The first error among expressions in a row. -/
def pxG (ls : List ByteArray) : List Ex → Int
  | [] => 0
  | t :: r => if pxE ls t ≠ 0 then pxE ls t else pxG ls r
theorem pxGIs (ls : List ByteArray) : ∀ (k : Nat) (l : List (Nat × Ex)), pxF ls (numb k l) = pxG ls (l.map (·.2))
  | _, [] => rfl
  | k, (a, t) :: r => by rw [numb, pxFcons, List.map_cons, pxG, pxGIs ls (k + 1) r]
theorem pxGApp (ls : List ByteArray) : ∀ a b : List Ex, pxG ls (a ++ b) = if pxG ls a ≠ 0 then pxG ls a else pxG ls b
  | [], b => by simp [pxG]
  | t :: r, b => by
    rw [List.cons_append, pxG, pxG, pxGApp ls r b]
    by_cases h : pxE ls t = 0
    · simp [h]
    · simp [h]
mutual
theorem ndsLv {β : Type} (l l' : Nat) : ∀ t : Tr β, (Tr.nds l t).map (·.2) = (Tr.nds l' t).map (·.2)
  | .mk v a b => by rw [Tr.nds, Tr.nds, List.map_cons, List.map_cons, List.map_append, List.map_append, ndsLLv (l + 1) (l' + 1) a, ndsLLv (l + 1) (l' + 1) b]
theorem ndsLLv {β : Type} (l l' : Nat) : ∀ ts : List (Tr β), (Tr.ndsL l ts).map (·.2) = (Tr.ndsL l' ts).map (·.2)
  | [] => rfl
  | t :: r => by rw [Tr.ndsL, Tr.ndsL, List.map_append, List.map_append, ndsLv l l' t, ndsLLv l l' r]
end
/-- The first error of an expression and of all inside it. -/
def exR (ls : List ByteArray) (t : Ex) : Int := pxG ls ((Tr.nds 0 t).map (·.2))
def exL (ls : List ByteArray) (l : List Ex) : Int := pxG ls ((Tr.ndsL 0 l).map (·.2))
theorem exLCons (ls : List ByteArray) (t : Ex) (r : List Ex) : exL ls (t :: r) = if exR ls t ≠ 0 then exR ls t else exL ls r := by
  unfold exL exR
  rw [Tr.ndsL, List.map_append, pxGApp]
theorem exRIs (ls : List ByteArray) {t : Ex} (hs : t.snd = []) : exR ls t = if pxE ls t ≠ 0 then pxE ls t else exL ls t.fst := by
  unfold exL exR
  cases t with
  | mk v a b =>
    change b = [] at hs
    subst hs
    rw [Tr.nds, Tr.ndsL, List.append_nil, List.map_cons, pxG, ndsLLv (0 + 1) 0 a]
    rfl
theorem chXIs (ls : List ByteArray) (t : Ex) : chX ls t = if 3 < Tr.dp t then 4 else exR ls t := by
  unfold chX exR
  rw [pxGIs, Tr.ndsL, Tr.ndsL, List.append_nil, ndsLv 1 0]
theorem exLDrop {ls : List ByteArray} {l : List Ex} {j : Nat} (hj : j < l.length) {r : Int} (hr : exR ls l[j] = r) : exL ls (l.drop j) = if r ≠ 0 then r else exL ls (l.drop (j + 1)) := by
  rw [List.drop_eq_getElem_cons hj, exLCons, hr]
theorem exLEnd {ls : List ByteArray} {l : List Ex} {j : Nat} (hj : l.length ≤ j) : exL ls (l.drop j) = 0 := by
  rw [List.drop_eq_nil_of_le hj]; rfl
/-- expr at trees whose expressions have at most d levels. -/
def ExprSaid (d : Nat) : Prop := ∀ (t : Ex) (_ : t.snd = []) (_ : Tr.allT (fun v => v.name.size ≤ maxLen) t) (A4 : Option Addr) (n4 c4 : Nat) (_ : t.fst.length = n4) (ls : List ByteArray) (AL : Option Addr) (nl cL : Nat) (_ : ls.length = nl) (w : World) (_ : RdE 5 (EX d) w A4 c4 t.fst) (_ : RdE 1 ES w AL cL ls),
    Calls Tryz.prog 57 #[.agg (exC t.val.kind t.val.n t.val.name t.val.fn (.slice A4 n4 c4)), .slice AL nl cL] w fun e w' => e = .returned (.int .i64 (exR ls t)) ∧ Below w.heap.size w w'
theorem pxGood {ls : List ByteArray} {k m f : Int} {s : ByteArray} {a : List Ex} {n4 : Nat} (hn : a.length = n4) (h : pxV ls k m s f n4 = 0) : exR ls (.mk ⟨k, m, s, f⟩ a []) = exL ls a := by
  subst hn
  rw [exRIs ls rfl, pxVIs]
  exact if_neg (fun hh => hh h)
theorem retIn {a b : Int} (h : a = b) : Ending.returned (.int .i64 a) = .returned (.int .i64 b) := by rw [h]
theorem pxBad {ls : List ByteArray} {k m f : Int} {s : ByteArray} {a : List Ex} {n4 : Nat} (hn : a.length = n4) {r : Int} (h : pxV ls k m s f n4 = r) (h0 : r ≠ 0) : exR ls (.mk ⟨k, m, s, f⟩ a []) = r := by
  subst hn
  rw [exRIs ls rfl, pxVIs]
  change (if pxV ls k m s f a.length ≠ 0 then pxV ls k m s f a.length else _) = r
  rw [h, if_pos h0]
set_option linter.unusedSimpArgs false in
set_option maxRecDepth 100000 in
set_option maxHeartbeats 4000000 in
theorem rEx0 (d : Nat) (_ : Hid (∀ d', d' < d → ExprSaid d')) (k : Int) (hk : k ≠ 1 ∧ k ≠ 2 ∧ k ≠ 3) (m f : Int) (s : ByteArray) (a : List Ex) (hs : s.size ≤ maxLen) (ha : Tr.allL (fun v => v.name.size ≤ maxLen) a) (A4 : Option Addr) (n4 c4 : Nat) (hn : a.length = n4) (ls : List ByteArray) (AL : Option Addr) (nl cL : Nat) (hl : ls.length = nl) (w : World) (hr : RdE 5 (EX d) w A4 c4 a) (hrl : RdE 1 ES w AL cL ls) :
    Calls Tryz.prog 57 #[.agg (exC k m s f (.slice A4 n4 c4)), .slice AL nl cL] w fun e w' => e = .returned (.int .i64 (exR ls (.mk ⟨k, m, s, f⟩ a []))) ∧ Below w.heap.size w w' := by
  obtain ⟨W, hW⟩ : ∃ W, w.alloc (.cells (exC k m s f (.slice A4 n4 c4)) 37) = W := ⟨_, rfl⟩
  have B : Blk W w.heap.size 37 (exC k m s f (.slice A4 n4 c4)) := by rw [← hW]; exact Blk.new _ _ _
  have hb : Below w.heap.size w W := by rw [← hW]; exact belowAlloc _ _
  have HB := Lib.hid (And.intro hb B)
  have f0 : W.cell? ⟨w.heap.size, 0, none⟩ = some (.int .i64 k) := B.cell 0
  have f1 : W.cell? ⟨w.heap.size, 1, none⟩ = some (.int .i64 m) := B.cell 1
  have f2 : W.cell? ⟨w.heap.size, 2, none⟩ = some (.string s) := B.cell 2
  have f3 : W.cell? ⟨w.heap.size, 3, none⟩ = some (.int .i64 f) := B.cell 3
  have f4 : W.cell? ⟨w.heap.size, 4, none⟩ = some (.slice A4 n4 c4) := B.cell 4
  have HGOOD := Lib.hid (fun (h : pxV ls k m s f n4 = 0) => pxGood hn h)
  have HBAD : Hid (∀ r, pxV ls k m s f n4 = r → r ≠ 0 → exR ls (.mk ⟨k, m, s, f⟩ a []) = r) := Lib.hid (fun r h h0 => pxBad hn h h0)
  have HV := Lib.hid (fun X => rValue16 m X)
  have HN := Lib.hid (fun X => rName16 s hs X)
  have HM := Lib.hid (fun X (hX : Below w.heap.size w X) => rIn16 ls nl cL hl AL s X (hrl.below stabS hX))
  have HA := Lib.hid ha
  have HR := Lib.hid hr
  have HRL := Lib.hid hrl
  have HL := Lib.hid hn
  have HLL := Lib.hid hl
  have hmx := hr.max
  have hle := hr.le
  rw [hn] at hle
  unfold maxLen at hmx
  obtain ⟨R, hR⟩ : ∃ R, exR ls (.mk ⟨k, m, s, f⟩ a []) = R := ⟨_, rfl⟩
  rw [hR] at HGOOD HBAD ⊢
  unfold exC at hW ⊢
  have HW := Lib.hid hW
  clear B hW hb hR hs ha hr hrl hl hn

  have HX := Lib.hid (HBAD.out 8 (by unfold pxV; rw [if_pos hk]) (by decide))
  have hk2 : k < 1 ∨ (1 ≤ k ∧ 3 < k) := by omega
  clear hk
  go_enter Tryz.func57, Tryz.ntmps57
  go_upto_region 1 with fail
  rw [HW.out]
  go_wp2_with fail
  all_goals first
    | (exfalso; omega)
    | (go_ret; exact ⟨retIn HX.out.symm, HB.out.1⟩)
set_option linter.unusedSimpArgs false in
set_option maxRecDepth 100000 in
set_option maxHeartbeats 4000000 in
theorem rEx1 (d : Nat) (_ : Hid (∀ d', d' < d → ExprSaid d')) (m f : Int) (s : ByteArray) (a : List Ex) (hs : s.size ≤ maxLen) (ha : Tr.allL (fun v => v.name.size ≤ maxLen) a) (A4 : Option Addr) (n4 c4 : Nat) (hn : a.length = n4) (ls : List ByteArray) (AL : Option Addr) (nl cL : Nat) (hl : ls.length = nl) (w : World) (hr : RdE 5 (EX d) w A4 c4 a) (hrl : RdE 1 ES w AL cL ls) :
    Calls Tryz.prog 57 #[.agg (exC 1 m s f (.slice A4 n4 c4)), .slice AL nl cL] w fun e w' => e = .returned (.int .i64 (exR ls (.mk ⟨1, m, s, f⟩ a []))) ∧ Below w.heap.size w w' := by
  obtain ⟨W, hW⟩ : ∃ W, w.alloc (.cells (exC 1 m s f (.slice A4 n4 c4)) 37) = W := ⟨_, rfl⟩
  have B : Blk W w.heap.size 37 (exC 1 m s f (.slice A4 n4 c4)) := by rw [← hW]; exact Blk.new _ _ _
  have hb : Below w.heap.size w W := by rw [← hW]; exact belowAlloc _ _
  have HB := Lib.hid (And.intro hb B)
  have f0 : W.cell? ⟨w.heap.size, 0, none⟩ = some (.int .i64 1) := B.cell 0
  have f1 : W.cell? ⟨w.heap.size, 1, none⟩ = some (.int .i64 m) := B.cell 1
  have f2 : W.cell? ⟨w.heap.size, 2, none⟩ = some (.string s) := B.cell 2
  have f3 : W.cell? ⟨w.heap.size, 3, none⟩ = some (.int .i64 f) := B.cell 3
  have f4 : W.cell? ⟨w.heap.size, 4, none⟩ = some (.slice A4 n4 c4) := B.cell 4
  have HGOOD := Lib.hid (fun (h : pxV ls 1 m s f n4 = 0) => pxGood hn h)
  have HBAD : Hid (∀ r, pxV ls 1 m s f n4 = r → r ≠ 0 → exR ls (.mk ⟨1, m, s, f⟩ a []) = r) := Lib.hid (fun r h h0 => pxBad hn h h0)
  have HV := Lib.hid (fun X => rValue16 m X)
  have HN := Lib.hid (fun X => rName16 s hs X)
  have HM := Lib.hid (fun X (hX : Below w.heap.size w X) => rIn16 ls nl cL hl AL s X (hrl.below stabS hX))
  have HA := Lib.hid ha
  have HR := Lib.hid hr
  have HRL := Lib.hid hrl
  have HL := Lib.hid hn
  have HLL := Lib.hid hl
  have hmx := hr.max
  have hle := hr.le
  rw [hn] at hle
  unfold maxLen at hmx
  obtain ⟨R, hR⟩ : ∃ R, exR ls (.mk ⟨1, m, s, f⟩ a []) = R := ⟨_, rfl⟩
  rw [hR] at HGOOD HBAD ⊢
  unfold exC at hW ⊢
  have HW := Lib.hid hW
  clear B hW hb hR hs ha hr hrl hl hn

  obtain ⟨q1, hq1⟩ : ∃ q, vlOk m = q := ⟨_, rfl⟩
  rw [hq1] at HV
  have Hq1 := Lib.hid hq1
  clear hq1
  by_cases hg : s.toList = [] ∧ f = 0 ∧ n4 = 0
  · obtain ⟨z1, rfl, rfl⟩ := hg
    cases q1
    · have HX := Lib.hid (HBAD.out 2 (by unfold pxV; simp [z1, Hq1.out]) (by decide))
      go_enter Tryz.func57, Tryz.ntmps57
      go_upto_region 1 with fail
      rw [HW.out]
      go_wp2_with (first | (go_at_call 51; refine (HV.out _).mono ?_; rintro e w' ⟨rfl, rfl⟩))
      go_ret
      exact ⟨retIn HX.out.symm, HB.out.1⟩
    · have HX := Lib.hid ((HGOOD.out (by unfold pxV; simp [z1, Hq1.out])).trans (show exL ls a = 0 by rw [List.length_eq_zero_iff.1 HL.out]; rfl))
      go_enter Tryz.func57, Tryz.ntmps57
      go_upto_region 1 with fail
      rw [HW.out]
      go_wp2_with (first | (go_at_call 51; refine (HV.out _).mono ?_; rintro e w' ⟨rfl, rfl⟩))
      go_loopw [6, 7] (fun i x wr => ∃ j : Nat, i = .int .i64 j ∧ j ≤ 0 ∧ wr = W) (fun i _ _ => 0 - (intOf i).toNat)
      case atStart => exact ⟨0, rfl, Nat.le_refl _, rfl⟩
      case round =>
        obtain ⟨j, rfl, hj, rfl⟩ := hrel
        obtain rfl : j = 0 := by omega
        go_wp2_with fail
        go_ret
        exact ⟨retIn HX.out.symm, HB.out.1⟩
  · have HX := Lib.hid (HBAD.out 9 (by by_cases h1 : s.toList = [] <;> by_cases h2 : f = 0 <;> by_cases h3 : n4 = 0 <;> simp [pxV, *] at hg ⊢) (by decide))
    have hg2 : ¬ (s.toList = [] ∧ f = 0 ∧ (n4 : Int) = 0) := by simpa using hg
    go_enter Tryz.func57, Tryz.ntmps57
    go_upto_region 1 with fail
    rw [HW.out]
    go_wp2_with fail
    all_goals first
      | (go_ret; exact ⟨retIn HX.out.symm, HB.out.1⟩)
      | (exfalso; simp_all; done)
      | (exfalso; simp_all; omega)
set_option linter.unusedSimpArgs false in
set_option maxRecDepth 100000 in
set_option maxHeartbeats 4000000 in
theorem rEx2 (d : Nat) (_ : Hid (∀ d', d' < d → ExprSaid d')) (m f : Int) (s : ByteArray) (a : List Ex) (hs : s.size ≤ maxLen) (ha : Tr.allL (fun v => v.name.size ≤ maxLen) a) (A4 : Option Addr) (n4 c4 : Nat) (hn : a.length = n4) (ls : List ByteArray) (AL : Option Addr) (nl cL : Nat) (hl : ls.length = nl) (w : World) (hr : RdE 5 (EX d) w A4 c4 a) (hrl : RdE 1 ES w AL cL ls) :
    Calls Tryz.prog 57 #[.agg (exC 2 m s f (.slice A4 n4 c4)), .slice AL nl cL] w fun e w' => e = .returned (.int .i64 (exR ls (.mk ⟨2, m, s, f⟩ a []))) ∧ Below w.heap.size w w' := by
  obtain ⟨W, hW⟩ : ∃ W, w.alloc (.cells (exC 2 m s f (.slice A4 n4 c4)) 37) = W := ⟨_, rfl⟩
  have B : Blk W w.heap.size 37 (exC 2 m s f (.slice A4 n4 c4)) := by rw [← hW]; exact Blk.new _ _ _
  have hb : Below w.heap.size w W := by rw [← hW]; exact belowAlloc _ _
  have HB := Lib.hid (And.intro hb B)
  have f0 : W.cell? ⟨w.heap.size, 0, none⟩ = some (.int .i64 2) := B.cell 0
  have f1 : W.cell? ⟨w.heap.size, 1, none⟩ = some (.int .i64 m) := B.cell 1
  have f2 : W.cell? ⟨w.heap.size, 2, none⟩ = some (.string s) := B.cell 2
  have f3 : W.cell? ⟨w.heap.size, 3, none⟩ = some (.int .i64 f) := B.cell 3
  have f4 : W.cell? ⟨w.heap.size, 4, none⟩ = some (.slice A4 n4 c4) := B.cell 4
  have HGOOD := Lib.hid (fun (h : pxV ls 2 m s f n4 = 0) => pxGood hn h)
  have HBAD : Hid (∀ r, pxV ls 2 m s f n4 = r → r ≠ 0 → exR ls (.mk ⟨2, m, s, f⟩ a []) = r) := Lib.hid (fun r h h0 => pxBad hn h h0)
  have HV := Lib.hid (fun X => rValue16 m X)
  have HN := Lib.hid (fun X => rName16 s hs X)
  have HM := Lib.hid (fun X (hX : Below w.heap.size w X) => rIn16 ls nl cL hl AL s X (hrl.below stabS hX))
  have HA := Lib.hid ha
  have HR := Lib.hid hr
  have HRL := Lib.hid hrl
  have HL := Lib.hid hn
  have HLL := Lib.hid hl
  have hmx := hr.max
  have hle := hr.le
  rw [hn] at hle
  unfold maxLen at hmx
  obtain ⟨R, hR⟩ : ∃ R, exR ls (.mk ⟨2, m, s, f⟩ a []) = R := ⟨_, rfl⟩
  rw [hR] at HGOOD HBAD ⊢
  unfold exC at hW ⊢
  have HW := Lib.hid hW
  clear B hW hb hR hs ha hr hrl hl hn

  obtain ⟨q2, hq2⟩ : ∃ q, nmA s = q := ⟨_, rfl⟩
  obtain ⟨q3, hq3⟩ : ∃ q, inS s ls = q := ⟨_, rfl⟩
  rw [hq2] at HN
  rw [hq3] at HM
  have Hq2 := Lib.hid hq2
  have Hq3 := Lib.hid hq3
  clear hq2 hq3
  by_cases hg : m = 0 ∧ f = 0 ∧ n4 = 0
  · obtain ⟨rfl, rfl, rfl⟩ := hg
    cases q2
    · have HX := Lib.hid (HBAD.out 6 (by unfold pxV; simp [vl0, Hq2.out]) (by decide))
      go_enter Tryz.func57, Tryz.ntmps57
      go_upto_region 1 with fail
      rw [HW.out]
      go_wp2_with (first | (go_at_call 109; refine (HN.out _).mono ?_; rintro e w2 ⟨rfl, hb2⟩; have HB2 := Lib.hid (And.intro (belowThen HB.out.1 hb2) (HB.out.2.below' hb2)); have g0 : w2.cell? ⟨w.heap.size, 0, none⟩ = some (.int .i64 2) := HB2.out.2.cell 0; have g2 : w2.cell? ⟨w.heap.size, 2, none⟩ = some (.string s) := HB2.out.2.cell 2; have g4 : w2.cell? ⟨w.heap.size, 4, none⟩ = some (.slice A4 0 c4) := HB2.out.2.cell 4; clear hb2) | (go_at_call 53; refine (HM.out _ HB2.out.1).mono ?_; rintro e w' ⟨rfl, rfl⟩))
      go_ret
      exact ⟨retIn HX.out.symm, HB2.out.1⟩
    · cases q3
      · have HX := Lib.hid (HBAD.out 11 (by unfold pxV; simp [vl0, Hq2.out, Hq3.out]) (by decide))
        go_enter Tryz.func57, Tryz.ntmps57
        go_upto_region 1 with fail
        rw [HW.out]
        go_wp2_with (first | (go_at_call 109; refine (HN.out _).mono ?_; rintro e w2 ⟨rfl, hb2⟩; have HB2 := Lib.hid (And.intro (belowThen HB.out.1 hb2) (HB.out.2.below' hb2)); have g0 : w2.cell? ⟨w.heap.size, 0, none⟩ = some (.int .i64 2) := HB2.out.2.cell 0; have g2 : w2.cell? ⟨w.heap.size, 2, none⟩ = some (.string s) := HB2.out.2.cell 2; have g4 : w2.cell? ⟨w.heap.size, 4, none⟩ = some (.slice A4 0 c4) := HB2.out.2.cell 4; clear hb2) | (go_at_call 53; refine (HM.out _ HB2.out.1).mono ?_; rintro e w' ⟨rfl, rfl⟩))
        go_ret
        exact ⟨retIn HX.out.symm, HB2.out.1⟩
      · have HX := Lib.hid ((HGOOD.out (by unfold pxV; simp [vl0, Hq2.out, Hq3.out])).trans (show exL ls a = 0 by rw [List.length_eq_zero_iff.1 HL.out]; rfl))
        go_enter Tryz.func57, Tryz.ntmps57
        go_upto_region 1 with fail
        rw [HW.out]
        go_wp2_with (first | (go_at_call 109; refine (HN.out _).mono ?_; rintro e w2 ⟨rfl, hb2⟩; have HB2 := Lib.hid (And.intro (belowThen HB.out.1 hb2) (HB.out.2.below' hb2)); have g0 : w2.cell? ⟨w.heap.size, 0, none⟩ = some (.int .i64 2) := HB2.out.2.cell 0; have g2 : w2.cell? ⟨w.heap.size, 2, none⟩ = some (.string s) := HB2.out.2.cell 2; have g4 : w2.cell? ⟨w.heap.size, 4, none⟩ = some (.slice A4 0 c4) := HB2.out.2.cell 4; clear hb2) | (go_at_call 53; refine (HM.out _ HB2.out.1).mono ?_; rintro e w' ⟨rfl, rfl⟩))
        go_loopw [6, 7] (fun i x wr => ∃ j : Nat, i = .int .i64 j ∧ j ≤ 0 ∧ wr = w2) (fun i _ _ => 0 - (intOf i).toNat)
        case atStart => exact ⟨0, rfl, Nat.le_refl _, rfl⟩
        case round =>
          obtain ⟨j, rfl, hj, rfl⟩ := hrel
          obtain rfl : j = 0 := by omega
          go_wp2_with fail
          go_ret
          exact ⟨retIn HX.out.symm, HB2.out.1⟩
  · have HX := Lib.hid (HBAD.out 9 (by by_cases h1 : m = 0 <;> by_cases h2 : f = 0 <;> by_cases h3 : n4 = 0 <;> simp [pxV, *] at hg ⊢) (by decide))
    have hg2 : ¬ (m = 0 ∧ f = 0 ∧ (n4 : Int) = 0) := by simpa using hg
    go_enter Tryz.func57, Tryz.ntmps57
    go_upto_region 1 with fail
    rw [HW.out]
    go_wp2_with fail
    all_goals first
      | (go_ret; exact ⟨retIn HX.out.symm, HB.out.1⟩)
      | (exfalso; simp_all; done)
      | (exfalso; simp_all; omega)
set_option linter.unusedSimpArgs false in
set_option maxRecDepth 100000 in
set_option maxHeartbeats 4000000 in
theorem rEx3 (d : Nat) (HI : Hid (∀ d', d' < d → ExprSaid d')) (m f : Int) (s : ByteArray) (a : List Ex) (hs : s.size ≤ maxLen) (ha : Tr.allL (fun v => v.name.size ≤ maxLen) a) (A4 : Option Addr) (n4 c4 : Nat) (hn : a.length = n4) (ls : List ByteArray) (AL : Option Addr) (nl cL : Nat) (hl : ls.length = nl) (w : World) (hr : RdE 5 (EX d) w A4 c4 a) (hrl : RdE 1 ES w AL cL ls) :
    Calls Tryz.prog 57 #[.agg (exC 3 m s f (.slice A4 n4 c4)), .slice AL nl cL] w fun e w' => e = .returned (.int .i64 (exR ls (.mk ⟨3, m, s, f⟩ a []))) ∧ Below w.heap.size w w' := by
  obtain ⟨W, hW⟩ : ∃ W, w.alloc (.cells (exC 3 m s f (.slice A4 n4 c4)) 37) = W := ⟨_, rfl⟩
  have B : Blk W w.heap.size 37 (exC 3 m s f (.slice A4 n4 c4)) := by rw [← hW]; exact Blk.new _ _ _
  have hb : Below w.heap.size w W := by rw [← hW]; exact belowAlloc _ _
  have HB := Lib.hid (And.intro hb B)
  have f0 : W.cell? ⟨w.heap.size, 0, none⟩ = some (.int .i64 3) := B.cell 0
  have f1 : W.cell? ⟨w.heap.size, 1, none⟩ = some (.int .i64 m) := B.cell 1
  have f2 : W.cell? ⟨w.heap.size, 2, none⟩ = some (.string s) := B.cell 2
  have f3 : W.cell? ⟨w.heap.size, 3, none⟩ = some (.int .i64 f) := B.cell 3
  have f4 : W.cell? ⟨w.heap.size, 4, none⟩ = some (.slice A4 n4 c4) := B.cell 4
  have HGOOD := Lib.hid (fun (h : pxV ls 3 m s f n4 = 0) => pxGood hn h)
  have HBAD : Hid (∀ r, pxV ls 3 m s f n4 = r → r ≠ 0 → exR ls (.mk ⟨3, m, s, f⟩ a []) = r) := Lib.hid (fun r h h0 => pxBad hn h h0)
  have HV := Lib.hid (fun X => rValue16 m X)
  have HN := Lib.hid (fun X => rName16 s hs X)
  have HM := Lib.hid (fun X (hX : Below w.heap.size w X) => rIn16 ls nl cL hl AL s X (hrl.below stabS hX))
  have HA := Lib.hid ha
  have HR := Lib.hid hr
  have HRL := Lib.hid hrl
  have HL := Lib.hid hn
  have HLL := Lib.hid hl
  have hmx := hr.max
  have hle := hr.le
  rw [hn] at hle
  unfold maxLen at hmx
  obtain ⟨R, hR⟩ : ∃ R, exR ls (.mk ⟨3, m, s, f⟩ a []) = R := ⟨_, rfl⟩
  rw [hR] at HGOOD HBAD ⊢
  unfold exC at hW ⊢
  have HW := Lib.hid hW
  clear B hW hb hR hs ha hr hrl hl hn

  by_cases hg : m = 0 ∧ s.toList = [] ∧ n4 = 2
  · obtain ⟨rfl, z1, rfl⟩ := hg
    by_cases hf : 1 ≤ f ∧ f ≤ 10
    · have HG := Lib.hid (HGOOD.out (by unfold pxV fnOkA; simp [vl0, z1, hf]))
      obtain ⟨hf1, hf2⟩ := hf
      go_enter Tryz.func57, Tryz.ntmps57
      go_upto_region 1 with fail
      rw [HW.out]
      go_wp2_with fail
      go_loopw [6, 7] (fun i x wr => ∃ j : Nat, i = .int .i64 j ∧ j ≤ 2 ∧ Hid (R = exL ls (a.drop j)) ∧ Hid (Below w.heap.size w wr ∧ Blk wr w.heap.size 37 (exC 3 0 s f (.slice A4 2 c4)))) (fun i _ _ => 2 - (intOf i).toNat)
      case atStart => exact ⟨0, rfl, Nat.zero_le _, Lib.hid HG.out, HB⟩
      case round =>
        obtain ⟨j, rfl, hj, HX, HB9⟩ := hrel
        have f4 : wr.cell? ⟨w.heap.size, 4, none⟩ = some (.slice A4 2 c4) := HB9.out.2.cell 4
        by_cases hlt : j < 2
        · have hjl : j < a.length := by rw [HL.out]; exact hlt
          have hj0 : (0 : Int) ≤ j := by omega
          have hj1 : (j : Int) < 2 := by omega
          have HR2 := Lib.hid (HR.out.below (stabX d) HB9.out.1)
          cases d with
          | zero => exact (HR2.out.one hjl).elim fun _ h => h.elim fun _ h => h.2.2.elim
          | succ d1 =>
            obtain ⟨b, o, hA, hlb, g0, g1, g2, g3, hsn, v4, x4, A5, c5, rfl, r5⟩ := HR2.out.one hjl
            subst hA
            have hat := Tr.allLAt hjl HA.out
            obtain ⟨r, hr⟩ : ∃ r, exR ls a[j] = r := ⟨_, rfl⟩
            have hnx := exLDrop hjl hr
            obtain ⟨P, hP⟩ : ∃ x, a[j] = x := ⟨_, rfl⟩
            rw [hP] at g0 g1 g2 g3 hsn x4 r5 hr hat
            have hall : Tr.allT (fun v => v.name.size ≤ maxLen) P := by
              cases P with
              | mk v p q => exact hat
            obtain ⟨n5, hn5⟩ : ∃ n, P.fst.length = n := ⟨_, rfl⟩
            rw [hn5] at x4
            have hc := HI.out d1 (Nat.lt_succ_self _) P hsn hall A5 n5 c5 hn5 ls AL nl cL HLL.out wr r5 (HRL.out.below stabS HB9.out.1)
            rw [hr] at hc
            unfold exC at hc
            have HC := Lib.hid hc
            have HNX := Lib.hid hnx
            clear hP hn5 r5 hr hnx hsn hat hall hc
            go_wp2_with fail
            refine HC.out.mono ?_
            rintro e w2 ⟨rfl, hb2⟩
            have HB2 := Lib.hid (And.intro (belowThen HB9.out.1 hb2) (HB9.out.2.below' hb2))
            clear hb2
            by_cases h0 : r = 0
            · have hz : (r != 0) = false := by simpa using h0
              have HX2 := Lib.hid (show R = exL ls (a.drop (j + 1)) from HX.out.trans (by rw [HNX.out, if_neg (by simpa using h0)]))
              clear h0
              go_wp2_with fail
              go_roundw
              case rel => exact ⟨j + 1, by go_num, by omega, HX2, HB2⟩
              case measure => simp [intOf]; omega
            · have hz : (r != 0) = true := by simpa using h0
              have HX2 := Lib.hid (show R = r from HX.out.trans (by rw [HNX.out, if_pos h0]))
              clear h0
              go_wp2_with fail
              go_ret
              exact ⟨retIn HX2.out.symm, HB2.out.1⟩
        · have HX2 := Lib.hid (show R = 0 from HX.out.trans (exLEnd (by rw [HL.out]; omega)))
          go_wp2_with fail
          go_ret
          exact ⟨retIn HX2.out.symm, HB9.out.1⟩
    · have HX := Lib.hid (HBAD.out 8 (by by_cases h1 : 1 ≤ f <;> by_cases h2 : f ≤ 10 <;> simp [pxV, fnOkA, vl0, z1, *] at hf ⊢ <;> omega) (by decide))
      have hf2 : f < 1 ∨ 1 ≤ f ∧ 10 < f := by omega
      clear hf
      go_enter Tryz.func57, Tryz.ntmps57
      go_upto_region 1 with fail
      rw [HW.out]
      go_wp2_with fail
      all_goals first
        | (exfalso; omega)
        | (go_ret; exact ⟨retIn HX.out.symm, HB.out.1⟩)
  · have HX := Lib.hid (HBAD.out 9 (by by_cases h1 : m = 0 <;> by_cases h2 : s.toList = [] <;> by_cases h3 : n4 = 2 <;> simp [pxV, *] at hg ⊢) (by decide))
    have hg2 : ¬ (m = 0 ∧ s.toList = [] ∧ (n4 : Int) = 2) := by
      rintro ⟨h1, h2, h3⟩
      exact hg ⟨h1, h2, by omega⟩
    go_enter Tryz.func57, Tryz.ntmps57
    go_upto_region 1 with fail
    rw [HW.out]
    go_wp2_with fail
    all_goals first
      | (go_ret; exact ⟨retIn HX.out.symm, HB.out.1⟩)
      | (exfalso; simp_all; done)
      | (exfalso; simp_all; omega)
theorem rExpr16 : ∀ d, ExprSaid d
  | d => fun t hs hnm A4 n4 c4 hn ls AL nl cL hl w hr hrl => by
    have HI := Lib.hid (show ∀ d', d' < d → ExprSaid d' from fun d' h => rExpr16 d')
    obtain ⟨⟨k, m, s, f⟩, a, b⟩ := t
    change b = [] at hs
    subst hs
    obtain ⟨h1, h2, -⟩ := hnm
    change Calls _ _ #[.agg (exC k m s f (.slice A4 n4 c4)), .slice AL nl cL] w _
    by_cases e1 : k = 1
    · subst e1; exact rEx1 d HI m f s a h1 h2 A4 n4 c4 hn ls AL nl cL hl w hr hrl
    by_cases e2 : k = 2
    · subst e2; exact rEx2 d HI m f s a h1 h2 A4 n4 c4 hn ls AL nl cL hl w hr hrl
    by_cases e3 : k = 3
    · subst e3; exact rEx3 d HI m f s a h1 h2 A4 n4 c4 hn ls AL nl cL hl w hr hrl
    exact rEx0 d HI k ⟨e1, e2, e3⟩ m f s a h1 h2 A4 n4 c4 hn ls AL nl cL hl w hr hrl
termination_by d => d
set_option maxRecDepth 100000 in
set_option maxHeartbeats 1000000 in
theorem rCheckX16 (d : Nat) (t : Ex) (hs : t.snd = []) (hnm : Tr.allT (fun v => v.name.size ≤ maxLen) t) (hd : Tr.dp t ≤ 4000000) (A4 : Option Addr) (n4 c4 : Nat) (hn : t.fst.length = n4) (ls : List ByteArray) (AL : Option Addr) (nl cL : Nat) (hl : ls.length = nl) (w : World) (hr : RdE 5 (EX d) w A4 c4 t.fst) (hrl : RdE 1 ES w AL cL ls) :
    Calls Tryz.prog 20 #[.agg (exC t.val.kind t.val.n t.val.name t.val.fn (.slice A4 n4 c4)), .slice AL nl cL] w fun e w' => e = .returned (.int .i64 (chX ls t)) ∧ Below w.heap.size w w' := by
  rw [chXIs]
  have HD := Lib.hid (fun (X : World) (hX : Below w.heap.size w X) => rDepth16 d t hs hd A4 n4 c4 hn X (hr.below (stabX d) hX))
  have HE := Lib.hid (fun (X : World) (hX : Below w.heap.size w X) => rExpr16 d t hs hnm A4 n4 c4 hn ls AL nl cL hl X (hr.below (stabX d) hX) (hrl.below stabS hX))
  obtain ⟨k, hk⟩ : ∃ k, t.val.kind = k := ⟨_, rfl⟩
  obtain ⟨m, hm⟩ : ∃ k, t.val.n = k := ⟨_, rfl⟩
  obtain ⟨s, hs⟩ : ∃ k, t.val.name = k := ⟨_, rfl⟩
  obtain ⟨f, hf⟩ : ∃ k, t.val.fn = k := ⟨_, rfl⟩
  obtain ⟨D, hDp⟩ : ∃ k, Tr.dp t = k := ⟨_, rfl⟩
  obtain ⟨r, hr⟩ : ∃ k, exR ls t = k := ⟨_, rfl⟩
  rw [hk, hm, hs, hf, hDp] at HD
  rw [hk, hm, hs, hf, hr] at HE
  rw [hk, hm, hs, hf, hDp, hr]
  rw [hDp] at hd
  clear hk hm hs hf hDp hr hn hl hnm
  obtain ⟨W, hW⟩ : ∃ W, w.alloc (.cells (exC k m s f (.slice A4 n4 c4)) 37) = W := ⟨_, rfl⟩
  have B : Blk W w.heap.size 37 (exC k m s f (.slice A4 n4 c4)) := by rw [← hW]; exact Blk.new _ _ _
  have hb : Below w.heap.size w W := by rw [← hW]; exact belowAlloc _ _
  have HB := Lib.hid (And.intro hb B)
  have f0 : W.cell? ⟨w.heap.size, 0, none⟩ = some (.int .i64 k) := B.cell 0
  have f1 : W.cell? ⟨w.heap.size, 1, none⟩ = some (.int .i64 m) := B.cell 1
  have f2 : W.cell? ⟨w.heap.size, 2, none⟩ = some (.string s) := B.cell 2
  have f3 : W.cell? ⟨w.heap.size, 3, none⟩ = some (.int .i64 f) := B.cell 3
  have f4 : W.cell? ⟨w.heap.size, 4, none⟩ = some (.slice A4 n4 c4) := B.cell 4
  unfold exC at hW HD HE ⊢
  have HW := Lib.hid hW
  clear B hW hb
  by_cases h3 : 3 < D
  all_goals
    go_enter Tryz.func20, Tryz.ntmps20
    go_upto_region 1 with fail
    rw [HW.out]
    go_wp2_with (go_at_call 22; refine (HD.out _ HB.out.1).mono ?_; rintro e w2 ⟨rfl, hb2⟩; have HB2 := Lib.hid (And.intro (belowThen HB.out.1 hb2) (HB.out.2.below' hb2)); have g0 : w2.cell? ⟨w.heap.size, 0, none⟩ = some (.int .i64 k) := HB2.out.2.cell 0; have g1 : w2.cell? ⟨w.heap.size, 1, none⟩ = some (.int .i64 m) := HB2.out.2.cell 1; have g2 : w2.cell? ⟨w.heap.size, 2, none⟩ = some (.string s) := HB2.out.2.cell 2; have g3 : w2.cell? ⟨w.heap.size, 3, none⟩ = some (.int .i64 f) := HB2.out.2.cell 3; have g4 : w2.cell? ⟨w.heap.size, 4, none⟩ = some (.slice A4 n4 c4) := HB2.out.2.cell 4; clear hb2)
  · go_ret
    exact ⟨rfl, HB2.out.1⟩
  · refine (HE.out _ HB2.out.1).mono ?_
    rintro e w3 ⟨rfl, hb3⟩
    have HB3 := Lib.hid (belowThen HB2.out.1 hb3)
    clear hb3
    go_wp2_with fail
    go_ret
    exact ⟨rfl, HB3.out⟩
end Go.Proofs.YtiaendggmamnkaaGreatDoor

namespace Go.Proofs.YtiaendggmamnkaaGreatDoor
open Go Go.RowKit

set_option maxRecDepth 100000 in
set_option maxHeartbeats 1000000 in
theorem rFew16 (d : Nat) (k m f : Int) (s : ByteArray) (a : List Ex) (A4 : Option Addr) (n4 c4 : Nat) (hn : a.length = n4) (w : World) (hr : RdE 5 (EX d) w A4 c4 a) :
    Calls Tryz.prog 18 #[.agg (exC k m s f (.slice A4 n4 c4))] w fun e w' => ∃ b, e = .returned (.bool b) ∧ Below w.heap.size w w' := by
  obtain ⟨W, hW⟩ : ∃ W, w.alloc (.cells (exC k m s f (.slice A4 n4 c4)) 37) = W := ⟨_, rfl⟩
  obtain ⟨W2, hW2⟩ : ∃ W2, W.alloc (.cells (exC k m s f (.slice A4 n4 c4)) 37) = W2 := ⟨_, rfl⟩
  have B : Blk W w.heap.size 37 (exC k m s f (.slice A4 n4 c4)) := by rw [← hW]; exact Blk.new _ _ _
  have B2 : Blk W2 W.heap.size 37 (exC k m s f (.slice A4 n4 c4)) := by rw [← hW2]; exact Blk.new _ _ _
  have hb : Below w.heap.size w W := by rw [← hW]; exact belowAlloc _ _
  have hb2 : Below W.heap.size W W2 := by rw [← hW2]; exact belowAlloc _ _
  have hb3 := belowThen hb hb2
  have HN := Lib.hid (rNodes (d + 1) [.mk ⟨k, m, s, f⟩ a []] 1 1 rfl _ 40 W2 (litX1 B2 ⟨A4, c4, by rw [hn], hr.below (stabX d) hb3⟩))
  have f0 : W.cell? ⟨w.heap.size, 0, none⟩ = some (.int .i64 k) := B.cell 0
  have f1 : W.cell? ⟨w.heap.size, 1, none⟩ = some (.int .i64 m) := B.cell 1
  have f2 : W.cell? ⟨w.heap.size, 2, none⟩ = some (.string s) := B.cell 2
  have f3 : W.cell? ⟨w.heap.size, 3, none⟩ = some (.int .i64 f) := B.cell 3
  have f4 : W.cell? ⟨w.heap.size, 4, none⟩ = some (.slice A4 n4 c4) := B.cell 4
  have HB := Lib.hid hb3
  unfold exC at hW hW2 ⊢
  have HW := Lib.hid hW
  have HW2 := Lib.hid hW2
  clear B B2 hW hW2 hb hb2 hb3 hn hr
  go_enter Tryz.func18, Tryz.ntmps18
  go_upto_region 1 with fail
  rw [HW.out]
  go_wp2_with fail
  rw [HW2.out]
  refine HN.out.mono ?_
  rintro e w3 ⟨v, rfl, rfl⟩
  go_wp2_with fail
  all_goals go_ret
  all_goals exact ⟨_, rfl, HB.out⟩
set_option maxRecDepth 100000 in
set_option maxHeartbeats 4000000 in
theorem lawExpr (d : Nat) (t : Ex) (hs : t.snd = []) (hW : WfX t) (hnm : Tr.allT (fun v => v.name.size ≤ maxLen) t) (A4 : Option Addr) (n4 c4 : Nat) (hn : t.fst.length = n4) (ls : List ByteArray) (AL : Option Addr) (nl cL : Nat) (hl : ls.length = nl) (w : World) (hT : RwsT w) (hr : RdE 5 (EX d) w A4 c4 t.fst) (hrl : RdE 1 ES w AL cL ls) :
    Calls Tryz.prog 4 #[.agg (exC t.val.kind t.val.n t.val.name t.val.fn (.slice A4 n4 c4)), .slice AL nl cL] w fun e w' => e = .returned (.bool true) ∧ Below w.heap.size w w' := by
  have hdp : Tr.dp t ≤ 4000000 := by
    have h1 := Tr.dpLe t
    have h2 := hW.sz
    rw [Tr.szL, Tr.szL] at h2
    omega
  have HF := Lib.hid (fun (X : World) (hX : Below w.heap.size w X) => rFew16 d t.val.kind t.val.n t.val.fn t.val.name t.fst A4 n4 c4 hn X (hr.below (stabX d) hX))
  have H1 := Lib.hid (fun (X : World) (hX : Below w.heap.size w X) => iCheckX d t hs hW A4 n4 c4 hn ls AL nl cL hl X (hr.below (stabX d) hX) (hrl.below stabS hX))
  have H2 := Lib.hid (fun (X : World) (hX : Below w.heap.size w X) => rCheckX16 d t hs hnm hdp A4 n4 c4 hn ls AL nl cL hl X (hr.below (stabX d) hX) (hrl.below stabS hX))
  have H3 := Lib.hid (fun (X : World) (hX : Below w.heap.size w X) => iDepth16 d t hs A4 n4 c4 hn hW.sz X (hr.below (stabX d) hX))
  have H4 := Lib.hid (fun (X : World) (hX : Below w.heap.size w X) => rDepth16 d t hs hdp A4 n4 c4 hn X (hr.below (stabX d) hX))
  have HA := Lib.hid (fun (X : World) (hX : Below w.heap.size w X) => awake1 X (hT.below hX))
  obtain ⟨k, hk⟩ : ∃ k, t.val.kind = k := ⟨_, rfl⟩
  obtain ⟨m, hm⟩ : ∃ k, t.val.n = k := ⟨_, rfl⟩
  obtain ⟨s, hs'⟩ : ∃ k, t.val.name = k := ⟨_, rfl⟩
  obtain ⟨f, hf⟩ : ∃ k, t.val.fn = k := ⟨_, rfl⟩
  obtain ⟨r, hr'⟩ : ∃ k, chX ls t = k := ⟨_, rfl⟩
  obtain ⟨D, hD⟩ : ∃ k, Tr.dp t = k := ⟨_, rfl⟩
  rw [hk, hm, hs', hf] at HF H1 H2 H3 H4 ⊢
  rw [hr'] at H1 H2
  rw [hD] at H3 H4
  have hmx := hrl.max
  have hle := hrl.le
  rw [hl] at hle
  unfold maxLen at hmx
  clear hk hm hs' hf hr' hD hs hW hnm hdp hn hl hT hr hrl
  obtain ⟨W, hW⟩ : ∃ W, w.alloc (.cells (exC k m s f (.slice A4 n4 c4)) 37) = W := ⟨_, rfl⟩
  have B : Blk W w.heap.size 37 (exC k m s f (.slice A4 n4 c4)) := by rw [← hW]; exact Blk.new _ _ _
  have hb : Below w.heap.size w W := by rw [← hW]; exact belowAlloc _ _
  have HB := Lib.hid (And.intro hb B)
  have f0 : W.cell? ⟨w.heap.size, 0, none⟩ = some (.int .i64 k) := B.cell 0
  have f1 : W.cell? ⟨w.heap.size, 1, none⟩ = some (.int .i64 m) := B.cell 1
  have f2 : W.cell? ⟨w.heap.size, 2, none⟩ = some (.string s) := B.cell 2
  have f3 : W.cell? ⟨w.heap.size, 3, none⟩ = some (.int .i64 f) := B.cell 3
  have f4 : W.cell? ⟨w.heap.size, 4, none⟩ = some (.slice A4 n4 c4) := B.cell 4
  unfold exC at hW HF H1 H2 H3 H4 ⊢
  have HW := Lib.hid hW
  clear B hW hb
  go_enter Tryz.func4, Tryz.ntmps4
  go_upto_region 1 with fail
  rw [HW.out]
  go_wp2_with fail
  refine (HF.out _ HB.out.1).mono ?_
  rintro e w2 ⟨b, rfl, hb2⟩
  have HB2 := Lib.hid (And.intro (belowThen HB.out.1 hb2) (HB.out.2.below' hb2))
  clear hb2 f0 f1 f2 f3 f4 HB
  cases b
  · go_wp2_with fail
    refine (HA.out _ HB2.out.1).mono ?_
    rintro e w3 ⟨rfl, hb3⟩
    have HB3 := Lib.hid (belowThen HB2.out.1 hb3)
    clear hb3
    go_wp2_with fail
    go_ret
    exact ⟨rfl, HB3.out⟩
  · by_cases h100 : 100 < nl
    · go_wp2_with fail
      refine (HA.out _ HB2.out.1).mono ?_
      rintro e w3 ⟨rfl, hb3⟩
      have HB3 := Lib.hid (belowThen HB2.out.1 hb3)
      clear hb3
      go_wp2_with fail
      go_ret
      exact ⟨rfl, HB3.out⟩
    · have HS : Hid (∀ X : World, Below w2.heap.size w2 X → Below w2.heap.size w2 X ∧ X.cell? ⟨w.heap.size, 0, none⟩ = some (.int .i64 k) ∧ X.cell? ⟨w.heap.size, 1, none⟩ = some (.int .i64 m) ∧ X.cell? ⟨w.heap.size, 2, none⟩ = some (.string s) ∧ X.cell? ⟨w.heap.size, 3, none⟩ = some (.int .i64 f) ∧ X.cell? ⟨w.heap.size, 4, none⟩ = some (.slice A4 n4 c4)) := Lib.hid fun X hX =>
        have B := HB2.out.2.below' hX
        ⟨hX, B.cell 0, B.cell 1, B.cell 2, B.cell 3, B.cell 4⟩
      have HS0 := HS.out w2.drew ((Below.refl _ w2).drew)
      have C0 := Lib.hid (fun X (hX : Below w2.heap.size w2 X) => HA.out X (belowThen HB2.out.1 hX))
      have C1 := Lib.hid (fun X (hX : Below w2.heap.size w2 X) => H1.out X (belowThen HB2.out.1 hX))
      have C2 := Lib.hid (fun X (hX : Below w2.heap.size w2 X) => H2.out X (belowThen HB2.out.1 hX))
      have C3 := Lib.hid (fun X (hX : Below w2.heap.size w2 X) => H3.out X (belowThen HB2.out.1 hX))
      have C4 := Lib.hid (fun X (hX : Below w2.heap.size w2 X) => H4.out X (belowThen HB2.out.1 hX))
      clear HA H1 H2 H3 H4 HF
      go_wp2_with fail
      go_region_held3 (fun X => Below w2.heap.size w2 X ∧ X.cell? ⟨w.heap.size, 0, none⟩ = some (.int .i64 k) ∧ X.cell? ⟨w.heap.size, 1, none⟩ = some (.int .i64 m) ∧ X.cell? ⟨w.heap.size, 2, none⟩ = some (.string s) ∧ X.cell? ⟨w.heap.size, 3, none⟩ = some (.int .i64 f) ∧ X.cell? ⟨w.heap.size, 4, none⟩ = some (.slice A4 n4 c4)) (first | assumption | exact HS.out _ (by assumption)) (first
        | (go_at_call 15; refine (C0.out _ (‹Below w2.heap.size w2 _ ∧ _›).1).mono ?_; rintro e u1 ⟨rfl, y1⟩; have q1 := belowThen (‹Below w2.heap.size w2 _ ∧ _›).1 y1; clear C0)
        | (go_at_call 19; refine (C1.out _ (‹Below w2.heap.size w2 _ ∧ _›).1).mono ?_; rintro e u2 ⟨rfl, y2⟩; have q2 := belowThen (‹Below w2.heap.size w2 _ ∧ _›).1 y2; clear C1)
        | (go_at_call 20; refine (C2.out _ (‹Below w2.heap.size w2 _ ∧ _›).1).mono ?_; rintro e u3 ⟨rfl, y3⟩; have q3 := belowThen (‹Below w2.heap.size w2 _ ∧ _›).1 y3; clear C2)
        | (go_at_call 21; refine (C3.out _ (‹Below w2.heap.size w2 _ ∧ _›).1).mono ?_; rintro e u4 ⟨rfl, y4⟩; have q4 := belowThen (‹Below w2.heap.size w2 _ ∧ _›).1 y4; clear C3)
        | (go_at_call 22; refine (C4.out _ (‹Below w2.heap.size w2 _ ∧ _›).1).mono ?_; rintro e u5 ⟨rfl, y5⟩; have q5 := belowThen (‹Below w2.heap.size w2 _ ∧ _›).1 y5; clear C4))
      have hfin : Below w2.heap.size w2 u5 := q5
      go_wp2
      go_ret
      exact ⟨rfl, belowThen HB2.out.1 hfin⟩
end Go.Proofs.YtiaendggmamnkaaGreatDoor
