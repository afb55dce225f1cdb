/-
  The law ProgramNames holds: for every program and every string it returns true and leaves its arguments as they were, where the listed variables are laid as the program's text lays them.
-/
import Derived.Test.YtidjpmmagfcojaaDoorPhT
import Derived.Test.YtidjpmmagfcojaaDoorPhV
import Derived.BigQuiet
import Derived.Test.YtidjpmmagfcojaaDoorPgB
import Derived.Test.YtidjpmmagfcojaaDoorInsV
import Derived.Test.YtidjpmmagfcojaaDoorOpen
import Derived.Test.YtidjpmmagfcojaaDoorCards
import Derived.SevenTiedAt
import Derived.ShutString
import Derived.ChangeMaps5
import Derived.Carry
import Derived.Test.YtidjpmmagfcojaaDoorPhG
namespace Go.Proofs.YtidjpmmagfcojaaDoor
open Go Go.RowKit
def LawOkP (w : World) (e : Ending) (w' : World) : Prop := e = .returned (.bool true) ∧ Below w.heap.size w w'
end Go.Proofs.YtidjpmmagfcojaaDoor
namespace Go.Proofs.YtidjpmmagfcojaaDoor
open Go Go.RowKit

theorem sEqRefl (s : ByteArray) : sEq s s = true := by unfold sEq; simp
theorem fndOwn {s : ByteArray} : ∀ (l : List (ByteArray × List I8)) (k i : Nat) (hi : i < l.length), sEq l[i].1 s = true → ∃ (j : Nat) (hj : j < l.length), fndL s l k = some (k + j) ∧ j ≤ i ∧ sEq l[j].1 s = true
  | f :: r, k, i, hi, h => by
    by_cases e : sEq f.1 s = true
    · exact ⟨0, by simp, by rw [fndL, if_pos e]; rfl, Nat.zero_le _, e⟩
    · obtain ⟨i, rfl⟩ : ∃ m, i = m + 1 := ⟨i - 1, by
        rcases i with _ | i
        · exact absurd h e
        · rfl⟩
      obtain ⟨j, hj, h1, h2, h3⟩ := fndOwn r (k + 1) i (by simpa using hi) (by simpa using h)
      exact ⟨j + 1, by simpa using hj, by rw [fndL, if_neg e, h1]; congr 1; omega, by omega, by simpa using h3⟩
set_option maxRecDepth 100000 in
set_option maxHeartbeats 4000000 in
theorem lawNamesP {a : PgA} {p : Prg} (s : ByteArray) (hs : s.size ≤ maxLen) (w : World) (hP : PgW w a p) (hL : Laid7 w) : Calls Tryd.prog 4 #[a.val, .string s] w (LawOkP w) := by
  obtain ⟨W, hWE⟩ : ∃ W, w.alloc (.cells a.fs 27) = W := ⟨_, rfl⟩
  have hbW : Below w.heap.size w W := by rw [← hWE]; exact belowAlloc w _
  have hB : PBox W w.heap.size a := by rw [← hWE]; exact Blk.new w _ _
  have HK := Lib.hid (fun Y (hY : Below W.heap.size W Y) => (hB.below hY).facts)
  have HP := Lib.hid (fun Y (hY : Below W.heap.size W Y) => (hP.below hbW).below hY)
  have HF := Lib.hid (fun Y (hY : Below W.heap.size W Y) k (hk : k < p.funcs.length) => (HP.out Y hY).funcs.one hk)
  have H1 := Lib.hid (fun X (hX : Below W.heap.size W X) => rSmall X (HP.out X hX))
  have HFn := Lib.hid (fun t X (hX : Below W.heap.size W X) => iFunction t X (HP.out X hX))
  have HRn := Lib.hid (fun X (hX : Below W.heap.size W X) => rFunction s X (HP.out X hX))
  have HV1 := Lib.hid (fun X => iValidName s hs X)
  have HV2 := Lib.hid (fun X => rValidName s hs X)
  have HLV := Lib.hid (fun X (hX : Below W.heap.size W X) => livesP X ((hL.below hbW).below hX))
  have HFn2 := Lib.hid (HFn.out s)
  have HL := Lib.hid hP.l4
  have hle := hP.funcs.le
  have hm := hP.funcs.max
  rw [hP.l4] at hle
  unfold maxLen at hm hs
  have HW := Lib.hid hWE
  have HBW := Lib.hid hbW
  generalize nameB s = nb at HV1 HV2
  generalize p.fnd s = rr at HFn2 HRn
  obtain ⟨A1, n1, c1, A2, n2, c2, A3, n3, c3, A4, n4, c4, A5, n5, c5⟩ := a
  simp only [PgA.val, PgA.fs] at *
  clear hP hL hB hbW hWE
  cases hsm : p.small
  · rw [hsm] at H1
    clear hsm
    go_enter Tryd.func4, Tryd.ntmps4
    go_wp2_with fail
    rw [HW.out]
    refine (H1.out _ (Below.refl _ _)).mono ?_
    rintro e w1 ⟨rfl, b1⟩
    go_wp2_with fail
    refine (HLV.out _ b1).mono ?_
    rintro e w2 ⟨rfl, b2⟩
    go_wp2
    go_ret
    exact ⟨rfl, belowThen HBW.out (belowThen b1 b2)⟩
  rw [hsm] at H1
  clear hsm
  by_cases h100 : 100 < s.size
  · go_enter Tryd.func4, Tryd.ntmps4
    go_wp2_with fail
    rw [HW.out]
    refine (H1.out _ (Below.refl _ _)).mono ?_
    rintro e w1 ⟨rfl, b1⟩
    go_wp2_with fail
    refine (HLV.out _ b1).mono ?_
    rintro e w2 ⟨rfl, b2⟩
    go_wp2
    go_ret
    exact ⟨rfl, belowThen HBW.out (belowThen b1 b2)⟩
  go_enter Tryd.func4, Tryd.ntmps4
  go_wp2_with fail
  rw [HW.out]
  refine (H1.out _ (Below.refl _ _)).mono ?_
  rintro e w1 ⟨rfl, b1⟩
  go_wp2
  go_loopw [5] (fun i wr => ∃ k : Nat, k ≤ n4 ∧ i = .int .i64 k ∧ Below W.heap.size W wr) (fun i _ => n4 - (intOf i).toNat)
  case atStart => exact ⟨0, Nat.zero_le _, rfl, b1⟩
  case round =>
    obtain ⟨k, hk, rfl, hb⟩ := hrel
    obtain ⟨g0, g1, g2, g3, g4⟩ := HK.out wr hb
    by_cases hlt : k < n4
    · have hkl : k < p.funcs.length := by rw [HL.out]; exact hlt
      obtain ⟨j, hj, hf1, hf2, hf3⟩ := fndOwn p.funcs 0 k hkl (sEqRefl _)
      have hfn : p.fnd (p.funcs[k]).1 = some j := by unfold Prg.fnd; rw [hf1]; congr 1; omega
      have hjn : j < n4 := by have : p.funcs.length = n4 := HL.out; omega
      obtain ⟨q, off, hA, hql, h1, _⟩ := HF.out wr hb k hkl
      obtain ⟨q2, off2, hA2, _, h2, _⟩ := HF.out wr hb j hj
      have hA : A4 = _ := hA
      have hA2 : A4 = _ := hA2
      rw [hA] at hA2
      injection hA2 with hA2
      injection hA2 with e1 e2
      subst e1 e2 hA
      have HC := Lib.hid (HFn.out (p.funcs[k]).1)
      rw [hfn] at HC
      have HKP : Hid (∀ Y, Below wr.heap.size wr Y → Below W.heap.size W Y ∧ Y.cell? ⟨q, off + k * 2, none⟩ = some (.string (p.funcs[k]).1) ∧ Y.cell? ⟨q, off + j * 2, none⟩ = some (.string (p.funcs[j]).1) ∧ Y.cell? ⟨w.heap.size, 0, none⟩ = some (.slice A1 n1 c1) ∧ Y.cell? ⟨w.heap.size, 1, none⟩ = some (.slice A2 n2 c2) ∧ Y.cell? ⟨w.heap.size, 2, none⟩ = some (.slice A3 n3 c3) ∧ Y.cell? ⟨w.heap.size, 3, none⟩ = some (.slice (some ⟨q, off, none⟩) n4 c4) ∧ Y.cell? ⟨w.heap.size, 4, none⟩ = some (.slice A5 n5 c5)) := Lib.hid fun Y hY => ⟨belowThen hb hY, (hY.cell (World.block_lt_of_cell? _ _ h1)).trans h1, (hY.cell (World.block_lt_of_cell? _ _ h2)).trans h2, HK.out Y (belowThen hb hY)⟩
      have hbd : Below wr.heap.size wr wr.drew := (Below.refl _ wr).drew
      have HBR := Lib.hid hb
      generalize (p.funcs[k]).1 = x at HC h1 HKP hf3
      generalize (p.funcs[j]).1 = y at h2 HKP hf3
      unfold sEq at hf3
      have hk0 : (0 : Int) ≤ k := by omega
      have hk1 : (k : Int) < n4 := by omega
      have hj0 : (0 : Int) ≤ j := by omega
      have hj1 : (j : Int) < n4 := by omega
      have hjk : ¬ (k : Int) < j := by omega
      clear hf1 hfn hql
      go_wp2_with fail
      go_region_held3 (fun w' => Below W.heap.size W w' ∧ w'.cell? ⟨q, off + k * 2, none⟩ = some (.string x) ∧ w'.cell? ⟨q, off + j * 2, none⟩ = some (.string y) ∧ w'.cell? ⟨w.heap.size, 0, none⟩ = some (.slice A1 n1 c1) ∧ w'.cell? ⟨w.heap.size, 1, none⟩ = some (.slice A2 n2 c2) ∧ w'.cell? ⟨w.heap.size, 2, none⟩ = some (.slice A3 n3 c3) ∧ w'.cell? ⟨w.heap.size, 3, none⟩ = some (.slice (some ⟨q, off, none⟩) n4 c4) ∧ w'.cell? ⟨w.heap.size, 4, none⟩ = some (.slice A5 n5 c5))
        (first
          | with_reducible assumption
          | with_reducible exact HKP.out _ hbd
          | exact HKP.out _ (belowThen hbd bk))
        (first | (go_at_call 16; refine (HC.out _ (‹Below W.heap.size W _ ∧ _›).1).mono ?_; rintro e wa ⟨he, bk⟩; have he : e = .returned (.tuple #[.int .i64 (j : Int), .bool true]) := he; subst he))
      have hall := ‹Below W.heap.size W _ ∧ _›
      obtain ⟨hb5, r1, r2, r3, r4, r5, r6, r7⟩ := hall
      have HB5 := Lib.hid hb5
      clear r3 r4 r5 r7 hb5 g0 g1 g2 g3 g4 h1 h2 HKP
      go_wp2_with fail
      go_quiet (fail)
      go_wp2
      go_roundw
      case rel => exact ⟨k + 1, by omega, by go_num, belowDrewN HB5.out _⟩
      case measure => simp [intOf]; omega
    · cases rr with
      | none =>
        go_wp2_with fail
        refine (HFn2.out _ hb).mono ?_
        rintro e w2 ⟨he, b2⟩
        have he : e = .returned (.tuple #[.int .i64 0, .bool false]) := he
        subst he
        have B2 := belowThen hb b2
        obtain ⟨g0, g1, g2, g3, g4⟩ := HK.out w2 B2
        go_wp2_with fail
        refine (HRn.out _ B2).mono ?_
        rintro e w3 ⟨he, b3⟩
        have he : e = .returned (.tuple #[.int .i64 0, .bool false]) := he
        subst he
        have B3 := belowThen B2 b3
        go_wp2_with fail
        refine (HV1.out _).mono ?_
        rintro e w4 ⟨rfl, rfl⟩
        go_wp2_with fail
        refine (HV2.out _).mono ?_
        rintro e w4 ⟨rfl, rfl⟩
        go_wp2_with fail
        refine (HLV.out _ B3).mono ?_
        rintro e w5 ⟨rfl, b5⟩
        go_wp2
        go_ret
        exact ⟨rfl, belowThen HBW.out (belowThen B3 b5)⟩
      | some m =>
        go_wp2_with fail
        refine (HFn2.out _ hb).mono ?_
        rintro e w2 ⟨he, b2⟩
        have he : e = .returned (.tuple #[.int .i64 (m : Int), .bool true]) := he
        subst he
        have B2 := belowThen hb b2
        obtain ⟨g0, g1, g2, g3, g4⟩ := HK.out w2 B2
        go_wp2_with fail
        refine (HRn.out _ B2).mono ?_
        rintro e w3 ⟨he, b3⟩
        have he : e = .returned (.tuple #[.int .i64 (m : Int), .bool true]) := he
        subst he
        have B3 := belowThen B2 b3
        go_wp2_with fail
        refine (HV1.out _).mono ?_
        rintro e w4 ⟨rfl, rfl⟩
        go_wp2_with fail
        refine (HV2.out _).mono ?_
        rintro e w4 ⟨rfl, rfl⟩
        go_wp2_with fail
        refine (HLV.out _ B3).mono ?_
        rintro e w5 ⟨rfl, b5⟩
        go_wp2
        go_ret
        exact ⟨rfl, belowThen HBW.out (belowThen B3 b5)⟩
end Go.Proofs.YtidjpmmagfcojaaDoor

namespace Go.Proofs.YtidjpmmagfcojaaDoor.programNames
open Go Go.ChangeShapes Go.WideShapes Go.ChangeAt Go.WideMaps Go.WideElems Go.RowKit Go.ChangeMaps

set_option maxRecDepth 100000 in
theorem lifted (os : Os) (started : os.Started) (H : Type) (enc : TypeId × Value → H) :
    ReturnsInHanded {} Tryd.checked os 4 .any (fun w args => (Rows.programNamesSpec.pre enc Tryd.prog Tryd.f4 [] false w args ∧ laidMetH Tryd.prog laidA w) ∧ sizedMet enc Tryd.prog Tryd.f4 (OpenSpec.ofChange Rows.programNamesSpec) false w args)
      (Rows.programNamesSpec.post enc Tryd.prog Tryd.f4 false true false false) := by
  refine returnsInHanded_of_change_and (C := Tryd.checked) (X := fun w _ => laidMetH Tryd.prog laidA w) (fun _ _ _ hh h => h.of_heap hh) ownKnob0 started (by kernel_rfl) Tryd.func4
    (ChangeSpec.witness_shaped (enc := enc) (C := Tryd.checked) (os := os) (X := fun w _ => laidMetH Tryd.prog laidA w) false (World.doorLaid Tryd.prog 400 os) #[.agg #[.slice none 0 0, .slice none 0 0, .slice none 0 0, .slice none 0 0, .slice none 0 0], .string ⟨#[]⟩] 8 rfl (World.shaped_of_RefB (by kernel_rfl) (by kernel_rfl)) (by kernel_rfl) (by kernel_rfl) (by kernel_rfl) (doorA os _)) ?_
  intro W base args ds gs before hval0 hW _ _ hL _
  have hval : ∀ (j : Nat) t v, Tryd.f4.params[j]? = some t → args[j]? = some v → Value.okWide Tryd.prog W .any base t v := hval0
  have hW' := hW
  obtain ⟨p, q, hA0, hV, rfl, hfz, hnd⟩ := hW
  have hA : DataW.TrodAll enc Tryd.prog W 0 (fun _ => true) true Tryd.f4.params.toList args.toList ds p := hA0
  rw [Tryd.params4] at hA hval
  obtain ⟨v0, vs0, d0, ds0, p0, q0, hargs, rfl, rfl, h0, r0⟩ := trodAll_cons hA
  obtain ⟨v1, vs1, d1, ds1, p1, q1, rfl, rfl, rfl, h1, r1⟩ := trodAll_cons r0
  obtain ⟨rfl, rfl, rfl⟩ := trodAll_nil r1
  obtain rfl : args = #[v0, v1] := by cases args; simp_all
  obtain ⟨rfl, rfl⟩ := trodVars_none hV
  have g0 := h0
  have g1 := h1
  obtain ⟨a0, pg0, rfl, pw0, _⟩ := openPg (hval 0 27 v0 rfl rfl) h0
  obtain ⟨a1, rfl, rfl, rfl, w1⟩ := open_string Tryd.underlying9 (hval 1 9 v1 rfl rfl) h1
  clear hA0 hval0
  simp only [List.append_nil] at hW'
  refine (lawNamesP a1 w1 W pw0 (metA hL)).mono fun e W' ⟨he, hb⟩ => ?_
  subst he
  exact ⟨_, rfl, _, _, _, [], _, [], hW', trodAll_cons_mk (shut_bool Tryd.underlying4 _) trodAll_mk0, trodAll_cons_mk (Below.trod laidOut0 (by kernel_rfl) (of_decide_eq_true (by kernel_rfl)) g0 hb (fun y hy => by simpa using hW'.lt y (by simp [hy]))) (trodAll_cons_mk (Below.trod laidOut0 (by kernel_rfl) (of_decide_eq_true (by kernel_rfl)) g1 hb (fun y hy => by cases hy)) (trodAll_mk0)), rfl, hb.frame _, fun h => by cases h⟩

theorem over : Rows.programNamesRow.holds Tryd.pinned (OpenSpec.ofChange Rows.programNamesSpec) :=
  OpenClaim.holds_of_wide 4 Tryd.f4 rfl rfl rfl rfl rfl rfl rfl ⟨rfl, rfl, rfl, rfl, rfl⟩ rfl rfl rfl rfl rfl (by kernel_rfl) Tryd.func4 (by kernel_rfl)
    (of_decide_eq_true (by kernel_rfl)) (by unfold Func.isWrapper; first | (rw [if_pos (by decide +kernel)]; kernel_rfl) | (rw [if_neg (by decide +kernel)]; exact ⟨rfl, rfl⟩))
    (fun os started H enc _ => lifted os started H enc)

theorem proved : Rows.ProgramNamesCardSaid :=
  Claim7.holds_tied_plain_at .later [] [.data, .data] true Rows.programNamesCard.stood.harness false
    over (fun _ h => by cases h) (by kernel_rfl) (fun _ h => by cases h) programNames_row_tie rfl ⟨rfl, rfl⟩ (by kernel_rfl) rfl
    (fun f fn hf hfn => by
      obtain rfl : f = 4 := Option.some.inj ((show Tryd.prog.funcNamed Rows.programNamesRow.func = some 4 by kernel_rfl).symm.trans hf) |>.symm
      obtain rfl : fn = Tryd.f4 := (Option.some.inj (Tryd.func4.symm.trans hfn)).symm
      exact ⟨by kernel_rfl, fun j t ht => by
        rw [Tryd.params4] at ht
        have hm : t ∈ [27, 9] := by simpa using Array.mem_of_getElem? ht
        have hall : ([27, 9].all fun u => !Tryd.prog.wantsStandIn u) = true := by kernel_rfl
        exact (show Tryd.prog.wantsStandIn t = false by simpa using List.all_eq_true.1 hall t hm)⟩)
    (by kernel_rfl)
#print axioms proved
end Go.Proofs.YtidjpmmagfcojaaDoor.programNames
