/-
  The contract of inst.Check: the first error of an instruction, where the tables are laid.
-/
import Derived.Test.YtebpnnakcodjdaaDoorZInT
import Derived.Test.YtebpnnakcodjdaaDoorZOwn
import Derived.Deep.QuietTactic
import Derived.BigQuiet
import Derived.Outline
import Derived.LoopTactic
import Derived.Deep.RegionHeld3
import Derived.Deep.CutRange
import Derived.Deep.DeepCutAuto
namespace Go.Proofs.YtebpnnakcodjdaaDoor
open Go.RowKit

theorem info7 : (Tryd.prog.info? 117).map (·.size) = some 7 := by kernel_rfl
theorem iContsAt (k a b c obj n fn ord : Int) (hi : (I8.mk8 k a b c obj n fn ord).Wf) (w : World) :
    Calls Tryd.prog 75 #[.agg #[.int .i64 k, .int .i64 a, .int .i64 b, .int .i64 c, .int .i64 obj, .int .i64 n, .int .i64 fn, .int .i64 ord]] w fun e w' => e = .returned (.agg #[.int .i64 a, .int .i64 b, .int .i64 c, .int .i64 obj, .int .i64 n, .int .i64 fn, .int .i64 ord]) ∧
      w' = (w.alloc (.cells #[.int .i64 k, .int .i64 a, .int .i64 b, .int .i64 c, .int .i64 obj, .int .i64 n, .int .i64 fn, .int .i64 ord] 47)).alloc (.cells #[.int .i64 a, .int .i64 b, .int .i64 c, .int .i64 obj, .int .i64 n, .int .i64 fn, .int .i64 ord] 117) := by
  have h1 : wrap64 fn = fn := by have := hi.fn; simp only [In64, wrap64] at *; omega
  have h2 : wrap64 ord = ord := by have := hi.ord; simp only [In64, wrap64] at *; omega
  clear hi
  go_enter Tryd.func75, Tryd.ntmps75
  go_wp2
  refine bodyPost_ret ((Blk.new1 w _ _ _).res rfl _ rfl Tryd.underlying117 rfl info7) rfl ?_
  exact ⟨rfl, rfl⟩

theorem vWrapQ (a : Int) (w : World) : Calls Tryd.prog 79 #[.int .i64 a] w fun e w' => e = .returned (.int .i64 (wrap32 a)) ∧ w' = w := (vWrap a w).mono fun _ _ h => ⟨h.1, h.2.symm⟩
theorem iIsRegN (o : Int) (r : Bool) (h : rgOk o = r) (w : World) :
    Calls Tryd.prog 76 #[.int .i64 o] w fun e w' => e = .returned (.bool r) ∧ w = w' := by subst h; exact iIsReg o w
theorem iIsOrdN (o : Int) (r : Bool) (h : orOk o = r) (w : World) :
    Calls Tryd.prog 77 #[.int .i64 o] w fun e w' => e = .returned (.bool r) ∧ w = w' := by subst h; exact iIsOrd o w
theorem Nm.below {W X : World} {B : Nat} (h : Nm W) (hb : Below B W X) (hB : W.heap.size ≤ B := by exact Nat.le_refl _) : Nm X := fun k hk => (hb.cell (Nat.lt_of_lt_of_le (World.block_lt_of_cell? _ _ (h k hk)) hB)).trans (h k hk)
theorem chkField {I : I8} (h : opOk I.op = true) {j : Nat} (hj : j < 7) (hf : I.fOk j = false) : I.chk = 9 := by
  have hfs : I.fs = false := by
    unfold I8.fs
    rcases j with _ | _ | _ | _ | _ | _ | _ | j
    all_goals first | omega | simp [hf]
  unfold I8.chk
  rw [if_neg (by simp [h]), if_pos hfs]
theorem chkReg {I : I8} (h : opOk I.op = true) (h2 : I.fs = true) (h3 : I.rs = false) : I.chk = 10 := by
  unfold I8.chk
  rw [if_neg (by simp [h]), if_neg (by simp [h2]), if_pos h3]
theorem chkOrd {I : I8} (h : opOk I.op = true) (h2 : I.fs = true) (h3 : I.rs = true) (h4 : orOk I.ord = false) : I.chk = 13 := by
  unfold I8.chk
  rw [if_neg (by simp [h]), if_neg (by simp [h2]), if_neg (by simp [h3]), if_pos h4]
theorem chkFn {I : I8} (h : opOk I.op = true) (h2 : I.fs = true) (h3 : I.rs = true) (h4 : orOk I.ord = true) (h5 : (I.u 5 && !fnOk I.fn) = true) : I.chk = 8 := by
  unfold I8.chk
  rw [if_neg (by simp [h]), if_neg (by simp [h2]), if_neg (by simp [h3]), if_neg (by simp [h4]), if_pos h5]
theorem chkN {I : I8} (h : opOk I.op = true) (h2 : I.fs = true) (h3 : I.rs = true) (h4 : orOk I.ord = true) (h5 : (I.u 5 && !fnOk I.fn) = false) (b : Bool) (h6 : (decide (I.op = 1) && !nOk I.n) = b) : I.chk = if b = true then 2 else 0 := by
  unfold I8.chk
  rw [if_neg (by simp [h]), if_neg (by simp [h2]), if_neg (by simp [h3]), if_neg (by simp [h4]), if_neg (by rw [h5]; simp), h6]
theorem heapAlloc (w : World) (o : Obj) : (w.alloc o).heap = w.heap.push o := rfl
theorem heapDrew (w : World) : w.drew.heap = w.heap := rfl
theorem belowDr {W X : World} (h : Below W.heap.size W X) : Below W.heap.size W X.drew := h.drew
theorem belowAl {W X : World} (h : Below W.heap.size W X) (o : Obj) : Below W.heap.size W (X.alloc o) := h.alloc h.size o
/-- What lies in memory while Check works. -/
structure ChkM (W : World) (n0 k : Nat) (a b c obj n fn ord : Int) (q0 q1 q2 q3 q4 q5 q6 : Bool) : Prop where
  box : Blk W n0 47 #[.int .i64 k, .int .i64 a, .int .i64 b, .int .i64 c, .int .i64 obj, .int .i64 n, .int .i64 fn, .int .i64 ord]
  row : ∀ f, f < 7 → W.cell? ⟨0, k * 8 + 1 + f, none⟩ = some (.bool ([q0, q1, q2, q3, q4, q5, q6].getD f false))
theorem ChkM.below {W X : World} {n0 k : Nat} {a b c obj n fn ord : Int} {q0 q1 q2 q3 q4 q5 q6 : Bool} (h : ChkM W n0 k a b c obj n fn ord q0 q1 q2 q3 q4 q5 q6) (hb : Below W.heap.size W X) : ChkM X n0 k a b c obj n fn ord q0 q1 q2 q3 q4 q5 q6 :=
  ⟨h.box.below' hb, fun f hf => (hb.cell (World.block_lt_of_cell? _ _ (h.row f hf))).trans (h.row f hf)⟩
theorem ChkM.facts {W : World} {n0 k : Nat} {a b c obj n fn ord : Int} {q0 q1 q2 q3 q4 q5 q6 : Bool} (h : ChkM W n0 k a b c obj n fn ord q0 q1 q2 q3 q4 q5 q6) :
    W.cell? ⟨n0, 0, none⟩ = some (.int .i64 (k : Int)) ∧ W.cell? ⟨n0, 1, none⟩ = some (.int .i64 a) ∧ W.cell? ⟨n0, 2, none⟩ = some (.int .i64 b) ∧ W.cell? ⟨n0, 3, none⟩ = some (.int .i64 c) ∧ W.cell? ⟨n0, 4, none⟩ = some (.int .i64 obj) ∧ W.cell? ⟨n0, 5, none⟩ = some (.int .i64 n) ∧ W.cell? ⟨n0, 6, none⟩ = some (.int .i64 fn) ∧ W.cell? ⟨n0, 7, none⟩ = some (.int .i64 ord) ∧ W.cell? ⟨0, k * 8 + 1, none⟩ = some (.bool q0) ∧ W.cell? ⟨0, k * 8 + 1 + 1, none⟩ = some (.bool q1) ∧ W.cell? ⟨0, k * 8 + 1 + 2, none⟩ = some (.bool q2) ∧ W.cell? ⟨0, k * 8 + 1 + 3, none⟩ = some (.bool q3) ∧ W.cell? ⟨0, k * 8 + 1 + 4, none⟩ = some (.bool q4) ∧ W.cell? ⟨0, k * 8 + 1 + 5, none⟩ = some (.bool q5) ∧ W.cell? ⟨0, k * 8 + 1 + 6, none⟩ = some (.bool q6) :=
  ⟨h.box.cell 0, h.box.cell 1, h.box.cell 2, h.box.cell 3, h.box.cell 4, h.box.cell 5, h.box.cell 6, h.box.cell 7, h.row 0 (by omega), h.row 1 (by omega), h.row 2 (by omega), h.row 3 (by omega), h.row 4 (by omega), h.row 5 (by omega), h.row 6 (by omega)⟩

set_option maxHeartbeats 1000000 in
/-- The contract of Check at an operation, by its number. -/
theorem iCheckIn (k : Nat) (h1 : 1 ≤ k) (h2 : k ≤ 22) (a b c obj n fn ord : Int) (hi : (I8.mk8 k a b c obj n fn ord).Wf) (w : World) (hT : InsT w) (hN : Nm w) :
    Calls Tryd.prog 67 #[(I8.mk8 k a b c obj n fn ord).val] w fun e w' => e = .returned (.int .i64 (I8.mk8 k a b c obj n fn ord).chk) ∧ Below w.heap.size w w' := by
  have ho : opOk (k : Int) = true := by simp [opOk]; omega
  have hk0 : (0 : Int) ≤ k := by omega
  have hk23 : (k : Int) < 23 := by omega
  have hkn : (k : Int).toNat = k := by omega
  obtain ⟨n0, hn0⟩ : ∃ n0, w.heap.size = n0 := ⟨_, rfl⟩
  obtain ⟨W, hW⟩ : ∃ W, w.alloc (.cells #[.int .i64 k, .int .i64 a, .int .i64 b, .int .i64 c, .int .i64 obj, .int .i64 n, .int .i64 fn, .int .i64 ord] 47) = W := ⟨_, rfl⟩
  have hbW : Below n0 w W := by rw [← hW, ← hn0]; exact belowAlloc w _
  have hbox : Blk W n0 47 #[.int .i64 k, .int .i64 a, .int .i64 b, .int .i64 c, .int .i64 obj, .int .i64 n, .int .i64 fn, .int .i64 ord] := by rw [← hW, ← hn0]; exact Blk.new w _ _
  obtain ⟨q0, hq0⟩ : ∃ u, us k 0 = u := ⟨_, rfl⟩
  obtain ⟨q1, hq1⟩ : ∃ u, us k 1 = u := ⟨_, rfl⟩
  obtain ⟨q2, hq2⟩ : ∃ u, us k 2 = u := ⟨_, rfl⟩
  obtain ⟨q3, hq3⟩ : ∃ u, us k 3 = u := ⟨_, rfl⟩
  obtain ⟨q4, hq4⟩ : ∃ u, us k 4 = u := ⟨_, rfl⟩
  obtain ⟨q5, hq5⟩ : ∃ u, us k 5 = u := ⟨_, rfl⟩
  obtain ⟨q6, hq6⟩ : ∃ u, us k 6 = u := ⟨_, rfl⟩
  have hm : ChkM W n0 k a b c obj n fn ord q0 q1 q2 q3 q4 q5 q6 := ⟨hbox, fun f hf => by
    have h := hT.us k f (by omega) hf
    rw [hbW.cell (by have := World.block_lt_of_cell? _ _ h; omega), h]
    rcases f with _ | _ | _ | _ | _ | _ | _ | f
    all_goals first | omega | simp [hq0, hq1, hq2, hq3, hq4, hq5, hq6]⟩
  obtain ⟨c0, c1, c2, c3, c4, c5, c6, c7, c8, c9, c10, c11, c12, c13, c14⟩ := hm.facts
  have HKP : Hid (∀ Y, Below W.heap.size W Y → Below W.heap.size W Y ∧ Y.cell? ⟨n0, 0, none⟩ = some (.int .i64 (k : Int)) ∧ Y.cell? ⟨n0, 1, none⟩ = some (.int .i64 a) ∧ Y.cell? ⟨n0, 2, none⟩ = some (.int .i64 b) ∧ Y.cell? ⟨n0, 3, none⟩ = some (.int .i64 c) ∧ Y.cell? ⟨n0, 4, none⟩ = some (.int .i64 obj) ∧ Y.cell? ⟨n0, 5, none⟩ = some (.int .i64 n) ∧ Y.cell? ⟨n0, 6, none⟩ = some (.int .i64 fn) ∧ Y.cell? ⟨n0, 7, none⟩ = some (.int .i64 ord) ∧ Y.cell? ⟨0, k * 8 + 1, none⟩ = some (.bool q0) ∧ Y.cell? ⟨0, k * 8 + 1 + 1, none⟩ = some (.bool q1) ∧ Y.cell? ⟨0, k * 8 + 1 + 2, none⟩ = some (.bool q2) ∧ Y.cell? ⟨0, k * 8 + 1 + 3, none⟩ = some (.bool q3) ∧ Y.cell? ⟨0, k * 8 + 1 + 4, none⟩ = some (.bool q4) ∧ Y.cell? ⟨0, k * 8 + 1 + 5, none⟩ = some (.bool q5) ∧ Y.cell? ⟨0, k * 8 + 1 + 6, none⟩ = some (.bool q6)) := Lib.hid fun Y h => ⟨h, (hm.below h).facts⟩
  have HM := Lib.hid hm; clear hm hbox
  have HI := Lib.hid hi; clear hi
  have HN := Lib.hid hN; clear hN
  clear hT
  have hv : (I8.mk8 k a b c obj n fn ord).val = .agg #[.int .i64 k, .int .i64 a, .int .i64 b, .int .i64 c, .int .i64 obj, .int .i64 n, .int .i64 fn, .int .i64 ord] := rfl
  rw [hv]
  clear hv
  obtain ⟨I, hI0⟩ : ∃ I, I8.mk8 k a b c obj n fn ord = I := ⟨_, rfl⟩
  rw [hI0]
  have HI0 := Lib.hid hI0
  clear hI0
  go_enter Tryd.func67, Tryd.ntmps67
  go_wp2_with fail
  refine (iIsOp _ _).mono ?_
  rintro e w' ⟨rfl, rfl⟩
  rw [ho]
  go_upto_region 3 with fail
  go_cut [3, 4] from 10 to 17 (fun s3 s4 wx => ∃ bu bc, s3 = .pointer (some ⟨bu, 0, none⟩) ∧ s4 = .pointer (some ⟨bc, 0, none⟩) ∧ Blk wx bu 113 #[.bool q0, .bool q1, .bool q2, .bool q3, .bool q4, .bool q5, .bool q6] ∧ Blk wx bc 117 #[.int .i64 a, .int .i64 b, .int .i64 c, .int .i64 obj, .int .i64 n, .int .i64 fn, .int .i64 ord] ∧ Below W.heap.size W wx)
  case first =>
    go_region_held3 (fun w' => Below W.heap.size W w' ∧ w'.cell? ⟨n0, 0, none⟩ = some (.int .i64 (k : Int)) ∧ w'.cell? ⟨n0, 1, none⟩ = some (.int .i64 a) ∧ w'.cell? ⟨n0, 2, none⟩ = some (.int .i64 b) ∧ w'.cell? ⟨n0, 3, none⟩ = some (.int .i64 c) ∧ w'.cell? ⟨n0, 4, none⟩ = some (.int .i64 obj) ∧ w'.cell? ⟨n0, 5, none⟩ = some (.int .i64 n) ∧ w'.cell? ⟨n0, 6, none⟩ = some (.int .i64 fn) ∧ w'.cell? ⟨n0, 7, none⟩ = some (.int .i64 ord) ∧ w'.cell? ⟨0, k * 8 + 1, none⟩ = some (.bool q0) ∧ w'.cell? ⟨0, k * 8 + 1 + 1, none⟩ = some (.bool q1) ∧ w'.cell? ⟨0, k * 8 + 1 + 2, none⟩ = some (.bool q2) ∧ w'.cell? ⟨0, k * 8 + 1 + 3, none⟩ = some (.bool q3) ∧ w'.cell? ⟨0, k * 8 + 1 + 4, none⟩ = some (.bool q4) ∧ w'.cell? ⟨0, k * 8 + 1 + 5, none⟩ = some (.bool q5) ∧ w'.cell? ⟨0, k * 8 + 1 + 6, none⟩ = some (.bool q6))
      ((refine HKP.out _ ?_; (first | assumption | ((repeat (first | refine belowDr ?_ | refine belowAl ?_ _)); (first | assumption | exact Below.refl _ W | exact And.left (by assumption))))))
      (first | (go_at_call 75; refine (iContsAt _ _ _ _ _ _ _ _ HI.out _).mono ?_; (rintro e w2 ⟨rfl, rfl⟩)))
    all_goals (
      go_wp2_with fail
      go_meet
      refine ⟨_, _, rfl, rfl, ?_, ?_, ?_⟩
      · (unfold Blk; simp only [heapAlloc, heapDrew, Array.getElem?_push, Array.size_push, Nat.add_assoc, Nat.reduceAdd]; simp)
      · (unfold Blk; simp only [heapAlloc, heapDrew, Array.getElem?_push, Array.size_push, Nat.add_assoc, Nat.reduceAdd]; simp)
      · (repeat (first | refine belowDr ?_ | refine belowAl ?_ _)); exact Below.refl _ W)
  case rest =>
    obtain ⟨bu, bc, rfl, rfl, hu, hc, hbc⟩ := hcut
    have HU := Lib.hid hu; clear hu
    have HC := Lib.hid hc; clear hc
    have HBC := Lib.hid hbc; clear hbc
    have HMC := Lib.hid (HM.out.below HBC.out)
    clear c0 c1 c2 c3 c4 c5 c6 c7 c8 c9 c10 c11 c12 c13 c14
    obtain ⟨c0, c1, c2, c3, c4, c5, c6, c7, -⟩ := HMC.out.facts
    have HQ : Hid (∀ f, f < 7 → us k f = [q0, q1, q2, q3, q4, q5, q6].getD f false) := Lib.hid fun f hf => by
      rcases f with _ | _ | _ | _ | _ | _ | _ | f
      all_goals first | omega | assumption
    clear hq0 hq1 hq2 hq3 hq4 hq5 hq6
    have hI := HI0.out
    have hop : opOk I.op = true := by rw [← hI]; exact ho
    have hbw : Below w.heap.size w wc := by rw [hn0]; exact hbW.trans (HBC.out.mono (hn0 ▸ hbW.size))
    go_wp2_with fail
    go_loopw [2, 17] (fun s i wr => ∃ j : Nat, j ≤ 7 ∧ s = .int .i64 0 ∧ i = .int .i64 j ∧ Hid (∀ f, f < j → I.fOk f = true) ∧ wr = wc) (fun _ i _ => 7 - (intOf i).toNat)
    case atStart => exact ⟨0, Nat.zero_le _, rfl, rfl, Lib.hid (fun f hf => by omega), rfl⟩
    case round =>
      obtain ⟨j, hj, rfl, rfl, HD, rfl⟩ := hrel
      by_cases hlt : j < 7
      · have hu : wr.cell? ⟨bu, j, none⟩ = some (.bool (us k j)) := by
          rw [HU.out.cell j, HQ.out j hlt]
          rcases j with _ | _ | _ | _ | _ | _ | _ | j
          all_goals first | omega | rfl
        have hc : wr.cell? ⟨bc, j, none⟩ = some (.int .i64 (I.con j)) := by
          rw [HC.out.cell j, ← hI]
          rcases j with _ | _ | _ | _ | _ | _ | _ | j
          all_goals first | omega | rfl
        have hfo : I.fOk j = (us k j || decide (I.con j = 0)) := by rw [← hI]; simp [I8.fOk, I8.u]
        have HF := Lib.hid hfo
        clear hfo
        generalize us k j = q at hu HF
        generalize I.con j = x at hc HF
        rcases q with _ | _
        · by_cases hx : x = 0
          · subst hx
            go_wp2
            go_roundw
            case rel => exact ⟨j + 1, by omega, rfl, by go_num, Lib.hid (fun f hf => by
              by_cases e : f = j
              · subst e; rw [HF.out]; rfl
              · exact HD.out f (by omega)), trivial⟩
            case measure => simp [intOf]; omega
          · have hx' : (x != 0) = true := by simpa using hx
            go_wp2
            go_ret
            refine ⟨retInt (chkField hop hlt ?_).symm, hbw⟩
            rw [HF.out, decide_eq_false hx]; rfl
        · go_wp2
          go_roundw
          case rel => exact ⟨j + 1, by omega, rfl, by go_num, Lib.hid (fun f hf => by
              by_cases e : f = j
              · subst e; rw [HF.out]; rfl
              · exact HD.out f (by omega)), trivial⟩
          case measure => simp [intOf]; omega
      · have hfs : I.fs = true := by
          have h := HD.out
          simp only [I8.fs, h 0 (by omega), h 1 (by omega), h 2 (by omega), h 3 (by omega), h 4 (by omega), h 5 (by omega), h 6 (by omega), Bool.and_self]
        have HFS := Lib.hid hfs
        have h5 := HU.out.cell 5
        simp only [List.getElem?_toArray, List.getElem?_cons_zero, List.getElem?_cons_succ] at h5
        have HQ5 : Hid (I.u 5 = q5) := Lib.hid (by rw [← hI]; simpa [I8.u] using HQ.out 5 (by omega))
        clear hfs
        obtain ⟨ra, hra⟩ : ∃ r, rgOk a = r := ⟨_, rfl⟩
        obtain ⟨rb, hrb⟩ : ∃ r, rgOk b = r := ⟨_, rfl⟩
        obtain ⟨rc, hrc⟩ : ∃ r, rgOk c = r := ⟨_, rfl⟩
        obtain ⟨ro, hro⟩ : ∃ r, orOk ord = r := ⟨_, rfl⟩
        have hrs : I.rs = (ra && rb && rc) := by rw [← hI, ← hra, ← hrb, ← hrc]; rfl
        have hor : orOk I.ord = ro := by rw [← hI, ← hro]
        have hIf : I.fn = fn := by rw [← hI]
        have hIo : I.op = (k : Int) := by rw [← hI]
        have hIn : I.n = n := by rw [← hI]
        have HRA := Lib.hid hra; clear hra
        have HRB := Lib.hid hrb; clear hrb
        have HRC := Lib.hid hrc; clear hrc
        have HRO := Lib.hid hro; clear hro
        have HRS := Lib.hid hrs; clear hrs
        have HOR := Lib.hid hor; clear hor
        have HIF := Lib.hid hIf; clear hIf
        have HIO := Lib.hid hIo; clear hIo
        have HIN := Lib.hid hIn; clear hIn
        have HOP := Lib.hid hop; clear hop
        clear HD HQ HU HC
        cases ra with
        | false =>
          go_wp2_with (go_at_call 76; refine (iIsRegN _ _ HRA.out _).mono ?_; rintro e w' ⟨rfl, rfl⟩)
          go_ret
          exact ⟨retInt (chkReg HOP.out HFS.out (by rw [HRS.out]; rfl)).symm, hbw⟩
        | true =>
          cases rb with
          | false =>
            go_wp2_with (go_at_call 76; (first | with_reducible refine (iIsRegN a _ HRA.out _).mono ?_ | with_reducible refine (iIsRegN b _ HRB.out _).mono ?_); rintro e w' ⟨rfl, rfl⟩)
            go_ret
            exact ⟨retInt (chkReg HOP.out HFS.out (by rw [HRS.out]; rfl)).symm, hbw⟩
          | true =>
            cases rc with
            | false =>
              go_wp2_with (go_at_call 76; (first | with_reducible refine (iIsRegN a _ HRA.out _).mono ?_ | with_reducible refine (iIsRegN b _ HRB.out _).mono ?_ | with_reducible refine (iIsRegN c _ HRC.out _).mono ?_); rintro e w' ⟨rfl, rfl⟩)
              go_ret
              exact ⟨retInt (chkReg HOP.out HFS.out (by rw [HRS.out]; rfl)).symm, hbw⟩
            | true =>
              cases ro with
              | false =>
                go_wp2_with (first
                  | (go_at_call 76; (first | with_reducible refine (iIsRegN a _ HRA.out _).mono ?_ | with_reducible refine (iIsRegN b _ HRB.out _).mono ?_ | with_reducible refine (iIsRegN c _ HRC.out _).mono ?_); rintro e w' ⟨rfl, rfl⟩)
                  | (go_at_call 77; refine (iIsOrdN ord _ HRO.out _).mono ?_; rintro e w' ⟨rfl, rfl⟩))
                go_ret
                exact ⟨retInt (chkOrd HOP.out HFS.out (by rw [HRS.out]; rfl) HOR.out).symm, hbw⟩
              | true =>
                have HRS' : Hid (I.rs = true) := Lib.hid (by rw [HRS.out]; rfl)
                cases q5 with
                | true =>
                  go_wp2_with (first
                    | (go_at_call 76; (first | with_reducible refine (iIsRegN a _ HRA.out _).mono ?_ | with_reducible refine (iIsRegN b _ HRB.out _).mono ?_ | with_reducible refine (iIsRegN c _ HRC.out _).mono ?_); rintro e w' ⟨rfl, rfl⟩)
                    | (go_at_call 77; refine (iIsOrdN ord _ HRO.out _).mono ?_; rintro e w' ⟨rfl, rfl⟩)
                    | (go_at_call 78; refine (vName fn _ (HN.out.below hbw)).mono ?_; rintro e w' ⟨rfl, rfl⟩))
                  · have h : (nameOf fn).toList.isEmpty = true := by assumption
                    rw [nameEmpty] at h
                    go_ret
                    exact ⟨retInt (chkFn HOP.out HFS.out HRS'.out HOR.out (by rw [HQ5.out, HIF.out, h]; rfl)).symm, hbw⟩
                  · have h : (nameOf fn).toList.isEmpty = false := by assumption
                    rw [nameEmpty] at h
                    have H5 : Hid ((I.u 5 && !fnOk I.fn) = false) := Lib.hid (by rw [HQ5.out, HIF.out, h]; rfl)
                    clear h
                    by_cases hk : k = 1
                    · have hd : ((k : Int) == 1) = true := by subst hk; rfl
                      by_cases hw : wrap32 n = n
                      · have hne : (wrap32 n != n) = false := by simp [hw]
                        have HH := Lib.hid (chkN HOP.out HFS.out HRS'.out HOR.out H5.out false (by rw [HIN.out, nOk, decide_eq_true hw]; simp))
                        clear hw hk
                        go_quiet ((go_at_call 79; exact Calls.quiet_of_same (vWrapQ _ _)))
                        go_wp2
                        go_ret
                        exact ⟨retInt HH.out.symm, by first | exact belowDrewN hbw _ | (rw [← hn0]; exact belowDrewN hbw _)⟩
                      · have hne : (wrap32 n != n) = true := by simp [hw]
                        have HH := Lib.hid (chkN HOP.out HFS.out HRS'.out HOR.out H5.out true (by rw [HIN.out, HIO.out, nOk, decide_eq_false hw, hk]; rfl))
                        clear hw hk
                        go_quiet ((go_at_call 79; exact Calls.quiet_of_same (vWrapQ _ _)))
                        go_wp2
                        go_ret
                        exact ⟨retInt HH.out.symm, by first | exact belowDrewN hbw _ | (rw [← hn0]; exact belowDrewN hbw _)⟩
                    · have hd : ((k : Int) == 1) = false := by simp; omega
                      have HH := Lib.hid (chkN HOP.out HFS.out HRS'.out HOR.out H5.out false (by rw [HIO.out, decide_eq_false (by omega)]; rfl))
                      clear hk
                      go_quiet (fail)
                      go_wp2
                      go_ret
                      exact ⟨retInt HH.out.symm, by first | exact belowDrewN hbw _ | (rw [← hn0]; exact belowDrewN hbw _)⟩
                | false =>
                  have H5 : Hid ((I.u 5 && !fnOk I.fn) = false) := Lib.hid (by rw [HQ5.out]; rfl)
                  go_wp2_with (first
                    | (go_at_call 76; (first | with_reducible refine (iIsRegN a _ HRA.out _).mono ?_ | with_reducible refine (iIsRegN b _ HRB.out _).mono ?_ | with_reducible refine (iIsRegN c _ HRC.out _).mono ?_); rintro e w' ⟨rfl, rfl⟩)
                    | (go_at_call 77; refine (iIsOrdN ord _ HRO.out _).mono ?_; rintro e w' ⟨rfl, rfl⟩)
                    | fail)
                  by_cases hk : k = 1
                  · have hd : ((k : Int) == 1) = true := by subst hk; rfl
                    by_cases hw : wrap32 n = n
                    · have hne : (wrap32 n != n) = false := by simp [hw]
                      have HH := Lib.hid (chkN HOP.out HFS.out HRS'.out HOR.out H5.out false (by rw [HIN.out, nOk, decide_eq_true hw]; simp))
                      clear hw hk
                      go_quiet ((go_at_call 79; exact Calls.quiet_of_same (vWrapQ _ _)))
                      go_wp2
                      go_ret
                      exact ⟨retInt HH.out.symm, by first | exact belowDrewN hbw _ | (rw [← hn0]; exact belowDrewN hbw _)⟩
                    · have hne : (wrap32 n != n) = true := by simp [hw]
                      have HH := Lib.hid (chkN HOP.out HFS.out HRS'.out HOR.out H5.out true (by rw [HIN.out, HIO.out, nOk, decide_eq_false hw, hk]; rfl))
                      clear hw hk
                      go_quiet ((go_at_call 79; exact Calls.quiet_of_same (vWrapQ _ _)))
                      go_wp2
                      go_ret
                      exact ⟨retInt HH.out.symm, by first | exact belowDrewN hbw _ | (rw [← hn0]; exact belowDrewN hbw _)⟩
                  · have hd : ((k : Int) == 1) = false := by simp; omega
                    have HH := Lib.hid (chkN HOP.out HFS.out HRS'.out HOR.out H5.out false (by rw [HIO.out, decide_eq_false (by omega)]; rfl))
                    clear hk
                    go_quiet (fail)
                    go_wp2
                    go_ret
                    exact ⟨retInt HH.out.symm, by first | exact belowDrewN hbw _ | (rw [← hn0]; exact belowDrewN hbw _)⟩

theorem iCheckNo (i : I8) (h : opOk i.op = false) (w : World) :
    Calls Tryd.prog 67 #[i.val] w fun e w' => e = .returned (.int .i64 8) ∧ Below w.heap.size w w' := by
  obtain ⟨op, a, b, c, obj, n, fn, ord⟩ := i
  have h : opOk op = false := h
  have hb := belowAlloc w (.cells #[.int .i64 op, .int .i64 a, .int .i64 b, .int .i64 c, .int .i64 obj, .int .i64 n, .int .i64 fn, .int .i64 ord] 47)
  simp only [I8.val]
  go_enter Tryd.func67, Tryd.ntmps67
  go_wp2_with fail
  refine (iIsOp _ _).mono ?_
  rintro e w' ⟨rfl, rfl⟩
  rw [h]
  go_wp2
  go_ret
  exact ⟨rfl, hb⟩
/-- Check: the first error of an instruction. -/
theorem iCheck (i : I8) (r : Int) (hr : i.chk = r) (hi : i.Wf) (w : World) (hT : InsT w) (hN : Nm w) :
    Calls Tryd.prog 67 #[i.val] w fun e w' => e = .returned (.int .i64 r) ∧ Below w.heap.size w w' := by
  subst hr
  cases h : opOk i.op with
  | false =>
    have e : i.chk = 8 := by unfold I8.chk; rw [if_pos h]
    rw [e]
    exact iCheckNo i h w
  | true =>
    have h' := h
    simp only [opOk, decide_eq_true_eq] at h'
    obtain ⟨op, a, b, c, obj, n, fn, ord⟩ := i
    obtain ⟨k, rfl⟩ : ∃ k : Nat, op = k := ⟨op.toNat, by have := h'.1; simp only at this; omega⟩
    simp only at h'
    exact iCheckIn k (by omega) (by omega) a b c obj n fn ord hi w hT hN
end Go.Proofs.YtebpnnakcodjdaaDoor
