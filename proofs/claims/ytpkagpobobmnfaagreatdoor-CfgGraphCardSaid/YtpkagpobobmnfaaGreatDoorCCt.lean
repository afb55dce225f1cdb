/-
  The specification's Check, successors and Next.
-/
import Derived.Test.YtpkagpobobmnfaaGreatDoorCCf
import Derived.Test.YtpkagpobobmnfaaGreatDoorCG3
import Derived.Deep.QuietTactic
import Derived.BigQuiet
namespace Go.Proofs.YtpkagpobobmnfaaGreatDoor
open Go Go.RowKit Go.Shelf

theorem rCkA (op a b c obj n fn ord r : Int) (hr : (I8.mk8 op a b c obj n fn ord).chk = r) (w : World) :
    Calls Tryz.prog 64 #[.agg #[.int .i64 op, .int .i64 a, .int .i64 b, .int .i64 c, .int .i64 obj, .int .i64 n, .int .i64 fn, .int .i64 ord]] w fun e w' => e = .returned (.int .i64 r) ∧ Below w.heap.size w w' := rCheck _ r hr w
theorem ret1I {a b : Int} (h : a = b) : Ending.returned (.int .i64 a) = .returned (.int .i64 b) := by rw [h]
set_option maxRecDepth 100000 in
set_option maxHeartbeats 4000000 in
theorem rCk12 (nm : ByteArray) (C : List I8) (n : Nat) (hn : C.length = n) (A : Option Addr) (c : Nat) (w : World) (h : CdW w A c C) :
    Calls Tryz.prog 30 #[fnV nm A n c] w fun e w' => e = .returned (.int .i64 (cfE C)) ∧ Below w.heap.size w w' := by
  obtain ⟨r, hrr⟩ : ∃ r, cfE C = r := ⟨_, rfl⟩
  rw [hrr]
  obtain ⟨W, hWE⟩ : ∃ W, w.alloc (.cells #[.string nm, .slice A n c] 24) = W := ⟨_, rfl⟩
  have hbW : Below w.heap.size w W := by rw [← hWE]; exact belowAlloc w _
  have hBF : Blk W w.heap.size 24 #[.string nm, .slice A n c] := by rw [← hWE]; exact Blk.new w _ _
  have HKF : Hid (∀ Y, Below W.heap.size W Y → Y.cell? ⟨w.heap.size, 1, none⟩ = some (.slice A n c)) := Lib.hid (fun Y hY => (hBF.below' hY).cell 1)
  have hr := h.rd
  have HI := Lib.hid (fun Y (hY : Below W.heap.size W Y) k (hk : k < C.length) => ((hr.below stabI hbW).below stabI hY).one hk)
  have hle := hr.le
  have hmx := hr.max
  rw [hn] at hle
  unfold maxLen at hmx
  have HN := Lib.hid hn
  have HW := Lib.hid hWE
  have HBW := Lib.hid hbW
  have hb0 := Below.refl W.heap.size W
  have f1 := HKF.out W hb0
  clear hbW hBF hWE hn hr h
  unfold fnV
  by_cases h64 : 64 < n
  · have HX : Hid (4 = r) := Lib.hid (by rw [← hrr]; unfold cfE; rw [if_pos (by rw [HN.out]; exact h64)])
    clear hrr
    go_enter Tryz.func30, Tryz.ntmps30
    go_wp2_with fail
    rw [HW.out]
    go_wp2
    all_goals first
      | (exfalso; omega)
      | (go_ret; exact ⟨ret1I HX.out, HBW.out⟩)
  have HR : Hid (cfF n (C.drop 0) = r) := Lib.hid (by rw [← hrr]; unfold cfE; rw [if_neg (by rw [HN.out]; exact h64), HN.out]; rfl)
  clear hrr
  go_enter Tryz.func30, Tryz.ntmps30
  go_wp2_with fail
  rw [HW.out]
  go_wp2_with fail
  go_loopw [3] (fun i wr => ∃ k : Nat, k ≤ n ∧ i = .int .i64 k ∧ Hid (Below W.heap.size W wr) ∧ Hid (cfF n (C.drop k) = r)) (fun i _ => n - (intOf i).toNat)
  case atStart => exact ⟨0, Nat.zero_le _, rfl, Lib.hid hb0, HR⟩
  case round =>
    clear f1
    obtain ⟨k, hk, rfl, HB, HE⟩ := hrel
    have f1 := HKF.out wr HB.out
    by_cases hlt : k < n
    · have hkl : k < C.length := by rw [HN.out]; exact hlt
      obtain ⟨q, off, hA, _, i0, i1, i2, i3, i4, i5, i6, i7⟩ := HI.out wr HB.out k hkl
      have hA : A = _ := hA
      subst hA
      have HI2 := Lib.hid (fun Y (hY : Below W.heap.size W Y) => HI.out Y hY k hkl)
      obtain ⟨ii, hii⟩ : ∃ x, C[k] = x := ⟨_, rfl⟩
      rw [hii] at i0 i1 i2 i3 i4 i5 i6 i7 HI2
      have HII := Lib.hid hii
      clear hii
      obtain ⟨op, ra, rb, rc, obj, m, fn, ord⟩ := ii
      simp only at i0 i1 i2 i3 i4 i5 i6 i7 HI2
      have hk0 : (0 : Int) ≤ k := by omega
      have hk1 : (k : Int) < n := by omega
      obtain ⟨e, he⟩ : ∃ e, (I8.mk8 op ra rb rc obj m fn ord).chk = e := ⟨_, rfl⟩
      have HC := Lib.hid (rCkA op ra rb rc obj m fn ord e he wr)
      by_cases hck : e = 0
      rotate_left
      · have HX : Hid (e = r) := Lib.hid (by
          rw [← HE.out, cfBad1 hkl (by rw [HII.out, he]; exact hck), HII.out, he])
        have hne : (e != 0) = true := by simpa using hck
        clear hck he
        go_wp2_with fail
        refine HC.out.mono ?_
        rintro e1 w2 ⟨rfl, b2⟩
        go_wp2
        go_ret
        exact ⟨ret1I HX.out, belowThen HBW.out (belowThen HB.out b2)⟩
      subst hck
      have F12 : Hid (((op = 4 ∨ op = 5) ∧ (m < 0 ∨ (n : Int) < m)) → 12 = r) := Lib.hid fun hc => by
        rw [← HE.out, cfBad2 hkl (by rw [HII.out, he]) ?_]
        rw [HII.out]
        unfold I8.jmp belB
        rcases hc.1 with h1 | h1 <;> rcases hc.2 with h2 | h2
        · simp [h1]; omega
        · simp [h1]; omega
        · simp [h1]; omega
        · simp [h1]; omega
      have F0 : Hid (¬ ((op = 4 ∨ op = 5) ∧ (m < 0 ∨ (n : Int) < m)) → cfF n (C.drop (k + 1)) = r) := Lib.hid fun hc => by
        rw [← HE.out, cfGo hkl (by rw [HII.out, he]) ?_]
        rw [HII.out]
        unfold I8.jmp belB
        by_cases h1 : op = 4 ∨ op = 5
        · have h2 : 0 ≤ m ∧ m ≤ n := by
            refine ⟨?_, ?_⟩
            · exact Int.not_lt.1 fun h => hc ⟨h1, .inl h⟩
            · exact Int.not_lt.1 fun h => hc ⟨h1, .inr h⟩
          rw [decide_eq_true h2.1, decide_eq_true (show m < ((n + 1 : Nat) : Int) by omega)]
          simp
        · rw [not_or] at h1
          simp [h1.1, h1.2]
      clear he
      go_wp2_with fail
      refine HC.out.mono ?_
      rintro e1 w2 ⟨rfl, b2⟩
      have HB2 := Lib.hid (belowThen HB.out b2)
      clear i0 i1 i2 i3 i4 i5 i6 i7 f1 HI2 b2
      obtain ⟨q2, off2, hA2, _, i0, i1, i2, i3, i4, i5, i6, i7⟩ := HI.out w2 HB2.out k hkl
      injection hA2 with hA2
      injection hA2 with e1 e2
      subst e1; subst e2
      rw [HII.out] at i0 i5
      simp only at i0 i5
      have f1 := HKF.out w2 HB2.out
      have HBD := Lib.hid (fun z => belowDrewN HB2.out z)
      clear i1 i2 i3 i4 i6 i7
      by_cases hj : op = 4 ∨ op = 5
      · by_cases hn0 : m < 0
        · have HX := Lib.hid (F12.out ⟨hj, .inl hn0⟩)
          have d1 : decide (m < 0) = true := decide_eq_true hn0
          clear hn0
          rcases hj with rfl | rfl
          all_goals (
            go_wp2_with fail
            go_quiet (fail)
            go_wp2
            go_ret
            exact ⟨ret1I HX.out, belowThen HBW.out (HBD.out _)⟩)
        · have d1 : decide (m < 0) = false := decide_eq_false hn0
          by_cases hn1 : (n : Int) < m
          · have HX := Lib.hid (F12.out ⟨hj, .inr hn1⟩)
            have d2 : decide ((n : Int) < m) = true := decide_eq_true hn1
            clear hn0 hn1
            rcases hj with rfl | rfl
            all_goals (
              go_wp2_with fail
              go_quiet (fail)
              go_wp2
              go_ret
              exact ⟨ret1I HX.out, belowThen HBW.out (HBD.out _)⟩)
          · have HX := Lib.hid (F0.out (fun hh => hh.2.elim hn0 hn1))
            have d2 : decide ((n : Int) < m) = false := decide_eq_false hn1
            clear hn0 hn1
            rcases hj with rfl | rfl
            all_goals (
              go_wp2_with fail
              go_quiet (fail)
              go_wp2
              go_roundw
              (case rel => exact ⟨k + 1, by omega, by go_num, Lib.hid (HBD.out _), HX⟩)
              (case measure => simp [intOf]; omega))
      · have z4 : (op == 4) = false := by simp; omega
        have z5 : (op == 5) = false := by simp; omega
        have HX := Lib.hid (F0.out fun hh => hj hh.1)
        clear hj
        go_wp2_with fail
        go_quiet (fail)
        go_wp2
        go_roundw
        case rel => exact ⟨k + 1, by omega, by go_num, Lib.hid (HBD.out _), HX⟩
        case measure => simp [intOf]; omega
    · have HX := Lib.hid ((cfEnd (len := n) (C := C) (k := k) (by rw [HN.out]; omega)).symm.trans HE.out)
      go_wp2
      all_goals first
        | (exfalso; omega)
        | (go_ret; exact ⟨ret1I HX.out, belowThen HBW.out HB.out⟩)
end Go.Proofs.YtpkagpobobmnfaaGreatDoor

namespace Go.Proofs.YtpkagpobobmnfaaGreatDoor
open Go Go.RowKit Go.Shelf

theorem mkOne9 (a : Int) : mk [a] = [a] := rfl
theorem scS1 {C : List I8} {k y : Nat} (h : sc C k = [y]) : scS C k = [(y : Int)] := by
  unfold scS
  rw [h]
  exact mkOne9 _
set_option maxRecDepth 100000 in
set_option maxHeartbeats 4000000 in
theorem rSucc (nm : ByteArray) (C : List I8) (hok : CfOk C) (n : Nat) (hn : C.length = n) (k : Nat) (hk : k < n) (A : Option Addr) (c : Nat) (w : World) (hr : RdE 8 EI w A c C) :
    Calls Tryz.prog 31 #[fnV nm A n c, .int .i64 (k : Int)] w (GivesL (scS C k) w) := by
  obtain ⟨W, hWE⟩ : ∃ W, w.alloc (.cells #[.string nm, .slice A n c] 24) = W := ⟨_, rfl⟩
  have hbW : Below w.heap.size w W := by rw [← hWE]; exact belowAlloc w _
  have hBF : Blk W w.heap.size 24 #[.string nm, .slice A n c] := by rw [← hWE]; exact Blk.new w _ _
  have HKF : Hid (∀ Y, Below W.heap.size W Y → Y.cell? ⟨w.heap.size, 1, none⟩ = some (.slice A n c)) := Lib.hid (fun Y hY => (hBF.below' hY).cell 1)
  have hkl : k < C.length := by omega
  have hrW := hr.below stabI hbW
  have hle := hr.le
  have hmx := hr.max
  have h64 := hok.len
  rw [hn] at hle h64
  unfold maxLen at hmx
  obtain ⟨q, off, hA, hq, i0, i1, i2, i3, i4, i5, i6, i7⟩ := hrW.one hkl
  subst hA
  have htg := hok.tgt C[k] (List.getElem_mem hkl)
  obtain ⟨ii, hii⟩ : ∃ x, C[k] = x := ⟨_, rfl⟩
  have hsc : sc C k = scI n k ii := by rw [scAt hkl, hii, hn]
  rw [hii] at i0 i1 i2 i3 i4 i5 i6 i7 htg
  obtain ⟨op, ra, rb, rc, obj, m, fn, ord⟩ := ii
  simp only at i0 i1 i2 i3 i4 i5 i6 i7
  have hk0 : (0 : Int) ≤ k := by omega
  have hk1 : (k : Int) < n := by omega
  obtain ⟨wb, hwb⟩ : ∃ x, W.alloc (.cells #[.int .i64 op, .int .i64 ra, .int .i64 rb, .int .i64 rc, .int .i64 obj, .int .i64 m, .int .i64 fn, .int .i64 ord] 55) = x := ⟨_, rfl⟩
  have hbb : Below W.heap.size W wb := by rw [← hwb]; exact belowAlloc W _
  have hbi : Blk wb W.heap.size 55 #[.int .i64 op, .int .i64 ra, .int .i64 rb, .int .i64 rc, .int .i64 obj, .int .i64 m, .int .i64 fn, .int .i64 ord] := by rw [← hwb]; exact Blk.new W _ _
  obtain ⟨j0, _, _, _, _, j5, _, _⟩ := boxFactsW hbi
  have f1 := HKF.out W (Below.refl _ _)
  have f2 := HKF.out wb hbb
  unfold I8.jmp at htg
  simp only at htg
  obtain ⟨k1, hk1e⟩ : ∃ k1, k + 1 = k1 := ⟨_, rfl⟩
  have hwk : IntKind.i64.wrap ((k : Int) + 1) = (k1 : Int) := by rw [IntKind.wrap_i64]; omega
  have HBB := Lib.hid (belowThen hbW hbb)
  have hzb : wb.heap.size = w.heap.size + 1 + 1 := by rw [← hwb, World.size_alloc, ← hWE, World.size_alloc]
  have HL1 := Lib.hid (fun y => hzb ▸ litI9 wb y 3)
  have HMK0 := Lib.hid (fun r hS => rMakeN [m, (k1 : Int)] 2 rfl r hS (by simp) (some ⟨w.heap.size + 1 + 1, 0, none⟩) 2 (wb.alloc (.cells #[.int .i64 m, .int .i64 (k1 : Int)] 3)) (hzb ▸ Rd.lit wb [m, (k1 : Int)] 3 (by simp)))
  have HB1 := Lib.hid (fun o => belowThen (belowThen hbW hbb) (belowAlloc wb o))
  clear hbW hBF hr hrW hbb hbi HKF hzb
  subst hwb
  subst hWE
  unfold fnV
  by_cases h4 : op = 4
  · subst h4
    have ht := htg (by simp)
    have hm : ((m.toNat : Nat) : Int) = m := by omega
    have hS : scS C k = [m] := by rw [scS1 (y := m.toNat) (by rw [hsc]; rfl), hm]
    rw [hS]
    clear htg hsc hii hok hn hS ht hm
    go_enter Tryz.func31, Tryz.ntmps31
    go_wp2
    go_ret
    exact ⟨_, _, rfl, HL1.out _, HB1.out _⟩
  have z4 : (op == 4) = false := by simpa using h4
  by_cases h7 : op = 7
  · subst h7
    have hS : scS C k = [(n : Int)] := scS1 (by rw [hsc]; rfl)
    rw [hS]
    clear htg hsc hii hok hn hS
    go_enter Tryz.func31, Tryz.ntmps31
    go_wp2
    go_ret
    exact ⟨_, _, rfl, HL1.out _, HB1.out _⟩
  have z7 : (op == 7) = false := by simpa using h7
  by_cases h5 : op = 5
  · subst h5
    have ht := htg (by simp)
    have hm : ((m.toNat : Nat) : Int) = m := by omega
    have hS : mk [m, (k1 : Int)] = scS C k := by
      unfold scS
      rw [hsc]
      unfold scI
      rw [if_neg (show ¬ ((5 : Int) = 4) by decide), if_pos rfl, List.map_cons, List.map_cons, List.map_nil]
      show _ = mk [((m.toNat : Nat) : Int), ((k + 1 : Nat) : Int)]
      rw [hm, hk1e]
    obtain ⟨r, hr⟩ : ∃ r, scS C k = r := ⟨_, rfl⟩
    rw [hr] at hS ⊢
    have HMK := Lib.hid (HMK0.out r hS)
    clear htg hsc hii hok hn hS ht hm hr
    go_enter Tryz.func31, Tryz.ntmps31
    go_wp2_with fail
    refine HMK.out.mono ?_
    rintro e w4 ⟨A4, c4, rfl, r4, b4⟩
    go_wp2
    go_ret
    exact ⟨A4, c4, rfl, r4, belowThen (HB1.out _) b4⟩
  have z5 : (op == 5) = false := by simpa using h5
  have hS : scS C k = [(k1 : Int)] := scS1 (by rw [hsc]; unfold scI; rw [if_neg h4, if_neg h5, if_neg h7, hk1e])
  rw [hS]
  clear htg hsc hii hok hn hS h4 h5 h7
  go_enter Tryz.func31, Tryz.ntmps31
  go_wp2
  go_ret
  exact ⟨_, _, rfl, HL1.out _, HB1.out _⟩
end Go.Proofs.YtpkagpobobmnfaaGreatDoor
