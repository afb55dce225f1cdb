/-
  The contract of stepsTo: for each number the fewest steps to the target.
-/
import Derived.Test.YtpfdhjmhoggioaaRStM
import Derived.Deep.OwnRows
namespace Go.Proofs.Ytpfdhjmhoggioaa
open Go.RowKit Go.Maps

/-- The call returns a row of its own that tells the steps; nothing that was in memory has changed. -/
def GivesN (S : Nat → Nat) (n : Nat) (w : World) (e : Ending) (w' : World) : Prop := ∃ g, e = .returned (.slice (some ⟨g, 0, none⟩) n n) ∧ RowI w' g n S ∧ w.heap.size ≤ g ∧ Below w.heap.size w w'
theorem OwnI.setCell {w : World} {base g i : Nat} {v u : Value} {l : List Int} (h : OwnI w base v l) (hg : g < base) : OwnI (w.setCell ⟨g, i, none⟩ u) base v l :=
  h.chg (Chg.setCell w ⟨g, i, none⟩ u) fun k hk => by have := (h.lt hk).1; show k ≠ g; omega
theorem chgBase {a b : World} {B : Nat} (h : Below B a b) : Chg a b (fun k => k < B) := ⟨h.os, h.tape, h.output, h.size, fun k _ hk => h.block k hk⟩
set_option maxRecDepth 100000 in
set_option maxHeartbeats 4000000 in
theorem iSteps (N : Nat) (hN : N ≤ 64) (f : Nat → Nat → Bool) (b : Nat) (hb : b < N) (A : Option Addr) (c : Nat) (w : World) (ha : RdF w A c (sucI N fun x y => f y x) N) :
    Calls Try.prog 40 #[.int .i64 b, .slice A N c] w (GivesN (fun x => dst N f x b) N w) := by
  have hle := ha.le
  have hmx := ha.max
  unfold maxLen at hmx
  have HA := Lib.hid ha; clear ha
  have hmk := run_make_row' (P := Try.prog) 33 3 (.int .i64 0) 8 Try.underlying33 infoInt rfl .i64 .i64 N (by omega) (by omega)
  obtain ⟨W1, hW1⟩ : ∃ W1, w.alloc (.cells (madeCells #[.int .i64 0] N) 3) = W1 := ⟨_, rfl⟩
  have hz1 : W1.heap.size = w.heap.size + 1 := by rw [← hW1]; simp
  have b1 : Below w.heap.size w W1 := by rw [← hW1]; exact belowAlloc _ _
  have hrow : RowI W1 w.heap.size N (fun _ => 0) := rowINew (by rw [← hW1]; exact heap_alloc_new w _) (by unfold maxLen; omega)
  obtain ⟨W2, hW2⟩ : ∃ W2, W1.alloc (.cells #[.int .i64 b] 3) = W2 := ⟨_, rfl⟩
  have b2 : Below W1.heap.size W1 W2 := by rw [← hW2]; exact belowAlloc _ _
  have HRW := Lib.hid ((hrow.chg (Chg.ofBelow b2 fun _ => True) trivial).congr (T := dsU N f b (1 - 1)) fun x _ => dsUzero.symm)
  have HR2 : Hid (Rd W2 (some ⟨w.heap.size + 1, 0, none⟩) 1 (ni [b])) := by rw [← hW2, ← hz1]; exact Lib.hid (Rd.lit W1 [(b : Int)] 3 (by simp))
  have hb2 := b1.trans (b2.mono b1.size)
  have hz2 : W2.heap.size = w.heap.size + 2 := by rw [← hW2]; simp [hz1]
  have HS1 := Lib.hid (show StR N f b 1 [b] from .inl ⟨rfl, rfl⟩)
  clear hrow b1 b2
  go_enter Try.func40, Try.ntmps40
  go_wp2
  clear hmk
  go_loopw [6, 7] (fun vd vr wr => ∃ (d m : Nat) (R : List Nat) (A2 : Option Addr) (c2 : Nat), 0 < d ∧ d ≤ N + 2 ∧ vd = .int .i64 d ∧ vr = .slice A2 m c2 ∧ Hid (R.length = m) ∧ m ≤ 1000 ∧ Hid (StR N f b d R) ∧ Hid (RowI wr w.heap.size N (dsU N f b (d - 1))) ∧ Hid (Rd wr A2 c2 (ni R)) ∧ Hid (∀ ad, A2 = some ad → ad.block ≠ w.heap.size) ∧ Below w.heap.size w wr ∧ w.heap.size < wr.heap.size) (fun vd _ _ => N + 2 - (intOf vd).toNat)
  case atStart => exact ⟨1, 1, [b], _, _, by omega, by omega, rfl, rfl, Lib.hid rfl, by omega, HS1, HRW, HR2, Lib.hid (fun ad e => by injection e with e; subst e; show w.heap.size + 1 ≠ w.heap.size; omega), hb2, by omega⟩
  case round =>
    clear HS1 HRW HR2 hb2 hz2 hW2 hW1 hz1
    obtain ⟨d, m, R, A2, c2, hd0, hd, rfl, rfl, HML, hm, HSR, HRW, HRD, HNE, hbr, hzr⟩ := hrel
    obtain ⟨wo, hwo⟩ : ∃ x, x = wr := ⟨wr, rfl⟩
    subst hwo
    by_cases hm0 : m = 0
    · subst hm0
      have hR0 : R = [] := List.eq_nil_of_length_eq_zero HML.out
      have HFIN : Hid (RowI wo w.heap.size N (fun x => dst N f x b)) := Lib.hid (HRW.out.congr fun x hx => stEnd (hR0 ▸ HSR.out) hx)
      clear hR0 HML HSR HRW HRD HNE
      go_wp2
      go_ret
      exact ⟨_, rfl, HFIN.out, Nat.le_refl _, hbr⟩
    · have hRne : R ≠ [] := fun e => hm0 (by rw [← HML.out, e]; rfl)
      have hdN := stMax HSR.out hRne
      have hmpos : 0 < m := by omega
      have hmp : decide (0 < m) = true := decide_eq_true hmpos
      have hle2 := HRD.out.le
      have hmx2 := Rd.max HRD.out
      unfold maxLen at hmx2
      rw [niLen, HML.out] at hle2
      clear hRne
      have HF0 := Lib.hid (OwnI.nil wo wo.heap.size)
      go_wp2
      go_loopw [25, 8] (fun vi vf wx => ∃ (i : Nat) (S : Nat → Nat) (F : List Nat), i ≤ m ∧ vi = .int .i64 i ∧ Hid (OwnI wx wo.heap.size vf (ni F)) ∧ Hid (RowI wx w.heap.size N S) ∧ Hid (StF N f b d (metBy f R i) S F) ∧ Hid (Chg wo wx (fun k => k ≠ w.heap.size))) (fun vi _ _ => m - (intOf vi).toNat)
      case atStart => exact ⟨0, _, [], Nat.zero_le _, rfl, HF0, HRW, Lib.hid (stStart.congr fun x _ => by simp [metBy]), Lib.hid (Chg.refl _ _)⟩
      case round =>
        clear HF0 HRW
        obtain ⟨i, S, F, hi, rfl, HF, HS, HST, HC⟩ := hrel
        obtain ⟨wx, hwx⟩ : ∃ x, x = wr := ⟨wr, rfl⟩
        subst hwx
        have hszx := HC.out.size
        by_cases hlt : i < m
        · have hil : i < (ni R).length := by rw [niLen, HML.out]; exact hlt
          have hiR : i < R.length := by rw [HML.out]; exact hlt
          have HRX := Lib.hid (HRD.out.chg HC.out fun ad e _ => HNE.out ad e)
          obtain ⟨ad, rfl, _, hci⟩ := HRX.out.one hil
          rw [niAt hiR] at hci
          obtain ⟨r, hr⟩ : ∃ r, R[i] = r := ⟨_, rfl⟩
          rw [hr] at hci
          have hrN : r < N := stRLt HSR.out hb (by rw [← hr]; exact List.getElem_mem hiR)
          have HRI := Lib.hid hr; clear hr
          have hbx : Below w.heap.size w wx := hbr.trans ⟨HC.out.os, HC.out.tape, HC.out.output, HC.out.size, fun k hk => HC.out.block k (by omega) (by omega)⟩
          obtain ⟨ad1, A3, c3, rfl, hlt1, hc3, hr3⟩ := HA.out.one hrN
          have hc3 := (hbx.cell (by rw [addBlock]; exact hlt1)).trans hc3
          have hsl := sucLen N (fun x y => f y x) r
          obtain ⟨L, hL⟩ : ∃ L, sucI N (fun x y => f y x) r = L := ⟨_, rfl⟩
          rw [hL] at hc3 hr3 hsl
          have HLE := Lib.hid hL; clear hL
          obtain ⟨ln, hln⟩ : ∃ k, L.length = k := ⟨_, rfl⟩
          rw [hln] at hc3 hsl
          have HLN := Lib.hid hln; clear hln
          have HR3 := Lib.hid hr3; clear hr3
          have hle3 := HR3.out.le
          have hmx3 := Rd.max HR3.out
          unfold maxLen at hmx3
          rw [HLN.out] at hle3
          go_wp2
          go_loopw [34, 8] (fun vj vf wy => ∃ (j : Nat) (S : Nat → Nat) (F : List Nat), j ≤ ln ∧ vj = .int .i64 j ∧ Hid (OwnI wy wo.heap.size vf (ni F)) ∧ Hid (RowI wy w.heap.size N S) ∧ Hid (StF N f b d (metIn f R i L j) S F) ∧ Hid (Chg wo wy (fun k => k ≠ w.heap.size))) (fun vj _ _ => ln - (intOf vj).toNat)
          case atStart => exact ⟨0, S, F, Nat.zero_le _, rfl, HF, HS, Lib.hid (HST.out.congr fun x _ => by simp [metIn]), HC⟩
          case round =>
            clear HF HS HST
            obtain ⟨j, S, F, hj, rfl, HF, HS, HST, HC2⟩ := hrel
            by_cases hjl : j < ln
            · have hjL : j < L.length := by rw [HLN.out]; exact hjl
              have hmem : L[j] ∈ sucI N (fun x y => f y x) r := by rw [HLE.out]; exact List.getElem_mem hjL
              obtain ⟨t, ht, htN, _⟩ := sucMem.1 hmem
              have hszy := HC2.out.size
              have hby : Below w.heap.size w wr := hbr.trans ⟨HC2.out.os, HC2.out.tape, HC2.out.output, HC2.out.size, fun k hk => HC2.out.block k (by omega) (by omega)⟩
              obtain ⟨ad3, rfl, _, hcj⟩ := (HR3.out.below hby).one hjL
              rw [ht] at hcj
              have HTE := Lib.hid ht; clear ht hmem
              have hct := HS.out.cell htN
              rcases Nat.eq_zero_or_pos (S t) with hS | hS
              · rw [hS] at hct
                have hfz := HS.out.frozen t
                have HNX := Lib.hid ((stHit HST.out hd0 htN hS).congr fun x _ => metInSucc hjL HTE.out x)
                have hfl := HST.out.len
                obtain ⟨Y, hY⟩ : ∃ Y, wr.setCell ⟨w.heap.size, t, none⟩ (.int .i64 d) = Y := ⟨_, rfl⟩
                have hzY : Y.heap.size = wr.heap.size := by rw [← hY]; simp
                have HSY : Hid (RowI Y w.heap.size N (setN S t d)) := by rw [← hY]; exact Lib.hid (HS.out.set t d)
                have HFY : Hid (OwnI Y wo.heap.size u8 (ni F)) := by rw [← hY]; exact Lib.hid (HF.out.setCell hzr)
                have HCY : Hid (Chg wo Y (fun k => k ≠ w.heap.size)) := by rw [← hY]; exact Lib.hid (HC2.out.trans (Chg.setCell wr ⟨w.heap.size, t, none⟩ _) fun _ _ h => h)
                have HRT : Hid (Rd (Y.alloc (.cells #[.int .i64 t] 3)) (some ⟨wr.heap.size, 0, none⟩) 1 [(t : Int)]) := by rw [← hzY]; exact Lib.hid (Rd.lit Y [(t : Int)] 3 (by simp))
                clear hS
                go_wp2_with (first
                  | (at_builtin; refine appI _ rfl (.tmp 47) (.tmp 49) rfl wo.heap.size _ _ rfl (HFY.out.alloc _) (some ⟨wr.heap.size, 0, none⟩) 1 1 [(t : Int)] rfl rfl HRT.out (by rw [niLen]; simp; omega) (by simp; omega) ?_; intro v1 w1 o1 _ b1; have O1 := Lib.hid o1; have B1 := Lib.hid b1; clear o1 b1)
                  | fail)
                have HC4 := Lib.hid ((Chg.alloc Y (.cells #[.int .i64 t] 3) (fun k => k < wo.heap.size)).trans (chgBase B1.out) fun _ _ h => h)
                have HS4 := Lib.hid (HSY.out.chg HC4.out hzr)
                have HC5 := Lib.hid (HCY.out.trans HC4.out fun _ h _ => h)
                have HO4 := Lib.hid (show OwnI w1 wo.heap.size v1 (ni (F ++ [t])) by rw [niApp]; exact O1.out)
                go_roundw
                case rel => exact ⟨j + 1, setN S t d, F ++ [t], by omega, by go_num, HO4, HS4, HNX, HC5⟩
                case measure => simp [intOf]; omega
              · have HNX := Lib.hid ((stMiss HST.out htN (by omega)).congr fun x _ => metInSucc hjL HTE.out x)
                obtain ⟨u, hu⟩ : ∃ u, S t = u := ⟨_, rfl⟩
                rw [hu] at hct hS
                have hq : ((u : Int) == 0) = false := by simp; omega
                clear hu
                go_wp2
                go_roundw
                case rel => exact ⟨j + 1, S, F, by omega, by go_num, HF, HS, HNX, HC2⟩
                case measure => simp [intOf]; omega
            · obtain rfl : j = ln := by omega
              have HNX := Lib.hid (HST.out.congr (Q := metBy f R (i + 1)) fun x hx => by
                have h := metInDone (f := f) hiR HRI.out (j := j) (n := N) (by rw [HLE.out, HLN.out]; exact Nat.le_refl _) hx
                rw [HLE.out] at h
                exact h)
              go_wp2
              go_roundw
              case rel => exact ⟨i + 1, S, F, by omega, by go_num, HF, HS, HNX, HC2⟩
              case measure => simp [intOf]; omega
        · obtain rfl : i = m := by omega
          obtain ⟨hS2, hR2⟩ := stDone (HST.out.congr fun x _ => metAll (by rw [HML.out]; exact Nat.le_refl _) x) hd0 HSR.out
          have hfl := HST.out.len
          obtain ⟨A4, c4, rfl, hr4, hb4⟩ := HF.out.rd
          rw [niLen]
          have HR4 := Lib.hid hr4; clear hr4
          have HR5 := Lib.hid hR2; clear hR2
          have HS5 := Lib.hid (show RowI wx w.heap.size N (dsU N f b (d + 1 - 1)) by rw [Nat.add_sub_cancel]; exact HS.out.congr hS2); clear hS2
          have HN5 := Lib.hid (show ∀ ad, A4 = some ad → ad.block ≠ w.heap.size from fun ad e => by have := hb4 ad e; omega); clear hb4
          have hbx : Below w.heap.size w wx := hbr.trans ⟨HC.out.os, HC.out.tape, HC.out.output, HC.out.size, fun k hk => HC.out.block k (by omega) (by omega)⟩
          go_wp2
          go_roundw
          case rel => exact ⟨d + 1, F.length, F, A4, c4, by omega, by omega, by go_num, rfl, Lib.hid rfl, by omega, HR5, HS5, HR4, HN5, hbx, by omega⟩
          case measure => simp [intOf]; omega
end Go.Proofs.Ytpfdhjmhoggioaa
