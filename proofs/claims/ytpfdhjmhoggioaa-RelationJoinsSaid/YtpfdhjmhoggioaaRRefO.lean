/-
  The contracts of the reference's Has, Inverse and Union.
-/
import Derived.Test.YtpfdhjmhoggioaaRRefN
import Derived.Test.YtpfdhjmhoggioaaRRefP
import Derived.Deep.RegionLaw
namespace Go.Proofs.Ytpfdhjmhoggioaa
open Go.RowKit Go.Maps

theorem memNo' {l : Prs} {k : Nat} (hk : l.length ≤ k) {x y : Int} (h : memP (l.take k) x y = false) : memP l x y = false := by rw [List.take_of_length_le hk] at h; exact h
theorem memYes' {l : Prs} {k : Nat} (hk : k < l.length) {x y : Int} (h : l[k].1 = x ∧ l[k].2 = y) : memP l x y = true := by
  unfold memP
  rw [decide_eq_true_iff]
  have := List.getElem_mem hk
  rwa [show l[k] = (x, y) from Prod.ext h.1 h.2] at this
theorem memStep' {l : Prs} {k : Nat} (hk : k < l.length) {x y : Int} (h : memP (l.take k) x y = false) (hn : ¬ (l[k].1 = x ∧ l[k].2 = y)) : memP (l.take (k + 1)) x y = false := by
  rw [← memPSucc hk, h, Bool.false_or, decide_eq_false_iff_not]
  rintro ⟨h1, h2⟩
  exact hn ⟨h1.symm, h2.symm⟩

set_option maxRecDepth 100000 in
set_option maxHeartbeats 2000000 in
theorem rHas (N : Int) (l : Prs) (n : Nat) (hn : l.length = n) (x y : Int) (r : Bool) (hr : hasR N l x y = r) (A : Option Addr) (c : Nat) (w : World) (ha : Rp w A c l) :
    Calls Try.prog 12 #[relV N A n c, .int .i64 x, .int .i64 y] w fun e w' => e = .returned (.bool r) ∧ Below w.heap.size w w' := by
  have hla := ha.le
  have hca := ha.max
  unfold maxLen at hca
  rw [hn] at hla
  have HN := Lib.hid hn; clear hn
  obtain ⟨W, hW⟩ : ∃ W, w.alloc (.cells #[.int .i64 N, .slice A n c] 24) = W := ⟨_, rfl⟩
  have HB0 : Hid (BoxR W w.heap.size N (.slice A n c)) := by rw [← hW]; exact Lib.hid (BoxR.new w N _)
  have hbW : Below w.heap.size w W := by rw [← hW]; exact belowAlloc w _
  have HA := Lib.hid (ha.below hbW); clear ha
  obtain ⟨c0, c1, _, _⟩ := HB0.out.facts
  go_enter Try.func12, Try.ntmps12
  rcases hv : okR N l with _ | _
  · have HV := Lib.hid hv
    have hr : r = false := by rw [← hr]; unfold hasR; rw [hv]; rfl
    subst hr
    clear hv
    go_wp2_with fail
    refine (rValid N l n HN.out false HV.out A c _ HA.out).mono ?_
    rintro e w1 ⟨rfl, b1⟩
    go_wp2
    go_ret
    exact ⟨rfl, belowThen hbW b1⟩
  · have HV := Lib.hid hv
    have HR := Lib.hid (show memP l x y = r by rw [← hr]; unfold hasR; rw [hv]; rfl)
    clear hv hr
    go_wp2_with fail
    refine (rValid N l n HN.out true HV.out A c _ HA.out).mono ?_
    rintro e w1 ⟨rfl, b1⟩
    have HB0 := Lib.hid (HB0.out.below b1)
    have HA := Lib.hid (HA.out.below b1)
    have hb1 := belowThen hbW b1
    obtain ⟨c0, c1, _, _⟩ := HB0.out.facts
    go_wp2
    go_loopw [7] (fun v wr => ∃ k : Nat, k ≤ n ∧ v = .int .i64 k ∧ Hid (memP (l.take k) x y = false) ∧ wr = w1) (fun v _ => n - (intOf v).toNat)
    case atStart => exact ⟨0, Nat.zero_le _, rfl, Lib.hid (by simp [memP]), rfl⟩
    case round =>
      obtain ⟨k, hk, rfl, HT, rfl⟩ := hrel
      by_cases hlt : k < n
      · have hkl : k < l.length := by have := HN.out; omega
        obtain ⟨b, off, rfl, had, hc1, hc2⟩ := HA.out.one hkl
        by_cases h1 : l[k].1 = x
        · by_cases h2 : l[k].2 = y
          · have HX := Lib.hid (HR.out.symm.trans (memYes' hkl ⟨h1, h2⟩))
            rw [h1] at hc1
            rw [h2] at hc2
            clear h1 h2
            have q1 : (x == x) = true := by simp
            have q2 : (y == y) = true := by simp
            go_wp2
            all_goals (go_ret; exact ⟨retB HX.out.symm, hb1⟩)
          · have HX := Lib.hid (memStep' hkl HT.out fun h => h2 h.2)
            rw [h1] at hc1
            generalize l[k].2 = v at *
            clear h1
            have q1 : (x == x) = true := by simp
            have q2 : (v == y) = false := by simpa using h2
            go_wp2
            all_goals first
              | exact ⟨⟨k + 1, by omega, by go_num, HX, rfl⟩, by simp [intOf]; omega⟩
              | (go_roundw; (case rel => exact ⟨k + 1, by omega, by go_num, HX, by first | trivial | rfl⟩); (case measure => simp [intOf]; omega))
        · have HX := Lib.hid (memStep' hkl HT.out fun h => h1 h.1)
          generalize l[k].1 = u at *
          generalize l[k].2 = v at *
          have q1 : (u == x) = false := by simpa using h1
          go_wp2
          all_goals first
            | exact ⟨⟨k + 1, by omega, by go_num, HX, rfl⟩, by simp [intOf]; omega⟩
            | (go_roundw; (case rel => exact ⟨k + 1, by omega, by go_num, HX, by first | trivial | rfl⟩); (case measure => simp [intOf]; omega))
      · have HX := Lib.hid (HR.out.symm.trans (memNo' (by have := HN.out; omega) HT.out))
        go_wp2
        go_ret
        exact ⟨retB HX.out.symm, hb1⟩

theorem hasSwp' {l m : Prs} (h : ∀ x y, (x, y) ∈ m ↔ (y, x) ∈ l) : hasP m = invT (hasP l) := by
  funext a b
  unfold invT hasP
  rw [decide_eq_decide]
  exact h _ _
/-- The pairs turned round. -/
def trn (l : Prs) : Prs := l.map fun p => (p.2, p.1)
theorem memTrn {l : Prs} {x y : Int} : (x, y) ∈ trn l ↔ (y, x) ∈ l := by
  unfold trn
  rw [List.mem_map]
  constructor
  · rintro ⟨⟨u, v⟩, h1, h2⟩
    simp only [Prod.mk.injEq] at h2
    rw [← h2.1, ← h2.2]; exact h1
  · intro h; exact ⟨(y, x), h, rfl⟩
theorem okTrn {N : Int} {l : Prs} (h : okR N l = true) : okR N (trn l) = true := by
  rw [okIff] at h ⊢
  refine ⟨h.1, h.2.1, fun p hp => ?_⟩
  have := h.2.2 (p.2, p.1) (memTrn.1 hp)
  unfold inR at this ⊢
  exact ⟨this.2.2.1, this.2.2.2, this.1, this.2.1⟩
theorem trnSucc {l : Prs} {k : Nat} (hk : k < l.length) : trn (l.take (k + 1)) = trn (l.take k) ++ [(l[k].2, l[k].1)] := by
  unfold trn
  rw [List.take_succ_eq_append_getElem hk, List.map_append]; rfl
theorem trnLen (l : Prs) : (trn l).length = l.length := by simp [trn]

set_option maxRecDepth 100000 in
set_option maxHeartbeats 2000000 in
theorem rInverse (N : Int) (l : Prs) (n : Nat) (hn : l.length = n) (hs : n ≤ 65536) (A : Option Addr) (c : Nat) (w : World) (ha : Rp w A c l) :
    Calls Try.prog 21 #[relV N A n c] w (GivesR (nrmN N l) (invL N l) w) := by
  have hla := ha.le
  have hca := ha.max
  unfold maxLen at hca
  rw [hn] at hla
  have HN := Lib.hid hn; clear hn
  obtain ⟨W, hW, hB0, hB1, hbW, hzW⟩ := twoBoxes w N 0 (.slice A n c) (.slice none 0 0)
  have HA1 := Lib.hid (ha.below hbW); clear ha
  have HB0 := Lib.hid hB0; clear hB0
  have HB1 := Lib.hid hB1; clear hB1
  obtain ⟨c0, c1, _, _⟩ := HB0.out.facts
  go_enter Try.func21, Try.ntmps21
  rcases hv : okR N l with _ | _
  · have HV := Lib.hid hv
    have e1 : nrmN N l = 0 := by unfold nrmN; rw [hv]; rfl
    have e2 : invL N l = [] := by unfold invL; rw [hv]; rfl
    rw [e1, e2]
    clear hv e1 e2
    go_wp2_with fail
    refine (rValid N l n HN.out false HV.out A c _ HA1.out).mono ?_
    rintro e w1 ⟨rfl, b1⟩
    have HB1 := Lib.hid (HB1.out.below b1)
    obtain ⟨c2, c3, f2, f3⟩ := HB1.out.facts
    go_wp2
    refine bodyPost_ret (ResR (HB1.out.stored 0 (.slice none 0 0)) rfl _ rfl) rfl ?_
    exact ⟨none, 0, rfl, Rp.nil, ((hbW.trans (b1.mono hbW.size)).setCell (Nat.le_succ _) _).setCell (Nat.le_succ _) _⟩
  · have HV := Lib.hid hv
    obtain ⟨k, rfl, hk⟩ := okNat hv
    have e1 : nrmN k l = k := by unfold nrmN; rw [hv]; rfl
    obtain ⟨L, e2⟩ : ∃ L, nrm k (invT (hasP l)) = L := ⟨_, rfl⟩
    have e3 : invL k l = L := by unfold invL; rw [hv, ← e2]; rfl
    have e4 : nrmN k (trn l) = k := by unfold nrmN; rw [okTrn hv]; rfl
    have e5 : nrmL k (trn l) = L := by unfold nrmL; rw [okTrn hv, ← e2, hasSwp' fun x y => memTrn]; rfl
    rw [e1, e3]
    have HNO := Lib.hid (fun n' (h' : (trn l).length = n') A' c' w' ha' => rNormal k (trn l) n' h' A' c' w' ha')
    rw [e4, e5] at HNO
    clear hv e1 e2 e3 e4 e5
    go_wp2_with fail
    refine (rValid k l n HN.out true HV.out A c _ HA1.out).mono ?_
    rintro e w1 ⟨rfl, b1⟩
    have HB0 := Lib.hid (HB0.out.below b1)
    have HB1 := Lib.hid (HB1.out.below b1)
    have HA2 := Lib.hid (HA1.out.below b1)
    have hbw := hbW.trans (b1.mono hbW.size)
    have hl0 := HB0.out.lt
    have hl1 := HB1.out.lt
    obtain ⟨c0, c1, _, _⟩ := HB0.out.facts
    go_wp2
    obtain ⟨X, hX⟩ : ∃ X, w1.alloc (.cells #[.int .i64 k, .slice none 0 0] 24) = X := ⟨_, rfl⟩
    rw [hX]
    have HBX : Hid (BoxR X w1.heap.size k (.slice none 0 0)) := by rw [← hX]; exact Lib.hid (BoxR.new w1 k _)
    have bX : Below w1.heap.size w1 X := by rw [← hX]; exact belowAlloc _ _
    have hzX : w1.heap.size + 1 ≤ X.heap.size := by rw [← hX]; simp
    clear c0 c1 hX
    go_loopw [4] (fun v wr => ∃ (i : Nat) (A' : Option Addr) (q c' : Nat), i ≤ n ∧ v = .int .i64 i ∧ Hid (OwnP wr (w1.heap.size + 1) (.slice A' q c') (trn (l.take i))) ∧ Hid ((trn (l.take i)).length = q) ∧ Hid (BoxR wr w1.heap.size k (.slice A' q c')) ∧ Below w1.heap.size w1 wr ∧ w1.heap.size + 1 ≤ wr.heap.size) (fun v _ => n - (intOf v).toNat)
    case atStart => exact ⟨0, none, 0, 0, Nat.zero_le _, rfl, Lib.hid (OwnP.nil _ _), Lib.hid rfl, HBX, bX, hzX⟩
    case round =>
      clear HBX bX hzX
      obtain ⟨i, A', q, c', hi, rfl, HO, HK, HBX, hb, hz⟩ := hrel
      obtain ⟨c0, c1, _, _⟩ := (HB0.out.below hb).facts
      obtain ⟨x0, x1, x2, x3⟩ := HBX.out.facts
      by_cases hlt : i < n
      · have hil : i < l.length := by have := HN.out; omega
        obtain ⟨b, off, rfl, had, hc1, hc2⟩ := (HA2.out.below hb).one hil
        have HX := Lib.hid (trnSucc hil)
        have hll : (trn (l.take i)).length ≤ 65536 := by rw [trnLen, List.length_take]; omega
        generalize l[i].1 = u at *
        generalize l[i].2 = v at *
        obtain ⟨Y, hY⟩ : ∃ Y, (wr.alloc (.cells #[.int .i64 v, .int .i64 u] 38)).drew = Y := ⟨_, rfl⟩
        have bY : Below wr.heap.size wr Y := by rw [← hY]; exact belowDrewN (belowAlloc wr _) 1
        have hzY : Y.heap.size = wr.heap.size + 1 := by rw [← hY]; show (wr.alloc _).heap.size = _; simp
        have HOY := Lib.hid (HO.out.below bY)
        have HRY : Hid (Rp Y (some ⟨wr.heap.size, 0, none⟩) 1 [(v, u)]) := by rw [← hY]; exact Lib.hid ((cellPair wr v u _).drewN 1)
        have HBY := Lib.hid (HBX.out.below bY)
        obtain ⟨z0, z1, z2, z3⟩ := HBY.out.facts
        obtain ⟨e0, e1, _, _⟩ := ((HB0.out.below hb).below bY).facts
        have hcY1 : Y.cell? ⟨b, off + i * 2, none⟩ = some (.int .i64 u) := (bY.cell (Nat.lt_of_lt_of_le had (Nat.le_refl _))).trans hc1
        have hcY2 : Y.cell? ⟨b, off + i * 2 + 1, none⟩ = some (.int .i64 v) := (bY.cell (Nat.lt_of_lt_of_le had (Nat.le_refl _))).trans hc2
        go_wp2
        go_region_law
          (first
            | (refine stepP _ (by rfl) (.tmp 20) (.tmp 34) (by rfl) (w1.heap.size + 1) _ _ (by rfl) HOY.out (some ⟨wr.heap.size, 0, none⟩) 1 1 [(v, u)] (by rfl) rfl HRY.out (by omega) (by omega) ?_; intro A1 k1 c2 w2 HO1 HK1 b2; have HB2 : Hid (BoxR w2 w1.heap.size k (.slice A' q c')) := Lib.hid ((b2.block _ (by omega)).trans HBY.out); obtain ⟨y0, y1, y2, y3⟩ := HB2.out.facts))
        all_goals (
          have bw2 : Below w1.heap.size w1 w2 := (hb.trans (bY.mono hb.size)).trans (b2.mono (by omega))
          have hz2 : w1.heap.size + 1 ≤ w2.heap.size := by have := b2.size; omega
          go_wp2
          go_roundw
          (case rel => exact ⟨i + 1, A1, k1, c2, by omega, by go_num, by rw [HX.out]; exact Lib.hid (HO1.out.setCell (by omega)), by rw [HX.out]; exact HK1, Lib.hid (HB2.out.stored1 _), belowSet bw2 _ _ (Nat.le_refl _), by simpa using hz2⟩)
          (case measure => simp [intOf]; omega))
      · obtain rfl : i = n := by omega
        have ht : l.take i = l := List.take_of_length_le (by rw [HN.out]; exact Nat.le_refl _)
        rw [ht] at HO HK
        obtain ⟨A2, c2, e, hr, _⟩ := HO.out.rd
        injection e with e1 e2 e3
        rw [HK.out] at e2
        subst e1; subst e3
        clear e2
        go_wp2_with fail
        refine (HNO.out _ HK.out _ _ _ hr).mono ?_
        rintro e w3 ⟨A3, c3, rfl, hr3, b3⟩
        have HR3 := Lib.hid hr3; clear hr3
        have hbz : Below w.heap.size w w3 := (hbw.trans (hb.mono hbw.size)).trans (b3.mono (Nat.le_trans hbw.size hb.size))
        have HB5 := Lib.hid ((HB1.out.below hb).below b3)
        obtain ⟨d0, d1, d2, d3⟩ := HB5.out.facts
        go_wp2
        refine bodyPost_ret (ResR (HB5.out.stored _ _) rfl _ rfl) rfl ?_
        exact ⟨_, _, rfl, HR3.out.stored HB5.out _ _, (hbz.setCell (Nat.le_succ _) _).setCell (Nat.le_succ _) _⟩
end Go.Proofs.Ytpfdhjmhoggioaa
