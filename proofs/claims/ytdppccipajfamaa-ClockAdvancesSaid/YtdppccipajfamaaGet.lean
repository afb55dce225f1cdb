/-
  The contracts of Get, of the comparison of two clocks, and of the pieces of merge.
-/
import Derived.Test.YtdppccipajfamaaVal
namespace Go.Proofs.Ytdppccipajfamaa
open Go.RowKit

set_option maxHeartbeats 400000 in
theorem iGet (l : Ck) (x : Int) (n : Nat) (hn : l.length = n) (r : Int) (hr : getC l x = r) (A : Option Addr) (c : Nat) (w : World) (ha : Rc w A c l) :
    Calls Try.prog 10 #[.slice A n c, .int .i64 x] w fun e w' => e = .returned (.int .i64 r) ∧ Below w.heap.size w w' := by
  have hla := ha.le
  have hca := ha.max
  unfold maxLen at hca
  have HA := Lib.hid ha; clear ha
  have HN := Lib.hid hn; clear hn
  rcases hv : vldB l with _ | _
  · have HR := Lib.hid (show r = 0 by rw [← hr, getC, if_neg (vldNo.1 hv)]); clear hr
    have HV := Lib.hid hv; clear hv
    go_enter Try.func10, Try.ntmps10
    go_wp2_with fail
    refine (iValid l n HN.out _ HV.out A c _ HA.out).mono ?_
    rintro e w1 ⟨rfl, b1⟩
    go_wp2
    go_ret
    exact ⟨retC HR.out.symm, b1⟩
  · have HR := Lib.hid (show cnt l x = r by rw [← hr, getC, if_pos (vldIff.1 hv)]); clear hr
    have HV := Lib.hid hv; clear hv
    go_enter Try.func10, Try.ntmps10
    go_wp2_with fail
    refine (iValid l n HN.out _ HV.out A c _ HA.out).mono ?_
    rintro e w1 ⟨rfl, b1⟩
    go_wp2
    go_loopw [12] (fun i wr => ∃ k : Nat, k ≤ n ∧ i = .int .i64 k ∧ Hid (cnt (l.drop k) x = r) ∧ Below w.heap.size w wr) (fun i _ => n - (intOf i).toNat)
    case atStart => exact ⟨0, Nat.zero_le _, rfl, HR, b1⟩
    case round =>
      obtain ⟨k, hk, rfl, HT, hb⟩ := hrel
      by_cases hlt : k < n
      · have hkl : k < l.length := by have := HN.out; omega
        obtain ⟨b, off, rfl, had, hc1, hc2⟩ := (HA.out.below hb).one hkl
        by_cases g1 : l[k].1 = x
        · have HX := Lib.hid ((cntHit hkl g1).symm.trans HT.out)
          have hg : (l[k].1 == x) = true := by simpa using g1
          clear g1
          generalize l[k].1 = y at *
          generalize l[k].2 = z at *
          go_wp2
          go_ret
          exact ⟨retC HX.out, hb.alloc hb.size _⟩
        · have HX := Lib.hid ((cntMiss hkl g1).symm.trans HT.out)
          have hg : (l[k].1 == x) = false := by simpa using g1
          generalize l[k].1 = y at *
          generalize l[k].2 = z at *
          go_wp2
          go_roundw
          case rel => exact ⟨k + 1, by omega, by go_num, HX, hb.alloc hb.size _⟩
          case measure => simp [intOf]; omega
      · have HX := Lib.hid ((cntEnd (by have := HN.out; omega)).symm.trans HT.out)
        go_wp2
        go_ret
        exact ⟨retC HX.out, hb⟩

set_option maxHeartbeats 400000 in
theorem rGet (l : Ck) (x : Int) (n : Nat) (hn : l.length = n) (r : Int) (hr : getC l x = r) (A : Option Addr) (c : Nat) (w : World) (ha : Rc w A c l) :
    Calls Try.prog 11 #[.slice A n c, .int .i64 x] w fun e w' => e = .returned (.int .i64 r) ∧ ∃ q, w' = w.drewN q := by
  have HA := Lib.hid ha; clear ha
  have HN := Lib.hid hn; clear hn
  rcases hv : vldB l with _ | _
  · have HR := Lib.hid (show r = 0 by rw [← hr, getC, if_neg (vldNo.1 hv)]); clear hr
    have HV := Lib.hid hv; clear hv
    go_enter Try.func11, Try.ntmps11
    go_wp2_with fail
    refine (rValid l n HN.out _ HV.out A c _ HA.out).mono ?_
    rintro e w1 ⟨rfl, q, rfl⟩
    go_wp2
    go_ret
    exact ⟨retC HR.out.symm, q, rfl⟩
  · have HR := Lib.hid (show cnt l x = r by rw [← hr, getC, if_pos (vldIff.1 hv)]); clear hr
    have HV := Lib.hid hv; clear hv
    go_enter Try.func11, Try.ntmps11
    go_wp2_with fail
    refine (rValid l n HN.out _ HV.out A c _ HA.out).mono ?_
    rintro e w1 ⟨rfl, q, rfl⟩
    go_wp2_with fail
    refine (rCount l x n HN.out _ HR.out A c _ (HA.out.drewN q)).mono ?_
    rintro e w1 ⟨rfl, rfl⟩
    go_wp2
    go_ret
    exact ⟨rfl, q, rfl⟩

theorem cMax (m n : Int) (w : World) : Calls Try.prog 31 #[.int .i64 m, .int .i64 n] w fun e w' => e = .returned (.int .i64 (max m n)) ∧ w = w' := by
  go_enter Try.func31, Try.ntmps31
  go_wp2
  all_goals
    go_ret
    exact ⟨retC (by omega), rfl⟩
theorem cMin (m n : Int) (w : World) : Calls Try.prog 32 #[.int .i64 m, .int .i64 n] w fun e w' => e = .returned (.int .i64 (min m n)) ∧ w = w' := by
  go_enter Try.func32, Try.ntmps32
  go_wp2
  all_goals
    go_ret
    exact ⟨retC (by omega), rfl⟩

set_option maxHeartbeats 400000 in
theorem iFirst (a b : Ck) (n m : Nat) (hn : a.length = n) (hm : b.length = m) (r : Int) (hr : fstA a b = r) (hpos : 0 < n ∨ 0 < m) (A B : Option Addr) (c d : Nat) (w : World) (ha : Rc w A c a) (hb : Rc w B d b) :
    Calls Try.prog 35 #[.slice A n c, .slice B m d] w fun e w' => e = .returned (.int .i64 r) ∧ ∃ q, w' = w.drewN q := by
  have HR := Lib.hid hr; clear hr
  rcases a with _ | ⟨p, a⟩
  · obtain rfl : n = 0 := by simpa using hn.symm
    rcases b with _ | ⟨q, b⟩
    · simp at hm; omega
    · have h3 : 0 < m := by simp at hm; omega
      obtain ⟨y, off, rfl, _, hd1, hd2⟩ := hb.one (k := 0) (by simp)
      rw [List.getElem_cons_zero, Nat.zero_mul, Nat.add_zero] at hd1
      clear hn hm ha hb hpos hd2
      go_enter Try.func35, Try.ntmps35
      go_wp2
      go_ret
      exact ⟨retC HR.out, 0, rfl⟩
  · have h1 : 0 < n := by simp at hn; omega
    have h2 : ((n : Int) == 0) = false := by simp; omega
    obtain ⟨x, off, rfl, _, hc1, hc2⟩ := ha.one (k := 0) (by simp)
    rw [List.getElem_cons_zero, Nat.zero_mul, Nat.add_zero] at hc1
    rcases b with _ | ⟨q, b⟩
    · obtain rfl : m = 0 := by simpa using hm.symm
      clear hn hm ha hb hpos hc2
      go_enter Try.func35, Try.ntmps35
      go_wp2
      go_ret
      exact ⟨retC HR.out, 0, rfl⟩
    · have h3 : 0 < m := by simp at hm; omega
      have h4 : ((m : Int) == 0) = false := by simp; omega
      obtain ⟨y, off', rfl, _, hd1, hd2⟩ := hb.one (k := 0) (by simp)
      rw [List.getElem_cons_zero, Nat.zero_mul, Nat.add_zero] at hd1
      clear hn hm ha hb hpos hc2 hd2
      go_enter Try.func35, Try.ntmps35
      go_wp2
      go_quiet (fail)
      go_wp2
      all_goals
        go_ret
        exact ⟨retC (by rw [← HR.out, fstA]; omega), _, rfl⟩

/-- s[k:]: the slice behind the first k ticks, under one name. -/
theorem cutC (A : Option Addr) (n c k : Nat) (hk : k ≤ n) (kz : Int) (hz : kz = (k : Int)) : ∃ T : Option Addr, (∀ W, (Instr.sliceAt 23 (.slice A n c) (some (.int .i64 kz)) none none).run Try.prog W = .ok (.slice T (n - k) (c - k)) W) ∧
    (∀ (w : World) (l : Ck), l.length = n → Rc w A c l → Rc w T (c - k) (l.drop k)) := by
  subst hz
  refine ⟨if c = k then A else A.map (·.add (k * 2)), fun W => ?_, fun w l hl hr => hr.drop k (by omega)⟩
  rw [run_sliceAt_slice (h := Try.underlying23), run_slice_l (ht := Try.underlying23) (h0 := by omega) (h1 := by omega)]
  have : (sizeOf (Try.prog.elem 23)).run Try.prog W = .ok 2 W := by kernel_rfl
  rw [this]
  simp [Result.andThen, sliced]

/-- What take returns. -/
def TakeP (l : Ck) (x : Int) (N : Int) (m : Nat) (A : Option Addr) (c : Nat) (w : World) (e : Ending) (w' : World) : Prop := (∃ T d, e = .returned (.tuple #[.int .i64 N, .slice T m d]) ∧ ∀ W, Rc W A c l → Rc W T d (tkR l x)) ∧ ∃ q, w' = w.drewN q
theorem retT {a b : Int} {T : Option Addr} {n m d : Nat} (h : a = b) (h' : n = m) : Ending.returned (.tuple #[.int .i64 a, .slice T n d]) = .returned (.tuple #[.int .i64 b, .slice T m d]) := by rw [h, h']
set_option maxHeartbeats 400000 in
theorem iTake (l : Ck) (x : Int) (n m : Nat) (hn : l.length = n) (N : Int) (hN : tkN l x = N) (hm : (tkR l x).length = m) (A : Option Addr) (c : Nat) (w : World) (ha : Rc w A c l) :
    Calls Try.prog 36 #[.slice A n c, .int .i64 x] w (TakeP l x N m A c w) := by
  have hla := ha.le
  have hca := ha.max
  unfold maxLen at hca
  have HN := Lib.hid hN; clear hN
  rcases l with _ | ⟨p, l⟩
  · obtain rfl : n = 0 := by simpa using hn.symm
    clear ha
    have HM := Lib.hid hm; clear hm hn
    go_enter Try.func36, Try.ntmps36
    go_wp2
    go_ret2
    exact ⟨⟨A, c, retT HN.out (by have := HM.out; simpa [tkR] using this), fun W h => h⟩, 0, rfl⟩
  · have h1 : 0 < n := by simp at hn; omega
    have h2 : ((n : Int) == 0) = false := by simp; omega
    have hnc : n ≤ c := by omega
    obtain ⟨b, off, rfl, _, hc1, hc2⟩ := ha.one (k := 0) (by simp)
    rw [List.getElem_cons_zero, Nat.zero_mul, Nat.add_zero] at hc1 hc2
    obtain ⟨T, hT, hR⟩ := cutC (some ⟨b, off, none⟩) n c 1 (by omega) 1 rfl
    have HX := Lib.hid (show ∀ W, Rc W (some ⟨b, off, none⟩) c (p :: l) → Rc W T (c - 1) l from fun W h => hR _ _ hn h); clear hR
    clear ha
    have HL := Lib.hid hn; clear hn
    have HM := Lib.hid hm; clear hm
    by_cases e : p.1 = x
    · have he : (p.1 != x) = false := by simpa using e
      have HN' := Lib.hid (show p.2 = N by rw [← HN.out, tkN, if_pos e])
      have HR := Lib.hid (show tkR (p :: l) x = l by rw [tkR, if_pos e])
      clear e
      generalize p.1 = y at *
      generalize p.2 = z at *
      go_enter Try.func36, Try.ntmps36
      go_wp2
      go_quiet (fail)
      go_wp2
      go_ret2
      exact ⟨⟨T, c - 1, retT HN'.out (by have h3 := HM.out; rw [HR.out] at h3; have h4 := HL.out; rw [List.length_cons] at h4; omega), fun W h => by rw [HR.out]; exact HX.out W h⟩, _, rfl⟩
    · have he : (p.1 != x) = true := by simpa using e
      have HN' := Lib.hid (show 0 = N by rw [← HN.out, tkN, if_neg e])
      have HR := Lib.hid (show tkR (p :: l) x = p :: l by rw [tkR, if_neg e])
      clear e
      generalize hy : p.1 = y at he hc1
      clear hy
      go_enter Try.func36, Try.ntmps36
      go_wp2
      go_ret2
      exact ⟨⟨_, c, retT HN'.out (by have h3 := HM.out; rw [HR.out] at h3; have h4 := HL.out; omega), fun W h => by rw [HR.out]; exact h⟩, 0, rfl⟩
end Go.Proofs.Ytdppccipajfamaa
