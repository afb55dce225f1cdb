/-
  The contract of Has: a valid relation holds the pair. The library's Index and Contains at pairs.
-/
import Derived.Test.YtpfdhjmhoggioaaRDef
import Derived.Test.YtpfdhjmhoggioaaRSame
namespace Go.Proofs.Ytpfdhjmhoggioaa
open Go.RowKit Go.Maps

theorem memNo {l : Prs} {k : Nat} (hk : l.length ≤ k) {x y : Int} (h : memP (l.take k) x y = false) : memP l x y = false := by rw [List.take_of_length_le hk] at h; exact h
theorem memYes {l : Prs} {k : Nat} (hk : k < l.length) {x y : Int} (h : x = l[k].1 ∧ y = l[k].2) : memP l x y = true := by
  unfold memP
  rw [decide_eq_true_iff, h.1, h.2]
  exact List.getElem_mem hk
theorem memStep {l : Prs} {k : Nat} (hk : k < l.length) {x y : Int} (h : memP (l.take k) x y = false) (hn : ¬ (x = l[k].1 ∧ y = l[k].2)) : memP (l.take (k + 1)) x y = false := by
  rw [← memPSucc hk, h, decide_eq_false hn]; rfl
set_option maxHeartbeats 2000000 in
theorem iIndexP (l : Prs) (n : Nat) (hn : l.length = n) (x y : Int) (A : Option Addr) (c : Nat) (w : World) (ha : Rp w A c l) :
    Calls Try.prog 47 #[.slice A n c, .agg #[.int .i64 x, .int .i64 y]] w fun e w' => ∃ z : Int, e = .returned (.int .i64 z) ∧ (memP l x y = true ∧ 0 ≤ z ∨ memP l x y = false ∧ z = -1) ∧ Below w.heap.size w w' := by
  obtain ⟨W, hW⟩ : ∃ W, w.alloc (.cells #[.int .i64 x, .int .i64 y] 38) = W := ⟨_, rfl⟩
  have hbW : Below w.heap.size w W := by rw [← hW]; exact belowAlloc w _
  have p0 : W.cell? ⟨w.heap.size, 0, none⟩ = some (.int .i64 x) := by rw [← hW]; simp
  have p1 : W.cell? ⟨w.heap.size, 1, none⟩ = some (.int .i64 y) := by rw [← hW]; simp
  have hla := ha.le
  have hca := ha.max
  unfold maxLen at hca
  rw [hn] at hla
  have HA := Lib.hid (ha.below hbW); clear ha
  have HN := Lib.hid hn; clear hn
  go_enter Try.func47, Try.ntmps47
  go_wp2
  go_loopw [8] (fun v wr => ∃ i q : Nat, i ≤ n ∧ v = .int .i64 i ∧ Hid (memP (l.take i) x y = false) ∧ wr = W.drewN q) (fun v _ => n - (intOf v).toNat)
  case atStart => exact ⟨0, 0, Nat.zero_le _, rfl, Lib.hid (by simp [memP]), rfl⟩
  case round =>
    obtain ⟨i, q, hi, rfl, HE, rfl⟩ := hrel
    by_cases hlt : i < n
    · have hil : i < l.length := by rw [HN.out]; exact hlt
      obtain ⟨b1, o1, rfl, _, h1, h2⟩ := HA.out.one hil
      by_cases he : x = l[i].1 ∧ y = l[i].2
      · have HX := Lib.hid (memYes hil he)
        obtain ⟨e1, e2⟩ := he
        rw [← e1] at h1
        rw [← e2] at h2
        clear e1 e2
        have heq : ∀ w', (Op.equalIn 10000 38 (.agg #[.int .i64 x, .int .i64 y]) (.agg #[.int .i64 x, .int .i64 y])).run Try.prog w' = .ok true w' := fun w' => by rw [eqPair]; simp
        go_wp2
        go_quiet (fail)
        go_wp2
        go_ret
        exact ⟨_, rfl, .inl ⟨HX.out, by omega⟩, belowDrewN (belowDrewN hbW _) _⟩
      · have HX := Lib.hid (memStep hil HE.out he)
        generalize l[i].1 = u at *
        generalize l[i].2 = v at *
        have heq : ∀ w', (Op.equalIn 10000 38 (.agg #[.int .i64 x, .int .i64 y]) (.agg #[.int .i64 u, .int .i64 v])).run Try.prog w' = .ok false w' := fun w' => by
          rw [eqPair]
          congr 1
          rw [← Bool.decide_and]
          exact decide_eq_false he
        go_wp2
        go_quiet (fail)
        go_wp2
        go_roundw
        case rel => exact ⟨i + 1, _, by omega, by go_num, HX, rfl⟩
        case measure => simp [intOf]; omega
    · have HX := Lib.hid (memNo (by rw [HN.out]; omega) HE.out)
      go_wp2
      go_ret
      exact ⟨_, rfl, .inr ⟨HX.out, rfl⟩, belowDrewN hbW _⟩
theorem iContainsP (l : Prs) (n : Nat) (hn : l.length = n) (x y : Int) (A : Option Addr) (c : Nat) (w : World) (ha : Rp w A c l) :
    Calls Try.prog 31 #[.slice A n c, .agg #[.int .i64 x, .int .i64 y]] w fun e w' => e = .returned (.bool (memP l x y)) ∧ Below w.heap.size w w' := by
  obtain ⟨W, hW⟩ : ∃ W, w.alloc (.cells #[.int .i64 x, .int .i64 y] 38) = W := ⟨_, rfl⟩
  have hbW : Below w.heap.size w W := by rw [← hW]; exact belowAlloc w _
  have p0 : W.cell? ⟨w.heap.size, 0, none⟩ = some (.int .i64 x) := by rw [← hW]; simp
  have p1 : W.cell? ⟨w.heap.size, 1, none⟩ = some (.int .i64 y) := by rw [← hW]; simp
  have HX := Lib.hid (iIndexP l n hn x y A c W (ha.below hbW))
  clear ha
  go_enter Try.func31, Try.ntmps31
  go_wp2_with fail
  refine HX.out.mono ?_
  rintro e w1 ⟨z, rfl, hz, b1⟩
  rcases hz with ⟨h, hz⟩ | ⟨h, rfl⟩
  · have hge : decide (z ≥ 0) = true := decide_eq_true hz
    go_wp2
    go_ret
    exact ⟨retB (by rw [h]), hbW.trans (b1.mono hbW.size)⟩
  · go_wp2
    go_ret
    exact ⟨retB (by rw [h]), hbW.trans (b1.mono hbW.size)⟩
set_option maxHeartbeats 1000000 in
theorem iHas (N : Int) (l : Prs) (n : Nat) (hn : l.length = n) (x y : Int) (A : Option Addr) (c : Nat) (w : World) (ha : Rp w A c l) :
    Calls Try.prog 11 #[relV N A n c, .int .i64 x, .int .i64 y] w fun e w' => e = .returned (.bool (hasR N l x y)) ∧ Below w.heap.size w w' := by
  obtain ⟨W, hW⟩ : ∃ W, w.alloc (.cells #[.int .i64 N, .slice A n c] 24) = W := ⟨_, rfl⟩
  have HB0 : Hid (BoxR W w.heap.size N (.slice A n c)) := by rw [← hW]; exact Lib.hid (BoxR.new w N _)
  have hbW : Below w.heap.size w W := by rw [← hW]; exact belowAlloc w _
  have HA := Lib.hid (ha.below hbW); clear ha
  have HN := Lib.hid hn; clear hn
  obtain ⟨c0, c1, _, _⟩ := HB0.out.facts
  rcases hv : okR N l with _ | _
  · have HV := Lib.hid hv
    have HR := Lib.hid (show hasR N l x y = false by unfold hasR; rw [hv]; rfl)
    clear hv
    go_enter Try.func11, Try.ntmps11
    go_wp2_with fail
    refine (iValid N l n HN.out false HV.out A c _ HA.out).mono ?_
    rintro e w1 ⟨rfl, b1⟩
    go_wp2
    go_ret
    exact ⟨retB HR.out.symm, hbW.trans (b1.mono hbW.size)⟩
  · have HV := Lib.hid hv
    obtain ⟨b, hb⟩ : ∃ b, memP l x y = b := ⟨_, rfl⟩
    have HM := Lib.hid hb
    have HR := Lib.hid (show hasR N l x y = b by unfold hasR; rw [hv, hb]; rfl)
    clear hv hb
    go_enter Try.func11, Try.ntmps11
    go_wp2_with fail
    refine (iValid N l n HN.out true HV.out A c _ HA.out).mono ?_
    rintro e w1 ⟨rfl, b1⟩
    have HA := Lib.hid (HA.out.below b1)
    obtain ⟨c0, c1, _, _⟩ := (HB0.out.below b1).facts
    have hb1 := hbW.trans (b1.mono hbW.size)
    go_wp2_with fail
    refine (iContainsP l n HN.out x y A c _ HA.out).mono ?_
    rintro e w2 ⟨rfl, b2⟩
    rw [HM.out]
    go_wp2
    go_ret
    exact ⟨retB HR.out.symm, hb1.trans (b2.mono hb1.size)⟩
end Go.Proofs.Ytpfdhjmhoggioaa
