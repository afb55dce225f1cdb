/-
  The contract of the reference's closed: the table of the transitive closure.
-/
import Derived.Test.YtjioiaeiggjneaaDoorKRDef
import Derived.Test.YtjioiaeiggjneaaDoorKRRefT
namespace Go.Proofs.YtjioiaeiggjneaaDoor
open Go.RowKit Go.Maps

/-- The call returns a table of its own; nothing that was in memory has changed. -/
def GivesT (N M : Nat) (F : Nat → Nat → Bool) (w : World) (e : Ending) (w' : World) : Prop := ∃ g, e = .returned (.slice (some ⟨g, 0, none⟩) M M) ∧ RowB w' g M (flat N F) ∧ w.heap.size ≤ g ∧ Below w.heap.size w w'
/-- What the walk asks of an index a * N + b. -/
theorem ixFacts {N M a b p : Nat} (hM : M ≤ 4096) (hp : a * N = p) (h : p + b < M) :
    IntKind.i64.wrap ((a : Int) * (N : Int)) = (p : Int) ∧ IntKind.i64.wrap (p : Int) = (p : Int) ∧ IntKind.i64.wrap ((p : Int) + (b : Int)) = ((p + b : Nat) : Int) ∧ (0 : Int) ≤ ((p + b : Nat) : Int) ∧ ((p + b : Nat) : Int) < (M : Int) ∧ (p : Int) + (b : Int) < (M : Int) ∧ (0 : Int) ≤ (p : Int) + (b : Int) := by
  have hmi : (a : Int) * (N : Int) = (p : Int) := by rw [← hp]; simp
  refine ⟨by rw [hmi, IntKind.wrap_i64]; omega, by rw [IntKind.wrap_i64]; omega, by rw [IntKind.wrap_i64]; omega, by omega, by omega, by omega, by omega⟩
/-- A store into a table. -/
theorem updFlat {N M : Nat} {F G : Nat → Nat → Bool} {a b p : Nat} {v : Bool} (hM : N * N = M) (hp : a * N = p) (hb : b < N) (h : ∀ x y, x < N → y < N → updT F a b v x y = G x y) : ∀ x, x < M → updB (flat N F) (p + b) v x = flat N G x := by
  intro x hx
  have hn : 0 < N := by omega
  have hd := Nat.div_add_mod x N
  have hm := Nat.mod_lt x hn
  have hx1 : x / N < N := Nat.div_lt_of_lt_mul (by rw [hM]; exact hx)
  show updB (flat N F) (p + b) v x = G (x / N) (x % N)
  rw [← h _ _ hx1 hm]
  unfold updB updT flat
  have e : (x = p + b) ↔ (x / N = a ∧ x % N = b) := by
    constructor
    · rintro rfl
      rw [← hp, Nat.mul_comm a N, Nat.mul_add_div hn, Nat.div_eq_of_lt hb, Nat.add_zero, Nat.mul_add_mod, Nat.mod_eq_of_lt hb]
      exact ⟨rfl, rfl⟩
    · rintro ⟨h1, h2⟩
      rw [h1, h2, Nat.mul_comm] at hd
      omega
  by_cases h1 : x = p + b
  · rw [if_pos h1, if_pos (e.1 h1)]
  · rw [if_neg h1, if_neg fun h2 => h1 (e.2 h2)]
theorem flatCongr {N M : Nat} {F G : Nat → Nat → Bool} (hM : N * N = M) (h : ∀ x y, x < N → y < N → F x y = G x y) : ∀ x, x < M → flat N F x = flat N G x := by
  intro x hx
  rcases Nat.eq_zero_or_pos N with rfl | hn
  · omega
  · exact h _ _ (Nat.div_lt_of_lt_mul (by rw [hM]; exact hx)) (Nat.mod_lt x hn)
theorem RowB.at2 {w : World} {g N M : Nat} {F : Nat → Nat → Bool} (h : RowB w g M (flat N F)) {a b p : Nat} (hp : a * N = p) (hb : b < N) (hlt : p + b < M) : w.cell? ⟨g, p + b, none⟩ = some (.bool (F a b)) := by
  have := h.cell hlt
  subst hp
  rwa [flatAt hb] at this

set_option maxRecDepth 100000 in
set_option maxHeartbeats 2000000 in
theorem rClosed (N : Nat) (hN : N ≤ 64) (l : Prs) (n : Nat) (hn : l.length = n) (hv : okR N l = true) (M : Nat) (hM : N * N = M) (A : Option Addr) (c : Nat) (w : World) (ha : Rp w A c l) :
    Calls Tryd.prog 47 #[relV N A n c] w (GivesT N M (tcT N (hasP l)) w) := by
  obtain ⟨f, hf⟩ : ∃ f, hasP l = f := ⟨_, rfl⟩
  have hM2 : M ≤ 4096 := by have h := Nat.mul_le_mul hN hN; omega
  have HN := Lib.hid hn
  have HT := Lib.hid (fun w' ha' => rTable N hN l n hn hv M hM A c w' ha')
  rw [hf] at HT
  clear hn hv
  obtain ⟨W, hW⟩ : ∃ W, w.alloc (.cells #[.int .i64 N, .slice A n c] 24) = W := ⟨_, rfl⟩
  have HB0 : Hid (BoxR W w.heap.size N (.slice A n c)) := by rw [← hW]; exact Lib.hid (BoxR.new w N _)
  have hbW : Below w.heap.size w W := by rw [← hW]; exact belowAlloc w _
  have HA := Lib.hid (ha.below hbW); clear ha
  obtain ⟨c0, c1, _, _⟩ := HB0.out.facts
  go_enter Tryd.func47, Tryd.ntmps47
  go_wp2_with fail
  refine (HT.out _ HA.out).mono ?_
  rintro e w1 ⟨g, rfl, hr, hg, b1⟩
  have HR0 := Lib.hid (hr.congr (F := flat N (wsTo f 0 0 0)) (flatCongr hM fun x y _ _ => wsToStart.symm)); clear hr
  have HB1 := Lib.hid (HB0.out.below b1)
  obtain ⟨c0, c1, _, _⟩ := HB1.out.facts
  have hb1 := belowThen hbW b1
  have hgW : w.heap.size < g := by have := HB0.out.lt; omega
  go_wp2
  clear c0 c1 hbW b1
  go_loopw [5] (fun v wr => ∃ m : Nat, m ≤ N ∧ v = .int .i64 m ∧ Hid (RowB wr g M (flat N (wsTo f m 0 0))) ∧ Hid (Chg w1 wr (fun k => k ≠ g))) (fun v _ => N - (intOf v).toNat)
  case atStart => exact ⟨0, Nat.zero_le _, rfl, HR0, Lib.hid (Chg.refl _ _)⟩
  case round =>
    clear HR0
    obtain ⟨m, hm, rfl, HR, HC⟩ := hrel
    by_cases hlm : m < N
    · go_wp2
      go_loopw [6] (fun v wr => ∃ a : Nat, a ≤ N ∧ v = .int .i64 a ∧ Hid (RowB wr g M (flat N (wsTo f m a 0))) ∧ Hid (Chg w1 wr (fun k => k ≠ g))) (fun v _ => N - (intOf v).toNat)
      case atStart => exact ⟨0, Nat.zero_le _, rfl, HR, HC⟩
      case round =>
        clear HR HC
        obtain ⟨a, hal, rfl, HR, HC⟩ := hrel
        by_cases hla : a < N
        · go_wp2
          go_loopw [7] (fun v wr => ∃ b : Nat, b ≤ N ∧ v = .int .i64 b ∧ Hid (RowB wr g M (flat N (wsTo f m a b))) ∧ Hid (Chg w1 wr (fun k => k ≠ g))) (fun v _ => N - (intOf v).toNat)
          case atStart => exact ⟨0, Nat.zero_le _, rfl, HR, HC⟩
          case round =>
            clear HR HC
            obtain ⟨b, hbl, rfl, HR, HC⟩ := hrel
            obtain ⟨p, hp⟩ : ∃ p, a * N = p := ⟨_, rfl⟩
            obtain ⟨q, hq⟩ : ∃ q, m * N = q := ⟨_, rfl⟩
            have l1 := flatLt hla hlm
            rw [hM, hp] at l1
            have k1 := HR.out.at2 hp hlm l1
            rw [wsToCol] at k1
            obtain ⟨f1, f2, f3, f4, f5, f6, f7⟩ := ixFacts hM2 hp l1
            by_cases hlb : b < N
            · have hdb : decide ((b : Int) < (N : Int)) = true := decide_eq_true (by omega)
              cases hws : wsT f m a m with
              | false =>
                rw [hws] at k1
                have HX := Lib.hid (HR.out.congr (flatCongr hM fun x y _ hy => wsToRow (n := N) (.inr hws) hy)); clear hws
                go_wp2
                all_goals exact ⟨⟨a + 1, by omega, by go_num, HX, HC⟩, by simp [intOf]; omega⟩
              | true =>
                rw [hws] at k1
                have l2 := flatLt hla hlb
                rw [hM, hp] at l2
                have l3 := flatLt hlm hlb
                rw [hM, hq] at l3
                have k2 := HR.out.at2 hp hlb l2
                have k3 := HR.out.at2 hq hlb l3
                obtain ⟨g1, g2, g3, g4, g5, g6, g7⟩ := ixFacts hM2 hp l2
                obtain ⟨i1, i2, i3, i4, i5, i6, i7⟩ := ixFacts hM2 hq l3
                have HX := Lib.hid (updFlat hM hp hlb (v := wsTo f m a b a b || wsTo f m a b m b) fun x y _ _ => wsToStep hws x y)
                clear hws
                obtain ⟨u, hu⟩ : ∃ u, wsTo f m a b a b = u := ⟨_, rfl⟩
                obtain ⟨v, hv⟩ : ∃ v, wsTo f m a b m b = v := ⟨_, rfl⟩
                rw [hu] at k2 HX
                rw [hv] at k3 HX
                clear hu hv
                have hfz := HR.out.frozen (p + b)
                have HS : ∀ z, z = (u || v) → Hid (RowB (wr.setCell ⟨g, p + b, none⟩ (.bool z)) g M (flat N (wsTo f m a (b + 1)))) := fun z e => by subst e; exact Lib.hid ((HR.out.put (p + b) (u || v)).congr HX.out)
                have HC2 := Lib.hid (fun z => HC.out.trans (Chg.setCell wr ⟨g, p + b, none⟩ (.bool z)) fun _ _ h => h)
                cases u
                · have HS1 := HS v (by simp)
                  go_wp2
                  all_goals exact ⟨⟨b + 1, by omega, by go_num, HS1, Lib.hid (HC2.out _)⟩, by simp [intOf]; omega⟩
                · have HS1 := HS true (by simp)
                  go_wp2
                  all_goals exact ⟨⟨b + 1, by omega, by go_num, HS1, Lib.hid (HC2.out _)⟩, by simp [intOf]; omega⟩
            · obtain rfl : b = N := by omega
              have hdb : decide ((b : Int) < (b : Int)) = false := by simp
              have HX := Lib.hid (HR.out.congr (flatCongr hM fun x y _ hy => wsToRow (n := b) (.inl rfl) hy))
              go_wp2
              all_goals exact ⟨⟨a + 1, by omega, by go_num, HX, HC⟩, by simp [intOf]; omega⟩
        · obtain rfl : a = N := by omega
          have HX := Lib.hid (HR.out.congr (flatCongr hM fun x y hx _ => wsToNext (n := a) hx))
          go_wp2
          all_goals exact ⟨⟨m + 1, by omega, by go_num, HX, HC⟩, by simp [intOf]; omega⟩
    · obtain rfl : m = N := by omega
      have HX := Lib.hid (HR.out.congr (flatCongr hM fun x y _ _ => wsToEnd))
      go_wp2
      go_ret
      exact ⟨g, rfl, by rw [hf]; exact HX.out, by omega, hb1.trans ⟨HC.out.os, HC.out.tape, HC.out.output, HC.out.size, fun k hk => HC.out.block k (by have := hb1.size; omega) (by omega)⟩⟩
end Go.Proofs.YtjioiaeiggjneaaDoor

namespace Go.Proofs.YtjioiaeiggjneaaDoor
open Go.RowKit

set_option maxRecDepth 100000 in
set_option maxHeartbeats 2000000 in
theorem rAcyclic (N : Int) (l : Prs) (n : Nat) (hn : l.length = n) (r : Bool) (hr : acyR N l = r) (A : Option Addr) (c : Nat) (w : World) (ha : Rp w A c l) :
    Calls Tryd.prog 37 #[relV N A n c] w fun e w' => e = .returned (.bool r) ∧ Below w.heap.size w w' := by
  have HN := Lib.hid hn; clear hn
  obtain ⟨W, hW⟩ : ∃ W, w.alloc (.cells #[.int .i64 N, .slice A n c] 24) = W := ⟨_, rfl⟩
  have HB0 : Hid (BoxR W w.heap.size N (.slice A n c)) := by rw [← hW]; exact Lib.hid (BoxR.new w N _)
  have hbW : Below w.heap.size w W := by rw [← hW]; exact belowAlloc w _
  have HA := Lib.hid (ha.below hbW); clear ha
  obtain ⟨c0, c1, _, _⟩ := HB0.out.facts
  go_enter Tryd.func37, Tryd.ntmps37
  rcases hv : okR N l with _ | _
  · have HV := Lib.hid hv
    have hr : r = false := by rw [← hr]; unfold acyR; rw [hv]; rfl
    subst hr
    clear hv
    go_wp2_with fail
    refine (rValid N l n HN.out false HV.out A c _ HA.out).mono ?_
    rintro e w1 ⟨rfl, b1⟩
    go_wp2
    go_ret
    exact ⟨rfl, belowThen hbW b1⟩
  · have HV := Lib.hid hv
    obtain ⟨k, rfl, hk⟩ := okNat hv
    obtain ⟨M, hM⟩ : ∃ M, k * k = M := ⟨_, rfl⟩
    have hM2 : M ≤ 4096 := by have h := Nat.mul_le_mul hk hk; omega
    obtain ⟨f, hf⟩ : ∃ f, tcT k (hasP l) = f := ⟨_, rfl⟩
    have HT := Lib.hid (fun w' ha' => rClosed k hk l n HN.out hv M hM A c w' ha')
    rw [hf] at HT
    have e3 : acyR k l = (List.range k).all fun a => !f a a := by unfold acyR acyB; rw [hv, ← hf]; rfl
    have HYES := Lib.hid (show (∀ a, a < k → f a a = false) → r = true from fun h => by
      rw [← hr, e3, List.all_eq_true]
      intro a ha
      rw [h a (List.mem_range.1 ha)]; rfl)
    have HNO := Lib.hid (show ∀ a, a < k → f a a = true → r = false from fun a ha h => by
      rw [← hr, e3, Bool.eq_false_iff]
      intro h2
      rw [List.all_eq_true] at h2
      have := h2 a (List.mem_range.2 ha)
      rw [h] at this; cases this)
    clear hv hf e3 hr
    go_wp2_with fail
    refine (rValid k l n HN.out true HV.out A c _ HA.out).mono ?_
    rintro e w1 ⟨rfl, b1⟩
    have HB0 := Lib.hid (HB0.out.below b1)
    have HA := Lib.hid (HA.out.below b1)
    have hb1 := belowThen hbW b1
    obtain ⟨c0, c1, _, _⟩ := HB0.out.facts
    go_wp2_with fail
    refine (HT.out _ HA.out).mono ?_
    rintro e w2 ⟨g, rfl, hr, hg, b2⟩
    have HR := Lib.hid hr; clear hr
    have HB0 := Lib.hid (HB0.out.below b2)
    have hb2 := belowThen hb1 b2
    obtain ⟨c0, c1, _, _⟩ := HB0.out.facts
    go_wp2
    go_loopw [4] (fun v wr => ∃ a : Nat, a ≤ k ∧ v = .int .i64 a ∧ Hid (∀ x, x < a → f x x = false) ∧ wr = w2) (fun v _ => k - (intOf v).toNat)
    case atStart => exact ⟨0, Nat.zero_le _, rfl, Lib.hid (fun x hx => by omega), rfl⟩
    case round =>
      obtain ⟨a, hal, rfl, HP, rfl⟩ := hrel
      by_cases hla : a < k
      · obtain ⟨p, hp⟩ : ∃ p, a * k = p := ⟨_, rfl⟩
        have l1 := flatLt hla hla
        rw [hM, hp] at l1
        have k1 := HR.out.at2 hp hla l1
        obtain ⟨f1, f2, f3, f4, f5, f6, f7⟩ := ixFacts hM2 hp l1
        cases hff : f a a with
        | false =>
          rw [hff] at k1
          have HX := Lib.hid (show ∀ x, x < a + 1 → f x x = false from fun x hx => by
            by_cases e : x = a
            · subst e; exact hff
            · exact HP.out x (by omega))
          clear hff
          go_wp2
          all_goals first
            | exact ⟨⟨a + 1, by omega, by go_num, HX, rfl⟩, by simp [intOf]; omega⟩
            | (go_roundw; (case rel => exact ⟨a + 1, by omega, by go_num, HX, by first | trivial | rfl⟩); (case measure => simp [intOf]; omega))
        | true =>
          rw [hff] at k1
          have HX := Lib.hid (HNO.out a hla hff)
          clear hff
          go_wp2
          go_ret
          exact ⟨retB HX.out.symm, hb2⟩
      · have HX := Lib.hid (HYES.out fun x hx => HP.out x (by omega))
        go_wp2
        go_ret
        exact ⟨retB HX.out.symm, hb2⟩
end Go.Proofs.YtjioiaeiggjneaaDoor
