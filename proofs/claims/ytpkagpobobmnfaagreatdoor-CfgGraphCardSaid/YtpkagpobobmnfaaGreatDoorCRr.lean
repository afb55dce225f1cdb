/-
  The contract of the reference's Valid.
-/
import Derived.Test.YtpkagpobobmnfaaGreatDoorCRow
import Derived.Deep.OwnRows
import Derived.StillTailTactics
import Derived.Deep.RegionHeld3
namespace Go.Proofs.YtpkagpobobmnfaaGreatDoor
open Go.RowKit

set_option maxHeartbeats 2000000 in
theorem rValid (N : Int) (l : Prs) (n : Nat) (hn : l.length = n) (r : Bool) (hr : okR N l = r) (A : Option Addr) (c : Nat) (w : World) (ha : Rp w A c l) :
    Calls Tryz.prog 66 #[relV N A n c] w fun e w' => e = .returned (.bool r) ∧ Below w.heap.size w w' := by
  have hla := ha.le
  have hca := ha.max
  unfold maxLen at hca
  rw [hn] at hla
  have HR := Lib.hid hr; clear hr
  have HN := Lib.hid hn; clear hn
  obtain ⟨W, hW⟩ : ∃ W, w.alloc (.cells #[.int .i64 N, .slice A n c] 28) = W := ⟨_, rfl⟩
  have hbW : Below w.heap.size w W := by rw [← hW]; exact belowAlloc w _
  have c0 : W.cell? ⟨w.heap.size, 0, none⟩ = some (.int .i64 N) := by rw [← hW]; simp
  have c1 : W.cell? ⟨w.heap.size, 1, none⟩ = some (.slice A n c) := by rw [← hW]; simp
  have HA := Lib.hid (ha.below hbW); clear ha
  by_cases h0 : N < 0
  · have HX := Lib.hid (HR.out.symm.trans (okLow h0))
    go_enter Tryz.func66, Tryz.ntmps66
    go_wp2
    go_ret
    exact ⟨retB HX.out.symm, hbW⟩
  by_cases h1 : 64 < N
  · have HX := Lib.hid (HR.out.symm.trans (okHigh h1))
    go_enter Tryz.func66, Tryz.ntmps66
    go_wp2
    go_ret
    exact ⟨retB HX.out.symm, hbW⟩
  go_enter Tryz.func66, Tryz.ntmps66
  go_wp2
  go_loopw [3] (fun i wr => ∃ k : Nat, k ≤ n ∧ i = .int .i64 k ∧ Hid (okTo N l k) ∧ wr = W) (fun i _ => n - (intOf i).toNat)
  case atStart => exact ⟨0, Nat.zero_le _, rfl, Lib.hid (fun p hp => by simp at hp), rfl⟩
  case round =>
    obtain ⟨k, hk, rfl, HT, rfl⟩ := hrel
    by_cases hlt : k < n
    · have hkl : k < l.length := by have := HN.out; omega
      obtain ⟨b, off, rfl, had, hc1, hc2⟩ := HA.out.one hkl
      by_cases hin : inR N l[k]
      · have HX := Lib.hid (okSucc hkl HT.out hin)
        unfold inR at hin
        generalize l[k].1 = x at *
        generalize l[k].2 = y at *
        go_wp2
        all_goals (go_roundw; (case rel => exact ⟨k + 1, by omega, by go_num, HX, by first | trivial | rfl⟩); (case measure => simp [intOf]; omega))
      · have HX := Lib.hid (HR.out.symm.trans (okAt hkl hin))
        unfold inR at hin
        generalize l[k].1 = x at *
        generalize l[k].2 = y at *
        go_wp2
        all_goals first
          | (exfalso; omega)
          | (go_ret; exact ⟨retB HX.out.symm, hbW⟩)
    · have HX := Lib.hid (HR.out.symm.trans (okAll (by omega) (by omega) (by have := HN.out; omega) HT.out))
      go_wp2
      go_ret
      exact ⟨retB HX.out.symm, hbW⟩
end Go.Proofs.YtpkagpobobmnfaaGreatDoor

namespace Go.Proofs.YtpkagpobobmnfaaGreatDoor
open Go.RowKit Go.Maps

/-- A table as a row: the pair (a, b) stands at a * n + b. -/
def flat (n : Nat) (f : Nat → Nat → Bool) (k : Nat) : Bool := f (k / n) (k % n)
theorem flatAt {n : Nat} {f : Nat → Nat → Bool} {a b : Nat} (hb : b < n) : flat n f (a * n + b) = f a b := by
  unfold flat
  have hn : 0 < n := by omega
  rw [Nat.mul_comm a n, Nat.mul_add_div hn, Nat.div_eq_of_lt hb, Nat.add_zero, Nat.mul_add_mod, Nat.mod_eq_of_lt hb]
theorem flatLt {n a b : Nat} (ha : a < n) (hb : b < n) : a * n + b < n * n := by
  have h := Nat.mul_le_mul_right n (show a + 1 ≤ n by omega)
  rw [Nat.add_mul, Nat.one_mul] at h
  omega
/-- The table of the first k pairs. -/
def tabTo (l : Prs) (k : Nat) (a b : Nat) : Bool := memP (l.take k) (a : Int) (b : Int)
theorem tabNext {n : Nat} {l : Prs} {k a b : Nat} (hk : k < l.length) (e1 : l[k].1 = (a : Int)) (e2 : l[k].2 = (b : Int)) (ha : a < n) (hb : b < n) {x : Nat} (hx : x < n * n) :
    with_ (flat n (tabTo l k)) (a * n + b) x = flat n (tabTo l (k + 1)) x := by
  have hn : 0 < n := by omega
  unfold with_ flat tabTo
  rw [← memPSucc hk, e1, e2]
  congr 1
  rw [Bool.eq_iff_iff, decide_eq_true_iff, decide_eq_true_iff]
  have hd := Nat.div_add_mod x n
  have hm := Nat.mod_lt x hn
  constructor
  · rintro rfl
    have h1 : (a * n + b) / n = a := by rw [Nat.mul_comm a n, Nat.mul_add_div hn, Nat.div_eq_of_lt hb, Nat.add_zero]
    have h2 : (a * n + b) % n = b := by rw [Nat.mul_comm a n, Nat.mul_add_mod, Nat.mod_eq_of_lt hb]
    rw [h1, h2]
    exact ⟨rfl, rfl⟩
  · rintro ⟨h1, h2⟩
    have h1 : x / n = a := by omega
    have h2 : x % n = b := by omega
    rw [h1, h2, Nat.mul_comm] at hd
    exact hd.symm
set_option maxRecDepth 100000 in
set_option maxHeartbeats 2000000 in
theorem rTable (N : Nat) (hN : N ≤ 64) (l : Prs) (n : Nat) (hn : l.length = n) (hv : okR N l = true) (M : Nat) (hM : N * N = M) (A : Option Addr) (c : Nat) (w : World) (ha : Rp w A c l) :
    Calls Tryz.prog 68 #[relV N A n c] w fun e w' => ∃ g, e = .returned (.slice (some ⟨g, 0, none⟩) M M) ∧ RowB w' g M (flat N (hasP l)) ∧ w.heap.size ≤ g ∧ Below w.heap.size w w' := by
  have hla := ha.le
  have hca := ha.max
  unfold maxLen at hca
  rw [hn] at hla
  have hM2 : M ≤ 4096 := by have h := Nat.mul_le_mul hN hN; omega
  have hMI : (N : Int) * (N : Int) = (M : Int) := by rw [← hM]; simp
  have hMw : IntKind.i64.wrap ((N : Int) * (N : Int)) = (M : Int) := by rw [hMI, IntKind.wrap_i64]; omega
  have HN := Lib.hid hn; clear hn
  have HV := Lib.hid hv; clear hv
  obtain ⟨W, hW⟩ : ∃ W, w.alloc (.cells #[.int .i64 N, .slice A n c] 28) = W := ⟨_, rfl⟩
  have HB0 : Hid (BoxR W w.heap.size N (.slice A n c)) := by rw [← hW]; exact Lib.hid (BoxR.new w N _)
  have hbW : Below w.heap.size w W := by rw [← hW]; exact belowAlloc w _
  have hzW : W.heap.size = w.heap.size + 1 := by rw [← hW]; simp
  have HA := Lib.hid (ha.below hbW); clear ha
  obtain ⟨c0, c1, _, _⟩ := HB0.out.facts
  have hmk := run_make_row' (P := Tryz.prog) 74 4 (.bool false) 1 Tryz.underlying74 infoBool rfl .i64 .i64 M (by omega) (by omega)
  obtain ⟨X, hX⟩ : ∃ X, W.alloc (.cells (madeCells #[.bool false] M) 4) = X := ⟨_, rfl⟩
  have bX : Below W.heap.size W X := by rw [← hX]; exact belowAlloc _ _
  have hrow : RowB X W.heap.size M (fun _ => false) := by
    have e : (madeCells #[Value.bool false] M).toList = (List.replicate M false).map Value.bool := by rw [List.map_replicate]; exact toList_madeCells_one _ _
    have hs : (madeCells #[Value.bool false] M).size = M := by rw [← Array.length_toList, e]; simp
    refine ⟨by simp [blLen], .inr ⟨W.heap.size, M, _, rfl, Nat.zero_le _, by rw [← hX]; exact heap_alloc_new W _, Nat.le_refl _, by unfold maxLen; omega, by omega, ?_⟩⟩
    rw [List.take_of_length_le (by rw [Array.length_toList]; omega), e, blFalse]
  have HRX := Lib.hid (hrow.congr (F := flat N (tabTo l 0)) fun x _ => by simp [flat, tabTo, memP]); clear hrow
  have HB0 := Lib.hid (HB0.out.below bX)
  have HAW := Lib.hid HA.out
  have HXW := Lib.hid bX
  have HA := Lib.hid (HA.out.below bX)
  have hbX := hbW.trans (bX.mono hbW.size)
  have hzX : X.heap.size = w.heap.size + 2 := by rw [← hX]; simp [hzW]
  clear bX
  go_enter Tryz.func68, Tryz.ntmps68
  go_wp2
  clear hmk c0 c1
  go_loopw [4] (fun v wr => ∃ k : Nat, k ≤ n ∧ v = .int .i64 k ∧ Hid (RowB wr (w.heap.size + 1) M (flat N (tabTo l k))) ∧ Hid (Chg X wr (fun g => g ≠ w.heap.size + 1))) (fun v _ => n - (intOf v).toNat)
  case atStart => exact ⟨0, Nat.zero_le _, rfl, by rw [← hzW]; exact HRX, Lib.hid (Chg.refl _ _)⟩
  case round =>
    obtain ⟨k, hk, rfl, HR, HC⟩ := hrel
    have HBr : Hid (BoxR wr w.heap.size N (.slice A n c)) := Lib.hid ((HC.out.block _ HB0.out.lt (by show w.heap.size ≠ w.heap.size + 1; omega)).trans HB0.out)
    obtain ⟨c0, c1, _, _⟩ := HBr.out.facts
    by_cases hlt : k < n
    · have hkl : k < l.length := by rw [HN.out]; exact hlt
      have hbw : Below W.heap.size W wr := ⟨HC.out.os.trans HXW.out.os, HC.out.tape.trans HXW.out.tape, HC.out.output.trans HXW.out.output, Nat.le_trans HXW.out.size HC.out.size, fun g hg => (HC.out.block g (by omega) (by omega)).trans (HXW.out.block g hg)⟩
      obtain ⟨p, off, rfl, _, h1, h2⟩ := (HAW.out.below hbw).one hkl
      have hin := (okIff.1 HV.out).2.2 _ (List.getElem_mem hkl)
      unfold inR at hin
      obtain ⟨a, ea⟩ : ∃ a : Nat, l[k].1 = (a : Int) := ⟨l[k].1.toNat, by omega⟩
      obtain ⟨b, eb⟩ : ∃ b : Nat, l[k].2 = (b : Int) := ⟨l[k].2.toNat, by omega⟩
      have haN : a < N := by omega
      have hbN : b < N := by omega
      have hlt2 := flatLt haN hbN
      rw [hM] at hlt2
      have HNX := Lib.hid (show ∀ x, x < M → with_ (flat N (tabTo l k)) (a * N + b) x = flat N (tabTo l (k + 1)) x from fun x hx => tabNext hkl ea eb haN hbN (by rw [hM]; exact hx))
      rw [ea] at h1
      rw [eb] at h2
      clear hin ea eb
      obtain ⟨m, hm⟩ : ∃ m, a * N = m := ⟨_, rfl⟩
      rw [hm] at hlt2 HNX
      have hmi : (a : Int) * (N : Int) = (m : Int) := by rw [← hm]; simp
      have hw1 : IntKind.i64.wrap ((a : Int) * (N : Int)) = (m : Int) := by rw [hmi, IntKind.wrap_i64]; omega
      have hw2 : IntKind.i64.wrap ((m : Int) + (b : Int)) = ((m + b : Nat) : Int) := by rw [IntKind.wrap_i64]; omega
      have hw3 : IntKind.i64.wrap (m : Int) = (m : Int) := by rw [IntKind.wrap_i64]; omega
      have hi1 : (0 : Int) ≤ ((m + b : Nat) : Int) := by omega
      have hi2 : ((m + b : Nat) : Int) < (M : Int) := by omega
      have hi3 : (m : Int) + (b : Int) < (M : Int) := by omega
      have hi4 : (0 : Int) ≤ (m : Int) + (b : Int) := by omega
      have hct := HR.out.cell hlt2
      have hfz := HR.out.frozen (m + b)
      go_wp2_with fail
      go_still_tail 18, (by kernel_rfl)
      change wpList _ _ _ _ _ wr.drew
      obtain ⟨V, hV⟩ : ∃ V, wr.drew = V := ⟨_, rfl⟩
      have HRV : Hid (RowB V (w.heap.size + 1) M (flat N (tabTo l k))) := by rw [← hV]; exact Lib.hid HR.out.drew
      have HCV : Hid (Chg X V (fun g => g ≠ w.heap.size + 1)) := by rw [← hV]; exact Lib.hid (HC.out.trans (Chg.drewN wr 1 fun _ => True) fun _ _ _ => trivial)
      have hct := HRV.out.cell hlt2
      have hfz := HRV.out.frozen (m + b)
      have HSV := Lib.hid ((HRV.out.set (m + b)).congr HNX.out)
      have HCW := Lib.hid (HCV.out.trans (Chg.setCell V ⟨w.heap.size + 1, m + b, none⟩ (.bool true)) fun _ _ h => h)
      rw [hV]
      go_wp2
      all_goals exact ⟨⟨k + 1, by omega, by go_num, HSV, HCW⟩, by simp [intOf]; omega⟩
    · obtain rfl : k = n := by omega
      have HFIN := Lib.hid (HR.out.congr (F := flat N (hasP l)) fun x _ => by
        unfold flat tabTo
        rw [List.take_of_length_le (by rw [HN.out]; exact Nat.le_refl _)]
        rfl)
      have hbr : Below w.heap.size w wr := hbX.trans ⟨HC.out.os, HC.out.tape, HC.out.output, HC.out.size, fun g hg => HC.out.block g (by omega) (by omega)⟩
      go_wp2
      go_ret
      exact ⟨_, rfl, HFIN.out, by omega, hbr⟩
end Go.Proofs.YtpkagpobobmnfaaGreatDoor

namespace Go.Proofs.YtpkagpobobmnfaaGreatDoor
open Go.RowKit Go.Maps

/-- append of a pair onto a row of the call's own. -/
theorem appP (w : World) {ops : Array Oper} {rest : List Oper} {o : Oper} {a : Act} {Q : Exit → Act → World → Prop} (hgd : o.guard = none) (s x : Operand)
    (ho : o.op = .call { callee := .builtin .append, args := #[s, x], argTypes := #[26, 26] })
    (base : Nat) (v : Value) (l : Prs) (hs : a.eval s = v) (hown : OwnP w base v l) (g : Nat) (y n : Int)
    (hx : a.eval x = .slice (some ⟨g, 0, none⟩) 1 1) (hr : Rp w (some ⟨g, 0, none⟩) 1 [(y, n)]) (hb : l.length + 1 ≤ 1000000) (hbase : base ≤ w.heap.size)
    (h : ∀ v' w', OwnP w' base v' (l ++ [(y, n)]) → w.grownBy w' v.ownBlock → Below base w w' → wpList Tryz.prog ops Q rest (a.put o.dst v') w') :
    wpList Tryz.prog ops Q (o :: rest) a w := by
  obtain ⟨i0, hi, hz0, hz1, hz2⟩ := info_parts infoPair
  refine wpList_append_own_at w hgd s x 26 ho base 66 i0 _ 2 16 Tryz.underlying26 hi hz0 hz1 hz2 rfl (by decide) v l.length (ct l) hs hown ⟨g, 0, none⟩ 1 1 (ct [(y, n)]) hx rfl (ctCells hr rfl) (ctOne _) (by unfold maxLen; omega) (by omega) hbase fun v' w' h1 h2 _ _ => h v' w' ?_ h2 ?_
  · unfold OwnP
    rw [List.length_append, ctApp]
    exact h1
  · exact (Below.refl base w).grown h2 hbase fun k hk => (OwnP.lt hown hk).1

/-- The same, the new row with a letter for its length. -/
theorem appP2 (w : World) {ops : Array Oper} {rest : List Oper} {o : Oper} {a : Act} {Q : Exit → Act → World → Prop} (hgd : o.guard = none) (s x : Operand)
    (ho : o.op = .call { callee := .builtin .append, args := #[s, x], argTypes := #[26, 26] })
    (base : Nat) (v : Value) (l : Prs) (hs : a.eval s = v) (hown : OwnP w base v l) (g : Nat) (y n : Int)
    (hx : a.eval x = .slice (some ⟨g, 0, none⟩) 1 1) (hr : Rp w (some ⟨g, 0, none⟩) 1 [(y, n)]) (hb : l.length + 1 ≤ 1000000) (hbase : base ≤ w.heap.size)
    (h : ∀ A k c w', Hid (OwnP w' base (.slice A k c) (l ++ [(y, n)])) → Hid ((l ++ [(y, n)]).length = k) → Below base w w' → wpList Tryz.prog ops Q rest (a.put o.dst (.slice A k c)) w') :
    wpList Tryz.prog ops Q (o :: rest) a w := by
  refine appP w hgd s x ho base v l hs hown g y n hx hr hb hbase fun v' w' h1 _ h3 => ?_
  obtain ⟨A, c, rfl, _, _⟩ := h1.rd
  exact h A _ c w' (Lib.hid h1) (Lib.hid rfl) h3
theorem OwnP.setCell {w : World} {base g i : Nat} {v u : Value} {l : Prs} (h : OwnP w base v l) (hg : g < base) : OwnP (w.setCell ⟨g, i, none⟩ u) base v l :=
  h.chg (Chg.setCell w ⟨g, i, none⟩ u) fun k hk => by have := (h.lt hk).1; show k ≠ g; omega

set_option maxRecDepth 100000 in
set_option maxHeartbeats 2000000 in
theorem rListed (N : Nat) (hN : N ≤ 64) (f : Nat → Nat → Bool) (M : Nat) (hM : N * N = M) (L : Prs) (hL : nrm N f = L) (g : Nat) (w : World) (hr : RowB w g M (flat N f)) :
    Calls Tryz.prog 67 #[.int .i64 N, .slice (some ⟨g, 0, none⟩) M M] w (GivesR N L w) := by
  have hM2 : M ≤ 4096 := by have h := Nat.mul_le_mul hN hN; omega
  have hgl := hr.lt
  have HR := Lib.hid hr; clear hr
  have HLL := Lib.hid (fun a b (ha : a ≤ N) (hb : b ≤ N) => show (listTo f N a b).length ≤ 5000 by have := listLen (f := f) ha hb; omega)
  go_enter Tryz.func67, Tryz.ntmps67
  go_wp2
  obtain ⟨W, hW, hB0, hB1, hbW, hzW⟩ := twoBoxes w 0 N (.slice none 0 0) (.slice none 0 0)
  have HB0 := Lib.hid hB0; clear hB0
  have HB1 := Lib.hid hB1; clear hB1
  rw [hW]
  go_loopw [6] (fun va wr => ∃ (a : Nat) (A : Option Addr) (k c : Nat), a ≤ N ∧ va = .int .i64 a ∧ Hid (OwnP wr (w.heap.size + 2) (.slice A k c) (listTo f N a 0)) ∧ Hid ((listTo f N a 0).length = k) ∧ Hid (BoxR wr (w.heap.size + 1) N (.slice A k c)) ∧ Hid (BoxR wr w.heap.size 0 (.slice none 0 0)) ∧ Below w.heap.size w wr ∧ w.heap.size + 2 ≤ wr.heap.size) (fun va _ => N - (intOf va).toNat)
  case atStart => exact ⟨0, none, 0, 0, Nat.zero_le _, rfl, Lib.hid (OwnP.nil _ _), Lib.hid rfl, HB1, HB0, hbW, by omega⟩
  case round =>
    clear HB0 HB1 hbW hzW
    obtain ⟨a, A, k, c, ha, rfl, HO, HK, HB1, HB0, hb, hz⟩ := hrel
    by_cases hlt : a < N
    · obtain ⟨wo, hwo⟩ : ∃ x, x = wr := ⟨wr, rfl⟩
      subst hwo
      go_wp2
      go_loopw [7] (fun vb wr => ∃ (b : Nat) (A : Option Addr) (k c : Nat), b ≤ N ∧ vb = .int .i64 b ∧ Hid (OwnP wr (w.heap.size + 2) (.slice A k c) (listTo f N a b)) ∧ Hid ((listTo f N a b).length = k) ∧ Hid (BoxR wr (w.heap.size + 1) N (.slice A k c)) ∧ Hid (BoxR wr w.heap.size 0 (.slice none 0 0)) ∧ Below w.heap.size w wr ∧ w.heap.size + 2 ≤ wr.heap.size) (fun vb _ => N - (intOf vb).toNat)
      case atStart => exact ⟨0, A, k, c, Nat.zero_le _, rfl, HO, HK, HB1, HB0, hb, hz⟩
      case round =>
        clear HO HK HB1 HB0 hb hz
        obtain ⟨b, A, k, c, hbN, rfl, HO, HK, HB1, HB0, hb, hz⟩ := hrel
        by_cases hlb : b < N
        · have hlt2 := flatLt hlt hlb
          rw [hM] at hlt2
          have hct := (HR.out.chg (Chg.ofBelow hb fun _ => True) trivial).cell hlt2
          rw [flatAt hlb] at hct
          obtain ⟨m, hm⟩ : ∃ m, a * N = m := ⟨_, rfl⟩
          rw [hm] at hlt2 hct
          have hmi : (a : Int) * (N : Int) = (m : Int) := by rw [← hm]; simp
          have hw1 : IntKind.i64.wrap ((a : Int) * (N : Int)) = (m : Int) := by rw [hmi, IntKind.wrap_i64]; omega
          have hw2 : IntKind.i64.wrap ((m : Int) + (b : Int)) = ((m + b : Nat) : Int) := by rw [IntKind.wrap_i64]; omega
          have hw3 : IntKind.i64.wrap (m : Int) = (m : Int) := by rw [IntKind.wrap_i64]; omega
          have hi1 : (0 : Int) ≤ ((m + b : Nat) : Int) := by omega
          have hi2 : ((m + b : Nat) : Int) < (M : Int) := by omega
          have hi3 : (m : Int) + (b : Int) < (M : Int) := by omega
          have hi4 : (0 : Int) ≤ (m : Int) + (b : Int) := by omega
          obtain ⟨c0, c1, c2, c3⟩ := HB1.out.facts
          cases hf : f a b with
          | false =>
            rw [hf] at hct
            have HX := Lib.hid (listNo (n := N) hf)
            clear hf
            go_wp2
            all_goals go_roundw
            case rel => exact ⟨b + 1, A, k, c, by omega, by go_num, by rw [HX.out]; exact HO, by rw [HX.out]; exact HK, HB1, HB0, hb, hz⟩
            case measure => simp [intOf]; omega
          | true =>
            rw [hf] at hct
            have HX := Lib.hid (listYes (n := N) hf)
            clear hf
            have hll := HLL.out a b (by omega) hbN
            go_wp2_with (at_builtin; refine appP2 _ rfl (.tmp 29) (.tmp 33) rfl (w.heap.size + 2) _ _ rfl (HO.out.alloc _) wr.heap.size a b rfl (cellPair _ _ _ _) (by omega) (by simp; omega) ?_; intro A1 k1 c1 w1 HO1 HK1 b1; have HB2 : Hid (BoxR w1 (w.heap.size + 1) N (.slice A k c)) := Lib.hid ((b1.block _ (by omega)).trans (HB1.out.alloc _)); obtain ⟨x0, x1, x2, x3⟩ := HB2.out.facts)
            have bw1 : Below w.heap.size w w1 := (hb.alloc hb.size _).trans (b1.mono (by omega))
            have HB3 := Lib.hid ((b1.block w.heap.size (by omega)).trans (HB0.out.alloc _))
            have hz1 : w.heap.size + 2 ≤ w1.heap.size := by have := b1.size; simp at this; omega
            all_goals go_roundw
            case rel => exact ⟨b + 1, A1, k1, c1, by omega, by go_num, by rw [HX.out]; exact Lib.hid (HO1.out.setCell (by omega)), by rw [HX.out]; exact HK1, Lib.hid (HB2.out.stored1 _), Lib.hid ((heap_setCell_other _ _ _ _ (by show w.heap.size ≠ w.heap.size + 1; omega)).trans HB3.out), belowSet bw1 _ _ (by show w.heap.size ≤ w.heap.size + 1; omega), by simpa using hz1⟩
            case measure => simp [intOf]; omega
        · obtain rfl : b = N := by omega
          have HX := Lib.hid (listRow (f := f) (n := b) (a := a))
          go_wp2
          go_roundw
          case rel => exact ⟨a + 1, A, k, c, by omega, by go_num, by rw [← HX.out]; exact HO, by rw [← HX.out]; exact HK, HB1, HB0, hb, hz⟩
          case measure => simp [intOf]; omega
    · obtain rfl : a = N := by omega
      have HX := Lib.hid ((listEnd (f := f) (n := a)).trans hL)
      obtain ⟨c0, c1, c2, c3⟩ := HB1.out.facts
      obtain ⟨d0, d1, d2, d3⟩ := HB0.out.facts
      go_wp2
      have HB4 := Lib.hid (HB0.out.stored a (.slice A k c))
      have HO4 := Lib.hid ((HO.out.setCell (i := 0) (u := .int .i64 a) (show w.heap.size < w.heap.size + 2 by omega)).setCell (i := 1) (u := .slice A k c) (show w.heap.size < w.heap.size + 2 by omega))
      refine bodyPost_ret (ResR HB4.out rfl _ rfl) rfl ?_
      rw [HX.out] at HO4 HK
      obtain ⟨A', c', e, hr, _⟩ := HO4.out.rd
      injection e with e1 e2 e3
      subst e1; subst e2; subst e3
      exact ⟨_, _, rfl, hr, belowSet (belowSet hb _ _ (Nat.le_refl _)) _ _ (Nat.le_refl _)⟩
end Go.Proofs.YtpkagpobobmnfaaGreatDoor

namespace Go.Proofs.YtpkagpobobmnfaaGreatDoor
open Go.RowKit Go.Maps

set_option maxRecDepth 100000 in
set_option maxHeartbeats 2000000 in
theorem rNormal (N : Int) (l : Prs) (n : Nat) (hn : l.length = n) (A : Option Addr) (c : Nat) (w : World) (ha : Rp w A c l) :
    Calls Tryz.prog 32 #[relV N A n c] w (GivesR (nrmN N l) (nrmL N l) w) := by
  have HN := Lib.hid hn; clear hn
  obtain ⟨W, hW, hB0, hB1, hbW, hzW⟩ := twoBoxes w N 0 (.slice A n c) (.slice none 0 0)
  have HA1 := Lib.hid (ha.below hbW); clear ha
  have HB0 := Lib.hid hB0; clear hB0
  have HB1 := Lib.hid hB1; clear hB1
  obtain ⟨c0, c1, _, _⟩ := HB0.out.facts
  go_enter Tryz.func32, Tryz.ntmps32
  rcases hv : okR N l with _ | _
  · have HV := Lib.hid hv
    have e1 : nrmN N l = 0 := by unfold nrmN; rw [hv]; rfl
    have e2 : nrmL N l = [] := by unfold nrmL; rw [hv]; rfl
    rw [e1, e2]
    clear hv e1 e2
    go_wp2_with fail
    refine (rValid N l n HN.out false HV.out A c _ HA1.out).mono ?_
    rintro e w1 ⟨rfl, b1⟩
    have HB1 := Lib.hid (HB1.out.below b1)
    obtain ⟨c2, c3, f2, f3⟩ := HB1.out.facts
    go_wp2
    refine bodyPost_ret (ResR (HB1.out.stored 0 (.slice none 0 0)) rfl _ rfl) rfl ?_
    exact ⟨none, 0, rfl, Rp.nil, ((hbW.trans (b1.mono hbW.size)).setCell (Nat.le_succ _) _).setCell (Nat.le_succ _) _⟩
  · have HV := Lib.hid hv
    obtain ⟨k, rfl, hk⟩ := okNat hv
    have e1 : nrmN k l = k := by unfold nrmN; rw [hv]; rfl
    obtain ⟨L, e2⟩ : ∃ L, nrm k (hasP l) = L := ⟨_, rfl⟩
    have e3 : nrmL k l = L := by unfold nrmL; rw [hv, ← e2]; rfl
    rw [e1, e3]
    obtain ⟨M, hM⟩ : ∃ M, k * k = M := ⟨_, rfl⟩
    have HT := Lib.hid (fun w' ha' => rTable k hk l n HN.out hv M hM A c w' ha')
    have HL := Lib.hid (fun g w' hr => rListed k hk (hasP l) M hM L e2 g w' hr)
    clear hv e1 e2 e3
    go_wp2_with fail
    refine (rValid k l n HN.out true HV.out A c _ HA1.out).mono ?_
    rintro e w1 ⟨rfl, b1⟩
    have HB0 := Lib.hid (HB0.out.below b1)
    have HB1 := Lib.hid (HB1.out.below b1)
    have HA2 := Lib.hid (HA1.out.below b1)
    have hbw := hbW.trans (b1.mono hbW.size)
    obtain ⟨c0, c1, _, _⟩ := HB0.out.facts
    obtain ⟨c2, c3, f2, f3⟩ := HB1.out.facts
    go_wp2
    have HA3 : Hid (Rp w1.drew A c l) := Lib.hid (HA2.out.drewN 1)
    have HB2 : Hid (BoxR w1.drew w.heap.size k (.slice A n c)) := Lib.hid HB0.out
    have HB3 : Hid (BoxR w1.drew (w.heap.size + 1) 0 (.slice none 0 0)) := Lib.hid HB1.out
    go_region_held3 (fun w' => w'.cell? ⟨w.heap.size, 0, none⟩ = some (.int .i64 k) ∧ w'.cell? ⟨w.heap.size, 1, none⟩ = some (.slice A n c))
      (first | exact KR _ _ | assumption | simp [*])
      (first
        | (go_at_call 68; refine (HT.out _ HA3.out).mono ?_; (rintro e w2 ⟨g, rfl, hM, hb, b2⟩); have HM := Lib.hid hM; have HB4 := Lib.hid (HB2.out.below b2); have HB5 := Lib.hid (HB3.out.below b2); obtain ⟨d0, d1, _, _⟩ := HB4.out.facts)
        | (go_at_call 67; refine (HL.out _ _ HM.out).mono ?_; (rintro e w3 ⟨A', c', rfl, hr, b3⟩); have HR := Lib.hid hr; have HB6 := Lib.hid (HB4.out.below b3); have HB7 := Lib.hid (HB5.out.below b3); obtain ⟨d2, d3, _, _⟩ := HB6.out.facts; obtain ⟨c4, c5, f4, f5⟩ := HB7.out.facts; have KR := keepR HB6.out (show w.heap.size ≠ w.heap.size + 1 by omega)))
    have hbz := ((hbw.trans ((belowN w1 1).mono hbw.size)).trans (b2.mono hbw.size)).trans (b3.mono (Nat.le_trans hbw.size b2.size))
    go_wp2
    refine bodyPost_ret (ResR (HB7.out.stored _ _) rfl _ rfl) rfl ?_
    exact ⟨A', c', rfl, HR.out.stored HB7.out _ _, (hbz.setCell (Nat.le_succ _) _).setCell (Nat.le_succ _) _⟩
end Go.Proofs.YtpkagpobobmnfaaGreatDoor
