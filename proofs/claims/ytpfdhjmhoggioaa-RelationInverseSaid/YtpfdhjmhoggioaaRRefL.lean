/-
  The contract of the reference's listed: the pairs of a table, in order.
-/
import Derived.Test.YtpfdhjmhoggioaaRRefT
import Derived.Test.YtpfdhjmhoggioaaTabM
namespace Go.Proofs.Ytpfdhjmhoggioaa
open Go.RowKit Go.Maps

/-- append of a pair onto a row of the call's own. -/
theorem appP (w : World) {ops : Array Oper} {rest : List Oper} {o : Oper} {a : Act} {Q : Exit → Act → World → Prop} (hgd : o.guard = none) (s x : Operand)
    (ho : o.op = .call { callee := .builtin .append, args := #[s, x], argTypes := #[22, 22] })
    (base : Nat) (v : Value) (l : Prs) (hs : a.eval s = v) (hown : OwnP w base v l) (g : Nat) (y n : Int)
    (hx : a.eval x = .slice (some ⟨g, 0, none⟩) 1 1) (hr : Rp w (some ⟨g, 0, none⟩) 1 [(y, n)]) (hb : l.length + 1 ≤ 1000000) (hbase : base ≤ w.heap.size)
    (h : ∀ v' w', OwnP w' base v' (l ++ [(y, n)]) → w.grownBy w' v.ownBlock → Below base w w' → wpList Try.prog ops Q rest (a.put o.dst v') w') :
    wpList Try.prog ops Q (o :: rest) a w := by
  obtain ⟨i0, hi, hz0, hz1, hz2⟩ := info_parts infoPair
  refine wpList_append_own_at w hgd s x 22 ho base 38 i0 _ 2 16 Try.underlying22 hi hz0 hz1 hz2 rfl (by decide) v l.length (ct l) hs hown ⟨g, 0, none⟩ 1 1 (ct [(y, n)]) hx rfl (ctCells hr rfl) (ctOne _) (by unfold maxLen; omega) (by omega) hbase fun v' w' h1 h2 _ _ => h v' w' ?_ h2 ?_
  · unfold OwnP
    rw [List.length_append, ctApp]
    exact h1
  · exact (Below.refl base w).grown h2 hbase fun k hk => (OwnP.lt hown hk).1

/-- The same, the new row with a letter for its length. -/
theorem appP2 (w : World) {ops : Array Oper} {rest : List Oper} {o : Oper} {a : Act} {Q : Exit → Act → World → Prop} (hgd : o.guard = none) (s x : Operand)
    (ho : o.op = .call { callee := .builtin .append, args := #[s, x], argTypes := #[22, 22] })
    (base : Nat) (v : Value) (l : Prs) (hs : a.eval s = v) (hown : OwnP w base v l) (g : Nat) (y n : Int)
    (hx : a.eval x = .slice (some ⟨g, 0, none⟩) 1 1) (hr : Rp w (some ⟨g, 0, none⟩) 1 [(y, n)]) (hb : l.length + 1 ≤ 1000000) (hbase : base ≤ w.heap.size)
    (h : ∀ A k c w', Hid (OwnP w' base (.slice A k c) (l ++ [(y, n)])) → Hid ((l ++ [(y, n)]).length = k) → Below base w w' → wpList Try.prog ops Q rest (a.put o.dst (.slice A k c)) w') :
    wpList Try.prog ops Q (o :: rest) a w := by
  refine appP w hgd s x ho base v l hs hown g y n hx hr hb hbase fun v' w' h1 _ h3 => ?_
  obtain ⟨A, c, rfl, _, _⟩ := h1.rd
  exact h A _ c w' (Lib.hid h1) (Lib.hid rfl) h3
theorem OwnP.setCell {w : World} {base g i : Nat} {v u : Value} {l : Prs} (h : OwnP w base v l) (hg : g < base) : OwnP (w.setCell ⟨g, i, none⟩ u) base v l :=
  h.chg (Chg.setCell w ⟨g, i, none⟩ u) fun k hk => by have := (h.lt hk).1; show k ≠ g; omega
theorem belowSet {B : Nat} {a b : World} (h : Below B a b) (p : Addr) (v : Value) (hp : B ≤ p.block) : Below B a (b.setCell p v) :=
  ⟨h.os, h.tape, h.output, by simpa using h.size, fun k hk => (heap_setCell_other b p k v (by omega)).trans (h.block k hk)⟩

set_option maxRecDepth 100000 in
set_option maxHeartbeats 2000000 in
theorem rListed (N : Nat) (hN : N ≤ 64) (f : Nat → Nat → Bool) (M : Nat) (hM : N * N = M) (L : Prs) (hL : nrm N f = L) (g : Nat) (w : World) (hr : RowB w g M (flat N f)) :
    Calls Try.prog 35 #[.int .i64 N, .slice (some ⟨g, 0, none⟩) M M] w (GivesR N L w) := by
  have hM2 : M ≤ 4096 := by have h := Nat.mul_le_mul hN hN; omega
  have hgl := hr.lt
  have HR := Lib.hid hr; clear hr
  have HLL := Lib.hid (fun a b (ha : a ≤ N) (hb : b ≤ N) => show (listTo f N a b).length ≤ 5000 by have := listLen (f := f) ha hb; omega)
  go_enter Try.func35, Try.ntmps35
  go_wp2
  obtain ⟨W, hW, hB0, hB1, hbW, hzW⟩ := twoBoxes w 0 N (.slice none 0 0) (.slice none 0 0)
  have HB0 := Lib.hid hB0; clear hB0
  have HB1 := Lib.hid hB1; clear hB1
  rw [hW]
  go_loopw [6] (fun va wr => ∃ (a : Nat) (A : Option Addr) (k c : Nat), a ≤ N ∧ va = .int .i64 a ∧ Hid (OwnP wr (w.heap.size + 2) (.slice A k c) (listTo f N a 0)) ∧ Hid ((listTo f N a 0).length = k) ∧ Hid (BoxR wr (w.heap.size + 1) N (.slice A k c)) ∧ Hid (BoxR wr w.heap.size 0 (.slice none 0 0)) ∧ Below w.heap.size w wr ∧ w.heap.size + 2 ≤ wr.heap.size) (fun va _ => N - (intOf va).toNat)
  case atStart => exact ⟨0, none, 0, 0, Nat.zero_le _, rfl, Lib.hid (OwnP.nil _ _), Lib.hid rfl, HB1, HB0, hbW, by omega⟩
  case round =>
    clear HB0 HB1 hbW hzW
    obtain ⟨a, A, k, c, ha, rfl, HO, HK, HB1, HB0, hb, hz⟩ := hrel
    by_cases hlt : a < N
    · obtain ⟨wo, hwo⟩ : ∃ x, x = wr := ⟨wr, rfl⟩
      subst hwo
      go_wp2
      go_loopw [7] (fun vb wr => ∃ (b : Nat) (A : Option Addr) (k c : Nat), b ≤ N ∧ vb = .int .i64 b ∧ Hid (OwnP wr (w.heap.size + 2) (.slice A k c) (listTo f N a b)) ∧ Hid ((listTo f N a b).length = k) ∧ Hid (BoxR wr (w.heap.size + 1) N (.slice A k c)) ∧ Hid (BoxR wr w.heap.size 0 (.slice none 0 0)) ∧ Below w.heap.size w wr ∧ w.heap.size + 2 ≤ wr.heap.size) (fun vb _ => N - (intOf vb).toNat)
      case atStart => exact ⟨0, A, k, c, Nat.zero_le _, rfl, HO, HK, HB1, HB0, hb, hz⟩
      case round =>
        clear HO HK HB1 HB0 hb hz
        obtain ⟨b, A, k, c, hbN, rfl, HO, HK, HB1, HB0, hb, hz⟩ := hrel
        by_cases hlb : b < N
        · have hlt2 := flatLt hlt hlb
          rw [hM] at hlt2
          have hct := (HR.out.chg (Chg.ofBelow hb fun _ => True) trivial).cell hlt2
          rw [flatAt hlb] at hct
          obtain ⟨m, hm⟩ : ∃ m, a * N = m := ⟨_, rfl⟩
          rw [hm] at hlt2 hct
          have hmi : (a : Int) * (N : Int) = (m : Int) := by rw [← hm]; simp
          have hw1 : IntKind.i64.wrap ((a : Int) * (N : Int)) = (m : Int) := by rw [hmi, IntKind.wrap_i64]; omega
          have hw2 : IntKind.i64.wrap ((m : Int) + (b : Int)) = ((m + b : Nat) : Int) := by rw [IntKind.wrap_i64]; omega
          have hw3 : IntKind.i64.wrap (m : Int) = (m : Int) := by rw [IntKind.wrap_i64]; omega
          have hi1 : (0 : Int) ≤ ((m + b : Nat) : Int) := by omega
          have hi2 : ((m + b : Nat) : Int) < (M : Int) := by omega
          have hi3 : (m : Int) + (b : Int) < (M : Int) := by omega
          have hi4 : (0 : Int) ≤ (m : Int) + (b : Int) := by omega
          obtain ⟨c0, c1, c2, c3⟩ := HB1.out.facts
          cases hf : f a b with
          | false =>
            rw [hf] at hct
            have HX := Lib.hid (listNo (n := N) hf)
            clear hf
            go_wp2
            all_goals go_roundw
            case rel => exact ⟨b + 1, A, k, c, by omega, by go_num, by rw [HX.out]; exact HO, by rw [HX.out]; exact HK, HB1, HB0, hb, hz⟩
            case measure => simp [intOf]; omega
          | true =>
            rw [hf] at hct
            have HX := Lib.hid (listYes (n := N) hf)
            clear hf
            have hll := HLL.out a b (by omega) hbN
            go_wp2_with (at_builtin; refine appP2 _ rfl (.tmp 29) (.tmp 33) rfl (w.heap.size + 2) _ _ rfl (HO.out.alloc _) wr.heap.size a b rfl (cellPair _ _ _ _) (by omega) (by simp; omega) ?_; intro A1 k1 c1 w1 HO1 HK1 b1; have HB2 : Hid (BoxR w1 (w.heap.size + 1) N (.slice A k c)) := Lib.hid ((b1.block _ (by omega)).trans (HB1.out.alloc _)); obtain ⟨x0, x1, x2, x3⟩ := HB2.out.facts)
            have bw1 : Below w.heap.size w w1 := (hb.alloc hb.size _).trans (b1.mono (by omega))
            have HB3 := Lib.hid ((b1.block w.heap.size (by omega)).trans (HB0.out.alloc _))
            have hz1 : w.heap.size + 2 ≤ w1.heap.size := by have := b1.size; simp at this; omega
            all_goals go_roundw
            case rel => exact ⟨b + 1, A1, k1, c1, by omega, by go_num, by rw [HX.out]; exact Lib.hid (HO1.out.setCell (by omega)), by rw [HX.out]; exact HK1, Lib.hid (HB2.out.stored1 _), Lib.hid ((heap_setCell_other _ _ _ _ (by show w.heap.size ≠ w.heap.size + 1; omega)).trans HB3.out), belowSet bw1 _ _ (by show w.heap.size ≤ w.heap.size + 1; omega), by simpa using hz1⟩
            case measure => simp [intOf]; omega
        · obtain rfl : b = N := by omega
          have HX := Lib.hid (listRow (f := f) (n := b) (a := a))
          go_wp2
          go_roundw
          case rel => exact ⟨a + 1, A, k, c, by omega, by go_num, by rw [← HX.out]; exact HO, by rw [← HX.out]; exact HK, HB1, HB0, hb, hz⟩
          case measure => simp [intOf]; omega
    · obtain rfl : a = N := by omega
      have HX := Lib.hid ((listEnd (f := f) (n := a)).trans hL)
      obtain ⟨c0, c1, c2, c3⟩ := HB1.out.facts
      obtain ⟨d0, d1, d2, d3⟩ := HB0.out.facts
      go_wp2
      have HB4 := Lib.hid (HB0.out.stored a (.slice A k c))
      have HO4 := Lib.hid ((HO.out.setCell (i := 0) (u := .int .i64 a) (show w.heap.size < w.heap.size + 2 by omega)).setCell (i := 1) (u := .slice A k c) (show w.heap.size < w.heap.size + 2 by omega))
      refine bodyPost_ret (ResR HB4.out rfl _ rfl) rfl ?_
      rw [HX.out] at HO4 HK
      obtain ⟨A', c', e, hr, _⟩ := HO4.out.rd
      injection e with e1 e2 e3
      subst e1; subst e2; subst e3
      exact ⟨_, _, rfl, hr, belowSet (belowSet hb _ _ (Nat.le_refl _)) _ _ (Nat.le_refl _)⟩
end Go.Proofs.Ytpfdhjmhoggioaa
