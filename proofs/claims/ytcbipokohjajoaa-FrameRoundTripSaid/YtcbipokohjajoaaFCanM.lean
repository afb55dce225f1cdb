/-
  What decodes is the encoding of what it decodes to; and decoding what was encoded: slices, strings, frames; without any program.
-/
import Derived.Test.YtcbipokohjajoaaFLst2
import Derived.Test.YtcbipokohjajoaaFStr
import Derived.Test.YtcbipokohjajoaaFSeal
import Derived.Test.YtcbipokohjajoaaFBurM
namespace Go.Proofs.Ytcbipokohjajoaa

open Go.RowKit in
/-- append of bytes onto a row of the call's own, where the operation stands under a guard that holds. -/
theorem appBg (w : World) {ops : Array Oper} {rest : List Oper} {o : Oper} {a : Act} {Q : Exit → Act → World → Prop} (hgd : Region.wanted o (yielded ops a.tmps) = true) (s x : Operand)
    (ho : o.op = .call { callee := .builtin .append, args := #[s, x], argTypes := #[22, 22] })
    (base : Nat) (v : Value) (l : List UInt8) (hs : a.eval s = v) (hown : OwnB w base v l)
    (A : Option Addr) (m c : Nat) (news : List UInt8) (hx : a.eval x = .slice A m c) (hm : m = news.length) (hr : Rb w A c news)
    (hb : l.length + news.length ≤ 1000000) (hbase : base ≤ w.heap.size)
    (h : ∀ v' w', OwnB w' base v' (l ++ news) → Below base w w' → wpList Try.prog ops Q rest (a.put o.dst v') w') :
    wpList Try.prog ops Q (o :: rest) a w := by
  obtain ⟨i0, hi, hz0, hz1, hz2⟩ := info_parts infoB
  refine wpList_step fun K hK => ?_
  rw [if_pos hgd]
  obtain ⟨v', w', hrun, h2, _, h4, _⟩ := runApp (P := Try.prog) w base 22 o.type 5 i0 _ 1 Try.underlying22 hi hz0 hz1 hz2 rfl v l.length (bv l) hown A m c (bv news) (by simpa using hm) hr (bvOne _) (by omega) (by unfold maxLen; omega) hbase
  unfold Oper.wp execOp
  simp only [ho, resolve, invoke, builtin, Sem.run_bind, Sem.run_pure, Result.andThen_ok, List.map_toArray, List.map_cons, List.map_nil, hs, hx, hrun]
  refine hK _ _ (h v' w' ?_ ?_)
  · unfold OwnB bv
    rw [List.length_append, List.map_append, ← hm]
    exact h2
  · exact (Below.refl base w).grown h4 hbase fun k hk => (World.ownsRow.lt hown k hk).1
theorem sgnBd {n : Nat} (h : n ≤ 4611686018427387904) : -9223372036854775808 ≤ sgn n ∧ sgn n ≤ 9223372036854775807 := by
  have := sgnFit h
  unfold fitS at this
  simp at this
  omega
/-- Decoded integers, encoded, are the bytes that were read. -/
theorem intsBack : ∀ (k : Nat) (l : List UInt8), (ints k l).2.2 = 0 → (ints k l).1.length = k ∧ (ints k l).1.all fitS = true ∧ (ints k l).1.flatMap encS ++ (ints k l).2.1 = l
  | 0, l, _ => by simp [ints]
  | k + 1, l, h => by
    by_cases he : errU l = 0
    · rw [intsOk he] at h ⊢
      by_cases h2 : (ints k (resU l)).2.2 = 0
      · obtain ⟨i1, i2, i3⟩ := intsBack k (resU l) h2
        rw [if_pos h2]
        refine ⟨by simp [i1], by simp [i2, sgnFit (valLeU l)], ?_⟩
        simp only [List.flatMap_cons, List.append_assoc, i3, encSgn (valLeU l)]
        exact (decEnc he).1
      · rw [if_neg h2] at h; exact absurd h h2
    · rw [intsErr he] at h; exact absurd h he
theorem intsOne (l : List UInt8) (most : Int) (h : (intsD l most).2.2 = 0) : errU l = 0 ∧ (valU l : Int) ≤ max most 0 ∧ (intsD l most).1.length = valU l ∧ (intsD l most).1.all fitS = true ∧ appIs [] (intsD l most).1 ++ (intsD l most).2.1 = l := by
  unfold intsD at h ⊢
  by_cases hd : errD l most = 0
  · rw [if_pos hd] at h ⊢
    have hu : errU l = 0 := by
      by_cases h0 : errU l = 0
      · exact h0
      · rw [errDNo h0] at hd; exact hd
    have hm : (valU l : Int) ≤ max most 0 := by
      by_cases h0 : max most 0 < (valU l : Int)
      · rw [errDBig hu h0] at hd; cases hd
      · omega
    obtain ⟨i1, i2, i3⟩ := intsBack _ _ h
    refine ⟨hu, hm, i1, i2, ?_⟩
    rw [appIsOk i2, i1, List.nil_append, List.append_assoc, i3]
    exact (decEnc hu).1
  · rw [if_neg hd] at h; exact absurd h hd
theorem strOne (l : List UInt8) (most : Int) (h : errT l most = 0) : encL (strT l most).length ++ strT l most ++ resT l most = l := by
  have hd : errD l most = 0 := by
    by_cases h0 : errD l most = 0
    · exact h0
    · rw [errTD h0] at h; exact absurd h h0
  have hu : errU l = 0 := by
    by_cases h0 : errU l = 0
    · exact h0
    · rw [errDNo h0] at hd; exact hd
  have hl : ¬ (resU l).length < valU l := fun h0 => by rw [errTS hd h0] at h; cases h
  rw [(strTOk h).1, (strTOk h).2, List.length_take, Nat.min_eq_left (by omega), List.append_assoc, List.take_append_drop]
  exact (decEnc hu).1
theorem sealOne (l : List UInt8) (h : errO l = 0) : sealL (payO l) ++ aftO l = l ∧ (payO l).length = valU l := by
  have hu : errU l = 0 := by
    by_cases h0 : errU l = 0
    · exact h0
    · rw [errOU h0] at h; exact absurd h h0
  have hl : ¬ (resU l).length < valU l + 4 := fun h0 => by rw [errOS hu h0] at h; cases h
  have hs : (l.drop (sumAt l)).take 4 = sumB (crc (l.take (sumAt l))) := by
    by_cases h0 : (l.drop (sumAt l)).take 4 = sumB (crc (l.take (sumAt l)))
    · exact h0
    · rw [errOSum hu hl h0] at h; cases h
  have hp : payO l = (resU l).take (valU l) := by unfold payO; rw [if_pos h]
  have hpl : (payO l).length = valU l := by rw [hp, List.length_take]; omega
  have ha : aftO l = l.drop (sumAt l + 4) := by unfold aftO; rw [if_pos h]
  have ht : l.take (sumAt l) = encL (payO l).length ++ payO l := by
    rw [hpl, hp]
    have h1 := (decEnc hu).1
    have h2 : l.length = (encL (valU l)).length + (resU l).length := by conv => lhs; rw [← h1, List.length_append]
    have h3 : sumAt l = (encL (valU l)).length + valU l := by unfold sumAt; omega
    have h4 : (encL (valU l) ++ resU l).take ((encL (valU l)).length + valU l) = encL (valU l) ++ (resU l).take (valU l) := takeSum
    rw [h1] at h4
    rw [h3]; exact h4
  refine ⟨?_, hpl⟩
  unfold sealL
  rw [ha, ← ht, ← hs, ← List.drop_drop, List.append_assoc, List.take_append_drop, List.take_append_drop]
/-- Decoding encoded integers. -/
theorem intsFwd : ∀ (L : List Int) (r : List UInt8), L.all fitS = true → ints L.length (L.flatMap encS ++ r) = (L, r, 0)
  | [], r, _ => by simp [ints]
  | x :: L, r, h => by
    rw [List.all_cons, Bool.and_eq_true] at h
    have hz := zigFit h.1
    have he : encS x = encL (zig x).toNat := by unfold encS; rw [if_pos h.1]
    obtain ⟨h1, h2, h3⟩ := errEnc (n := (zig x).toNat) (by omega) (L.flatMap encS ++ r)
    rw [List.flatMap_cons, List.length_cons, he, List.append_assoc, intsOk h1, h2, h3, intsFwd L r h.2, sgnZig]
    simp
theorem intsRound (L : List Int) (r : List UInt8) (h : L.all fitS = true) (hl : L.length ≤ 100000) : intsD (appIs [] L ++ r) L.length = (L, r, 0) := by
  rw [appIsOk h, List.nil_append, List.append_assoc]
  obtain ⟨h1, h2, h3⟩ := errEnc (n := L.length) (by omega) (L.flatMap encS ++ r)
  unfold intsD
  rw [if_pos (errDOk h1 (by rw [h2]; omega)), h2, h3, intsFwd L r h]
theorem strRound (s r : List UInt8) (hl : s.length ≤ 100000) : errT (encL s.length ++ s ++ r) s.length = 0 ∧ strT (encL s.length ++ s ++ r) s.length = s ∧ resT (encL s.length ++ s ++ r) s.length = r := by
  rw [List.append_assoc]
  obtain ⟨h1, h2, h3⟩ := errEnc (n := s.length) (by omega) (s ++ r)
  have he : errT (encL s.length ++ (s ++ r)) s.length = 0 := errTO (errDOk h1 (by rw [h2]; omega)) (by rw [h2, h3, List.length_append]; omega)
  refine ⟨he, ?_, ?_⟩
  · rw [(strTOk he).1, h2, h3, List.take_left]
  · rw [(strTOk he).2, h2, h3, List.drop_left]
end Go.Proofs.Ytcbipokohjajoaa
