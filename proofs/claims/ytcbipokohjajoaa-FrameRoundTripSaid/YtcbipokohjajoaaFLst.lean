/-
  The contracts of decodeLength, Ints, AppendInts and of the reference's Int, Ints, AppendInts.
-/
import Derived.Test.YtcbipokohjajoaaFRef
import Derived.Test.YtcbipokohjajoaaFrmL
import Derived.Test.YtcbipokohjajoaaFEq
import Derived.WalkSpells
namespace Go.Proofs.Ytcbipokohjajoaa
open Go.RowKit

theorem errLe (l : List UInt8) : errU l ≤ 22 := by unfold errU; split <;> (try omega); split <;> (try omega); split <;> (try omega); split <;> omega
theorem valErr {l : List UInt8} (h : errU l ≠ 0) : valU l = 0 ∧ resU l = [] := by unfold valU resU; rw [if_neg h, if_neg h]; exact ⟨rfl, rfl⟩
theorem errDNo {l : List UInt8} {most : Int} (h : errU l ≠ 0) : errD l most = errU l := by unfold errD; rw [if_neg (fun x => h x.1)]
theorem errDBig {l : List UInt8} {most : Int} (h : errU l = 0) (h2 : max most 0 < (valU l : Int)) : errD l most = 4 := by unfold errD; rw [if_pos ⟨h, h2⟩]
theorem errDOk {l : List UInt8} {most : Int} (h : errU l = 0) (h2 : ¬ max most 0 < (valU l : Int)) : errD l most = 0 := by unfold errD; rw [if_neg (fun x => h2 x.2), h]
/-- append of integers onto a row of the call's own: no other block turns. -/
theorem appIG (w : World) {ops : Array Oper} {rest : List Oper} {o : Oper} {a : Act} {Q : Exit → Act → World → Prop} (hgd : o.guard = none) (s x : Operand)
    (ho : o.op = .call { callee := .builtin .append, args := #[s, x], argTypes := #[30, 30] })
    (base : Nat) (v : Value) (l : List Int) (hs : a.eval s = v) (hown : OwnI w base v l)
    (A : Option Addr) (m c : Nat) (news : List Int) (hx : a.eval x = .slice A m c) (hm : m = news.length) (hr : Rd w A c news)
    (hb : l.length + news.length ≤ 1000000) (hbase : base ≤ w.heap.size)
    (h : ∀ v' w', OwnI w' base v' (l ++ news) → w.grownBy w' v.ownBlock → Below base w w' → wpList Try.prog ops Q rest (a.put o.dst v') w') :
    wpList Try.prog ops Q (o :: rest) a w := by
  obtain ⟨i0, hi, hz0, hz1, hz2⟩ := info_parts infoInt
  refine wpList_app w hgd s x 30 ho base 3 i0 _ 8 Try.underlying30 hi hz0 hz1 hz2 rfl v l.length (iv l) hs hown A m c (iv news) hx (by simpa using hm) hr (ivOne _) (by omega) (by unfold maxLen; omega) hbase fun v' w' h1 _ h3 _ => h v' w' ?_ h3 ?_
  · unfold OwnI iv
    rw [List.length_append, List.map_append, ← hm]
    exact h1
  · exact (Below.refl base w).grown h3 hbase fun k hk => (World.ownsRow.lt hown k hk).1
/-- What decodeLength gives where there is no error. -/
def LenOk (E : Nat) (l : List UInt8) (x q : Nat) (A0 B : Option Addr) (d : Nat) (w' : World) : Prop := E = 0 → x = valU l ∧ (resU l).length = q ∧ Rb w' B d (resU l) ∧ ∀ ad, B = some ad → ∃ ad0, A0 = some ad0 ∧ ad.block = ad0.block
/-- decodeLength: the error, and without one the length and the bytes behind it. -/
theorem iDecL (l : List UInt8) (most : Int) (n : Nat) (hn : l.length = n) (A : Option Addr) (c : Nat) (w : World) (ha : Rb w A c l) :
    Calls Try.prog 41 #[.slice A n c, .int .i64 most] w fun e w' => ∃ (x : Nat) (B : Option Addr) (q d : Nat), e = .returned (.tuple #[.int .i64 x, .slice B q d, .int .i64 (errD l most)]) ∧ LenOk (errD l most) l x q A B d w' ∧ Below w.heap.size w w' := by
  have HD := Lib.hid (iDec l n hn A c w ha); clear ha hn
  by_cases h : errU l = 0
  · obtain ⟨V, hV⟩ : ∃ V, valU l = V := ⟨_, rfl⟩
    rw [h, hV] at HD
    by_cases hb : max most 0 < (V : Int)
    · have HE := Lib.hid (errDBig (most := most) h (by rw [hV]; exact hb))
      rw [HE.out]
      rcases Int.lt_or_le most 0 with hm | hm
      · have hx : ((if (0 : Int) < most then most else 0) < (V : Int)) := by rw [if_neg (by omega)]; omega
        have hy : (0 : Int) < V := by omega
        clear hb h hV
        go_enter Try.func41, Try.ntmps41
        go_wp2_with fail
        refine HD.out.mono ?_
        rintro e w1 ⟨B, q, d, rfl, hq, r1, hlow, b1⟩
        go_wp2
        go_ret3
        exact ⟨0, none, 0, 0, rfl, fun h0 => absurd h0 (by decide), b1⟩
      · clear h hV
        go_enter Try.func41, Try.ntmps41
        go_wp2_with fail
        refine HD.out.mono ?_
        rintro e w1 ⟨B, q, d, rfl, hq, r1, hlow, b1⟩
        go_wp2
        go_ret3
        exact ⟨0, none, 0, 0, rfl, fun h0 => absurd h0 (by decide), b1⟩
    · have HE := Lib.hid (errDOk (most := most) h (by rw [hV]; exact hb))
      rw [HE.out]
      have HV := Lib.hid hV
      clear h hV
      go_enter Try.func41, Try.ntmps41
      go_wp2_with fail
      refine HD.out.mono ?_
      rintro e w1 ⟨B, q, d, rfl, hq, r1, hlow, b1⟩
      go_wp2
      all_goals go_ret3
      all_goals exact ⟨V, B, q, d, rfl, fun _ => ⟨HV.out.symm, hq.out, r1, hlow.out⟩, b1⟩
  · have HE := Lib.hid (errDNo (most := most) h)
    have hv := valErr h
    rw [hv.1, hv.2] at HD
    rw [HE.out]
    obtain ⟨E, hE⟩ : ∃ E, errU l = E := ⟨_, rfl⟩
    rw [hE] at h HD ⊢
    have hE0 : ((E : Int) == 0) = false := by simp; omega
    clear hE HE hv
    go_enter Try.func41, Try.ntmps41
    go_wp2_with fail
    refine HD.out.mono ?_
    rintro e w1 ⟨B, q, d, rfl, hq, r1, hlow, b1⟩
    go_wp2
    go_ret3
    exact ⟨0, B, q, d, rfl, fun h0 => absurd h0 h, b1⟩
/-- The call returns integers, the bytes behind them and an error. -/
def GivesN (t : List Int × List UInt8 × Nat) (w : World) (e : Ending) (w' : World) : Prop :=
  ∃ A q c B k d, e = .returned (.tuple #[.slice A q c, .slice B k d, .int .i64 t.2.2]) ∧ Hid (t.1.length = q) ∧ Hid (t.2.1.length = k) ∧ Rd w' A c t.1 ∧ Rb w' B d t.2.1 ∧ Below w.heap.size w w'
theorem GivesN.mk {w w' : World} {A B : Option Addr} {q c k d E : Nat} {L : List Int} {R : List UInt8} {t : List Int × List UInt8 × Nat} (ht : (L, R, E) = t) (hq : L.length = q) (hk : R.length = k) (h1 : Rd w' A c L) (h2 : Rb w' B d R) (hb : Below w.heap.size w w') : GivesN t w (.returned (.tuple #[.slice A q c, .slice B k d, .int .i64 E])) w' := by
  subst ht
  exact ⟨A, q, c, B, k, d, rfl, Lib.hid hq, Lib.hid hk, h1, h2, hb⟩
theorem GivesN.err {w w' : World} {E : Nat} {t : List Int × List UInt8 × Nat} (ht : ([], [], E) = t) (hb : Below w.heap.size w w') : GivesN t w (.returned (.tuple #[.slice none 0 0, .slice none 0 0, .int .i64 E])) w' := GivesN.mk ht rfl rfl Rd.nil Rb.nil hb
theorem Rd.litOne (w : World) (x : Int) : Rd (w.alloc (.cells #[.int .i64 x] 3)) (some ⟨w.heap.size, 0, none⟩) 1 [x] := Rd.lit w [x] 3 (by simp)
set_option maxRecDepth 100000 in
set_option maxHeartbeats 1000000 in
theorem iInts (l : List UInt8) (most : Int) (n : Nat) (hn : l.length = n) (hs : n ≤ 300000) (A : Option Addr) (c : Nat) (w : World) (ha : Rb w A c l) :
    Calls Try.prog 20 #[.slice A n c, .int .i64 most] w (GivesN (intsD l most) w) := by
  have HD := Lib.hid (iDecL l most n hn A c w ha)
  have hlow0 : errU l = 0 → ∀ ad0, A = some ad0 → ad0.block < w.heap.size := fun h ad0 e => by
    have h1 := (decEnc h).2.2.1
    obtain ⟨ad, e1, h2, _⟩ := ha.one h1
    rw [e] at e1
    injection e1 with e1
    rw [e1]; exact h2
  clear ha
  have hvl := valLeU l
  have hrl := resLenLe l
  rw [hn] at hrl
  clear hn
  by_cases h : errD l most = 0
  · obtain ⟨t, ht⟩ : ∃ t, intsD l most = t := ⟨_, rfl⟩
    have HT := Lib.hid (show ints (valU l) (resU l) = t by rw [← ht]; unfold intsD; rw [if_pos h])
    have hl1 := hlow0 (by
      by_cases h0 : errU l = 0
      · exact h0
      · rw [errDNo h0] at h; exact h)
    rw [h] at HD
    rw [ht]
    clear ht h hlow0
    go_enter Try.func20, Try.ntmps20
    go_wp2_with fail
    refine HD.out.mono ?_
    rintro e w1 ⟨V, B, q, d, rfl, hX, b1⟩
    obtain ⟨hxv, hxq, r1, hlow⟩ := hX rfl
    subst hxv
    obtain ⟨V, hV⟩ : ∃ V, valU l = V := ⟨_, rfl⟩
    obtain ⟨R0, hR⟩ : ∃ R0, resU l = R0 := ⟨_, rfl⟩
    rw [hV, hR] at HT
    rw [hV] at hvl ⊢
    rw [hR] at hrl hxq r1
    have HL := Lib.hid (show ∀ ad, B = some ad → 0 < R0.length → ad.block < w.heap.size from fun ad h1 _ => by
      obtain ⟨ad0, e1, e2⟩ := hlow ad h1
      rw [e2]; exact hl1 ad0 e1)
    clear hl1
    have HQ := Lib.hid hxq
    have R1 := Lib.hid r1
    rw [hxq] at hrl
    clear hX hV hR hxq r1 HD hlow
    go_wp2
    go_loopw [8, 10, 25] (fun vr vl vi wr => ∃ (i : Nat) (p : List Int) (R : List UInt8) (q : Nat) (B : Option Addr) (d : Nat), vi = .int .i64 i ∧ i ≤ V ∧ p.length = i ∧ vr = .slice B q d ∧ Hid (R.length = q) ∧ q + i ≤ 300000 ∧ Rb wr B d R ∧ Hid (∀ ad, B = some ad → 0 < R.length → ad.block < w.heap.size) ∧ OwnI wr w.heap.size vl p ∧ Hid (comb p (ints (V - i) R) = t) ∧ Below w.heap.size w wr) (fun _ _ vi _ => V - (intOf vi).toNat)
    case atStart => exact ⟨0, [], R0, q, B, d, rfl, Nat.zero_le _, rfl, rfl, HQ, by omega, R1.out, HL, OwnI.nil _ _, Lib.hid (by rw [combNil]; exact HT.out), b1⟩
    case round =>
      clear HT HQ R1 b1 HL
      obtain ⟨i, p, R, q, B, d, rfl, hi, hp, rfl, HQ, hqi, r1, HL, os, HC, hb⟩ := hrel
      have hz := hb.size
      by_cases hlt : i < V
      · obtain ⟨m, hm⟩ : ∃ m, V - i = m + 1 := ⟨V - i - 1, by omega⟩
        rw [hm] at HC
        have HDD := Lib.hid (iDec R q HQ.out B d wr r1)
        have OS := Lib.hid os; clear os r1
        have HP := Lib.hid hp; clear hp
        by_cases he : errU R = 0
        · have HC2 := Lib.hid ((combNext (p := p) (k := m) he).symm.trans HC.out)
          have hrs := resLen he
          rw [HQ.out] at hrs
          have hvR := valLeU R
          rw [he] at HDD
          obtain ⟨V2, hV2⟩ : ∃ V2, valU R = V2 := ⟨_, rfl⟩
          obtain ⟨R2, hR2⟩ : ∃ R2, resU R = R2 := ⟨_, rfl⟩
          rw [hV2] at HDD HC2 hvR
          rw [hR2] at HDD HC2 hrs
          clear hV2 hR2 he HC
          have HSG := Lib.hid (iSig V2 hvR)
          go_wp2_with fail
          refine HDD.out.mono ?_
          rintro e w2 ⟨B2, q2, d2, rfl, hq2, r2, hlow2, b2⟩
          have hrs2 := hrs
          rw [hq2.out] at hrs2
          have OS2 := Lib.hid (ownChg OS.out (Chg.ofBelow b2 (fun _ => True)) (fun _ _ => trivial))
          have HB2 := Lib.hid (belowThen hb b2)
          have hz2 := HB2.out.size
          have HL2 := Lib.hid (show ∀ ad, B2 = some ad → 0 < R2.length → ad.block < w.heap.size from fun ad ha hp => by
            obtain ⟨ad0, e1, e2⟩ := hlow2.out ad ha
            rw [e2]; exact HL.out ad0 e1 (by have := HQ.out; omega))
          clear hrs
          go_wp2_with fail
          refine (HSG.out w2).mono ?_
          rintro e w0 ⟨rfl, rfl⟩
          go_wp2_with (at_builtin; refine appIG _ rfl (.tmp 36) (.tmp 39) rfl w.heap.size _ p rfl (OwnI.alloc OS2.out _) (some ⟨w2.heap.size, 0, none⟩) 1 1 [sgn V2] rfl rfl (Rd.litOne w2 _) (by rw [HP.out]; simp; omega) (by simp; omega) ?_; intro v3 w3 o3 g3 b3)
          go_roundw
          case rel => exact ⟨i + 1, _, R2, q2, B2, d2, by go_num, by omega, by rw [List.length_append, HP.out]; rfl, rfl, hq2, by omega, (r2.alloc _).chg (Chg.ofGrown g3 (F := fun k => k < w.heap.size) (fun k hk he => by have := World.ownsRow.lt OS2.out k he; omega)) (fun ad ha hp => HL2.out ad ha hp), HL2, o3, Lib.hid (by rw [show V - (i + 1) = m by omega]; exact HC2.out), (HB2.out.alloc hz2 _).trans b3⟩
          case measure => simp [intOf]; omega
        · have HC2 := Lib.hid ((combErr (p := p) (k := m) he).symm.trans HC.out)
          have hv2 := valErr he
          rw [hv2.1, hv2.2] at HDD
          obtain ⟨E, hE⟩ : ∃ E, errU R = E := ⟨_, rfl⟩
          rw [hE] at HDD HC2 he
          have hE0 : ((E : Int) != 0) = true := by simp; omega
          clear hE hv2 he HC
          go_wp2_with fail
          refine HDD.out.mono ?_
          rintro e w2 ⟨B2, q2, d2, rfl, hq2, r2, hlow2, b2⟩
          go_wp2
          go_ret3
          exact GivesN.err HC2.out (belowThen hb b2)
      · have hvi : V - i = 0 := by omega
        have HC2 := Lib.hid (show (p, R, 0) = t by have h := HC.out; rw [hvi, combZero] at h; exact h)
        obtain ⟨AL, cL, rfl, rL, _⟩ := OwnI.rd os
        have RL := Lib.hid rL
        have RR := Lib.hid r1
        clear hvi HC os rL
        rw [hp]
        go_wp2_with fail
        refine (iJoin1 R q HQ.out (by omega) B d wr RR.out).mono ?_
        rintro e w2 ⟨D, j, f, rfl, hj, o2, b2⟩
        have b3 := stepA hb (b2.mono (by simp; omega))
        have b4 := (belowAlloc wr (.cells #[.slice B q d] 22)).trans (b2.mono (by simp))
        have r2 := o2.rb.1
        clear o2 b2
        go_wp2
        go_ret3
        exact GivesN.mk HC2.out hp hj.out (RL.out.below b4) r2 b3
  · have ht : ([], [], errD l most) = intsD l most := by unfold intsD; rw [if_neg h]
    have HT := Lib.hid ht
    obtain ⟨E, hE⟩ : ∃ E, errD l most = E := ⟨_, rfl⟩
    rw [hE] at HD HT h
    have hE0 : ((E : Int) != 0) = true := by simp; omega
    clear ht hE h hlow0
    go_enter Try.func20, Try.ntmps20
    go_wp2_with fail
    refine HD.out.mono ?_
    rintro e w1 ⟨V, B, q, d, rfl, hX, b1⟩
    go_wp2
    go_ret3
    exact GivesN.err HT.out b1
end Go.Proofs.Ytcbipokohjajoaa
