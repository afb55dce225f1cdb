/-
  The contract of decode: the integer at the beginning of some bytes.
-/
import Derived.Test.YtcbipokohjajoaaFCut
import Derived.Test.YtcbipokohjajoaaFrmM
import Derived.Outline
import Derived.LoopTactic
import Derived.WalkKit
import Derived.Lib.Hide
import Derived.Laws.BitsAllLaws
import Derived.Deep.QuietTactic
import Derived.BigQuiet
namespace Go.Proofs.Ytcbipokohjajoaa
open Go.RowKit

theorem orVal {m y k : Nat} (hm : m < 128 ^ k) (hk : k ≤ 8) : bits .or .i64 (m : Int) (wrap64 ((y : Int) % 128 * 2 ^ (7 * k))) = ((m + 128 ^ k * (y % 128) : Nat) : Int) := by
  have e1 : (2 : Nat) ^ (7 * k) = 128 ^ k := by rw [Nat.pow_mul]
  have hp : 128 ^ k ≤ 128 ^ 8 := Nat.pow_le_pow_right (by omega) hk
  have hy : y % 128 < 128 := Nat.mod_lt _ (by omega)
  have hle : 128 ^ k * (y % 128) ≤ 128 ^ 8 * 127 := Nat.mul_le_mul hp (by omega)
  have e2 : ((y : Int) % 128 * 2 ^ (7 * k)) = ((128 ^ k * (y % 128) : Nat) : Int) := by
    rw [← e1]; simp; exact Int.mul_comm _ _
  have hw : wrap64 ((128 ^ k * (y % 128) : Nat) : Int) = ((128 ^ k * (y % 128) : Nat) : Int) := IntWalk.wrap64_in _ ⟨by omega, by omega⟩
  have e3 := (bits_nat .i64 63 (by decide) (fun n h0 h1 => by rw [IntKind.wrap_i64]; omega) m (128 ^ k * (y % 128)) (by omega) (by omega)).2
  rw [e2, hw, e3, Nat.or_comm, ← e1, ← Nat.two_pow_add_eq_or_of_lt (by rw [e1]; exact hm), Nat.add_comm]
/-- What holds when a byte below 128 has been met at k. -/
theorem dnHere {l : List UInt8} {k : Nat} {x : UInt8} (h : k ≤ dn l) (hk : k < l.length) (hx : l[k] = x) (hlt : x.toNat < 128) : dn l = k := by
  refine dnUniq l k x (fun j hj => dnGe l j (by omega)) ?_ hlt
  rw [List.getElem?_eq_getElem hk, hx]
theorem dnMore {l : List UInt8} {k : Nat} {x : UInt8} (h : k ≤ dn l) (hk : k < l.length) (hx : l[k] = x) (hge : ¬ x.toNat < 128) : k + 1 ≤ dn l := by
  refine dnMono l (k + 1) fun j hj => ?_
  rcases Nat.lt_or_ge j k with h1 | h1
  · exact dnGe l j (by omega)
  · obtain rfl : j = k := by omega
    exact ⟨x, by rw [List.getElem?_eq_getElem hk, hx], by omega⟩
theorem valNext {l : List UInt8} {k m : Nat} {x : UInt8} (hk : k < l.length) (hx : l[k] = x) (hm : valL (l.take k) = m) : valL (l.take (k + 1)) = m + 128 ^ k * (x.toNat % 128) := by
  rw [List.take_succ_eq_append_getElem hk, valSnoc, hm, hx, List.length_take, Nat.min_eq_left (by omega)]
theorem valBd {l : List UInt8} {k m : Nat} (hm : valL (l.take k) = m) (hk : k ≤ l.length) : m < 128 ^ k := by
  have := valLt (l.take k)
  rw [hm, List.length_take, Nat.min_eq_left hk] at this
  exact this
/-- decode's results: the bytes behind the integer lie where its argument lies. -/
def GivesD (A0 : Option Addr) (x : Value) (l : List UInt8) (err : Nat) (w : World) (e : Ending) (w' : World) : Prop := ∃ A q c, e = .returned (.tuple #[x, .slice A q c, .int .i64 err]) ∧ Hid (l.length = q) ∧ Rb w' A c l ∧ Hid (∀ ad, A = some ad → ∃ ad0, A0 = some ad0 ∧ ad.block = ad0.block) ∧ Below w.heap.size w w'
theorem GivesD.err {A0 : Option Addr} {l : List UInt8} {w w' : World} (k : Nat) (h : errU l = k) (h0 : k ≠ 0) (hb : Below w.heap.size w w') : GivesD A0 (.int .i64 (valU l)) (resU l) (errU l) w (.returned (.tuple #[.int .i64 0, .slice none 0 0, .int .i64 k])) w' := by
  have e1 : valU l = 0 := by unfold valU; rw [if_neg (by omega)]
  have e2 : resU l = [] := by unfold resU; rw [if_neg (by omega)]
  rw [h, e1, e2]
  exact ⟨none, 0, 0, rfl, Lib.hid rfl, Rb.nil, Lib.hid (by simp), hb⟩
theorem GivesD.ok {l : List UInt8} {w w' : World} {A0 A : Option Addr} {c n k M : Nat} (hn : l.length = n) (h : errU l = 0) (hd : dn l = k) (hM : valL (l.take (k + 1)) = M) (hr : Rb w' A c (l.drop (k + 1))) (hA : ∀ ad, A = some ad → ∃ ad0, A0 = some ad0 ∧ ad.block = ad0.block) (hb : Below w.heap.size w w') : GivesD A0 (.int .i64 (valU l)) (resU l) (errU l) w (.returned (.tuple #[.int .i64 M, .slice A (n - (k + 1)) c, .int .i64 0])) w' := by
  have e1 : valU l = M := by unfold valU; rw [if_pos h, hd, hM]
  have e2 : resU l = l.drop (k + 1) := by unfold resU; rw [if_pos h, hd]
  rw [h, e1, e2]
  exact ⟨A, n - (k + 1), c, rfl, Lib.hid (by rw [List.length_drop, hn]), hr, Lib.hid hA, hb⟩
theorem GivesT.err {l : List UInt8} {w w' : World} (k : Nat) (h : errU l = k) (h0 : k ≠ 0) (hb : Below w.heap.size w w') : GivesT (.int .i64 (valU l)) (resU l) (errU l) w (.returned (.tuple #[.int .i64 0, .slice none 0 0, .int .i64 k])) w' := by
  have e1 : valU l = 0 := by unfold valU; rw [if_neg (by omega)]
  have e2 : resU l = [] := by unfold resU; rw [if_neg (by omega)]
  rw [h, e1, e2]
  exact ⟨none, 0, 0, rfl, Lib.hid rfl, Rb.nil, hb⟩
theorem GivesT.ok {l : List UInt8} {w w' : World} {A : Option Addr} {c n k M : Nat} (hn : l.length = n) (h : errU l = 0) (hd : dn l = k) (hM : valL (l.take (k + 1)) = M) (hr : Rb w' A c (l.drop (k + 1))) (hb : Below w.heap.size w w') : GivesT (.int .i64 (valU l)) (resU l) (errU l) w (.returned (.tuple #[.int .i64 M, .slice A (n - (k + 1)) c, .int .i64 0])) w' := by
  have e1 : valU l = M := by unfold valU; rw [if_pos h, hd, hM]
  have e2 : resU l = l.drop (k + 1) := by unfold resU; rw [if_pos h, hd]
  rw [h, e1, e2]
  exact ⟨A, n - (k + 1), c, rfl, Lib.hid (by rw [List.length_drop, hn]), hr, hb⟩
set_option maxRecDepth 100000 in
set_option maxHeartbeats 1000000 in
theorem iDec (l : List UInt8) (n : Nat) (hn : l.length = n) (A : Option Addr) (c : Nat) (w : World) (ha : Rb w A c l) :
    Calls Try.prog 35 #[.slice A n c] w (GivesD A (.int .i64 (valU l)) (resU l) (errU l) w) := by
  have hle := ha.le
  have hmax := ha.max
  unfold maxLen at hmax
  rw [hn] at hle
  have HN := Lib.hid hn; clear hn
  have HA := Lib.hid ha; clear ha
  go_enter Try.func35, Try.ntmps35
  go_wp2
  go_step3
  go_wp2
  go_step3
  go_wp2
  go_loopw [5, 6, 11] (fun vn vs vi wr => ∃ k m : Nat, k ≤ n ∧ k ≤ 8 ∧ vi = .int .i64 k ∧ vn = .int .i64 m ∧ vs = .int .i64 0 ∧ Hid (k ≤ dn l ∧ valL (l.take k) = m) ∧ Below w.heap.size w wr) (fun _ _ vi _ => n - (intOf vi).toNat)
  case atStart => exact ⟨0, 0, Nat.zero_le _, Nat.zero_le _, rfl, rfl, rfl, Lib.hid ⟨Nat.zero_le _, by simp [valL]⟩, Below.refl _ _⟩
  case round =>
    obtain ⟨k, m, hk, hk8, rfl, rfl, rfl, HM, hb⟩ := hrel
    by_cases hlt : k < n
    · have hkl : k < l.length := by have := HN.out; omega
      have HR := Lib.hid (tailRb HA.out (k := k + 1) (by omega))
      have hcut := cutB A n c (k + 1) (by omega) ((k : Int) + 1) (by omega)
      obtain ⟨T, hT⟩ : ∃ T, tailA A c (k + 1) = T := ⟨_, rfl⟩
      rw [hT] at HR hcut
      obtain ⟨ad, hAd, hbl, hcell⟩ := HA.out.one hkl
      have HTB := Lib.hid (show ∀ ad, T = some ad → ∃ ad0, A = some ad0 ∧ ad.block = ad0.block from fun a2 h2 => tailBlock (hT.trans h2))
      clear hT
      subst hAd
      have hcw := (hb.cell (p := ad.add k) (by rw [addBlock]; exact hbl)).trans hcell
      obtain ⟨x, hx⟩ : ∃ x, l[k] = x := ⟨_, rfl⟩
      rw [hx] at hcw
      have hxlt := UInt8.toNat_lt x
      have HV := valNext hkl hx HM.out.2
      have hor := orVal (y := x.toNat) (valBd HM.out.2 (by omega)) hk8
      rw [← HV] at hor
      obtain ⟨M, hM⟩ : ∃ M, valL (l.take (k + 1)) = M := ⟨_, rfl⟩
      rw [hM] at hor
      have hMb := valBd hM (by omega)
      have hMb2 : M < 128 ^ 9 := Nat.lt_of_lt_of_le hMb (Nat.pow_le_pow_right (by omega) (by omega))
      have hMi : (M : Int) ≤ 9223372036854775807 := by omega
      have HM1 := Lib.hid hM
      have HX := Lib.hid hx
      clear hcell hM HV hx hMb hMb2
      obtain ⟨y, hy⟩ : ∃ y, x.toNat = y := ⟨_, rfl⟩
      rw [hy] at hcw hxlt hor
      have HY := Lib.hid hy; clear hy
      by_cases hc : y < 128
      · have HD := Lib.hid (dnHere HM.out.1 hkl HX.out (by rw [HY.out]; exact hc))
        have hs0 : (((k : Int) + 1) == 0) = false := by simp; omega
        have HG := Lib.hid (getD_one l k x (by rw [List.getElem?_eq_getElem hkl, HX.out]))
        by_cases hf : 0 < k ∧ y = 0
        · obtain ⟨hf1, rfl⟩ := hf
          have HE := Lib.hid (show errU l = 3 by
            unfold errU
            have hx0 : x = 0 := UInt8.toNat_inj.1 (by rw [HY.out]; rfl)
            rw [HD.out, if_neg (by omega), if_neg (by omega), if_pos ⟨hf1, by rw [HG.out, hx0]⟩])
          go_wp2
          try rw [Exit.noGoto_ret]
          go_ret3
          exact GivesD.err 3 HE.out (by decide) hb
        · have hx0 : x ≠ 0 ∨ k = 0 := by
            rcases Nat.eq_zero_or_pos k with h | h
            · exact .inr h
            · refine .inl fun e => hf ⟨h, ?_⟩
              rw [← HY.out, e]; rfl
          have hef : ¬ (0 < k ∧ l.getD k 1 = 0) := by
            rintro ⟨h1, h2⟩
            rw [HG.out] at h2
            rcases hx0 with h | h
            · exact h h2
            · omega
          by_cases hbig : 4611686018427387904 < M
          · have HE := Lib.hid (show errU l = 2 by
              unfold errU
              rw [HD.out, if_neg (by omega), if_neg (by omega), if_neg hef, HM1.out, if_pos hbig])
            have hbig' : 4611686018427387904 < (M : Int) := by omega
            clear hef hx0
            rcases Nat.eq_zero_or_pos k with hk0 | hk0
            · have hk1 : ¬ (1 : Int) < (k : Int) + 1 := by omega
              have hk2 : decide ((k : Int) + 1 > 1) = false := by simp; omega
              clear hf hk0
              go_wp2
              try rw [Exit.noGoto_ret]
              go_ret3
              exact GivesD.err 2 HE.out (by decide) hb
            · have hy0 : ((y : Int) == 0) = false := by simp; intro e; exact hf ⟨hk0, e⟩
              have hk1 : (1 : Int) < (k : Int) + 1 := by omega
              clear hf
              go_wp2
              try rw [Exit.noGoto_ret]
              go_ret3
              exact GivesD.err 2 HE.out (by decide) hb
          · have HE := Lib.hid (show errU l = 0 by
              unfold errU
              rw [HD.out, if_neg (by omega), if_neg (by omega), if_neg hef, HM1.out, if_neg hbig])
            have hbig' : (M : Int) ≤ 4611686018427387904 := by omega
            clear hef hx0
            rcases Nat.eq_zero_or_pos k with hk0 | hk0
            · have hk1 : ¬ (1 : Int) < (k : Int) + 1 := by omega
              have hk2 : decide ((k : Int) + 1 > 1) = false := by simp; omega
              clear hf hk0
              go_wp2
              go_quiet (fail)
              go_wp2
              try rw [Exit.noGoto_ret]
              go_ret3
              exact GivesD.ok HN.out HE.out HD.out HM1.out ((HR.out.below hb).drewN _) HTB.out (belowThen hb (belowN _ _))
            · have hy0 : ((y : Int) == 0) = false := by simp; intro e; exact hf ⟨hk0, e⟩
              have hk1 : (1 : Int) < (k : Int) + 1 := by omega
              clear hf
              go_wp2
              go_quiet (fail)
              go_wp2
              try rw [Exit.noGoto_ret]
              go_ret3
              exact GivesD.ok HN.out HE.out HD.out HM1.out ((HR.out.below hb).drewN _) HTB.out (belowThen hb (belowN _ _))
      · by_cases h8 : k = 8
        · have h8' : ((k : Int) == 8) = true := by simp; omega
          have HE := Lib.hid (show errU l = 2 by
            have h9 := dnMore HM.out.1 hkl HX.out (by rw [HY.out]; exact hc)
            unfold errU
            rw [if_pos (by omega)])
          have HK := Lib.hid h8; clear h8
          go_wp2
          try rw [Exit.noGoto_ret]
          go_ret3
          exact GivesD.err 2 HE.out (by decide) hb
        · have h8' : ((k : Int) == 8) = false := by simp; omega
          have h9 := dnMore HM.out.1 hkl HX.out (by rw [HY.out]; exact hc)
          have HH := Lib.hid (show k + 1 ≤ dn l ∧ valL (l.take (k + 1)) = M from ⟨h9, HM1.out⟩)
          clear h9
          go_wp2
          go_roundw
          case rel => exact ⟨k + 1, M, by omega, by omega, by go_num, rfl, rfl, HH, hb⟩
          case measure => simp [intOf]; omega
    · have HE := Lib.hid (show errU l = 22 by
        have h1 := HM.out.1
        have h2 := dnLe l
        have h3 := HN.out
        unfold errU
        rw [if_neg (by omega), if_pos (by omega)])
      go_wp2
      try rw [Exit.noGoto_ret]
      go_ret3
      exact GivesD.err 22 HE.out (by decide) hb
end Go.Proofs.Ytcbipokohjajoaa
