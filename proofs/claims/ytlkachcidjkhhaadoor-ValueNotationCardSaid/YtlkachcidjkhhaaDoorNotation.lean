/-
  Plain facts about notations: the notation of a value reads as the value, and a text that reads as a value is the value's notation.
-/
import Derived.Test.YtlkachcidjkhhaaDoorParseRef
import Derived.Test.YtlkachcidjkhhaaDoorFormat
namespace Go.Proofs.YtlkachcidjkhhaaDoor
open Go.RowKit

theorem ofNatToNat (d : Nat) (h : d < 10) : (UInt8.ofNat (48 + d)).toNat = 48 + d := by
  rw [UInt8.toNat_ofNat']; omega
theorem isDigOf (d : Nat) (h : d < 10) : isDig (UInt8.ofNat (48 + d)) = true := by
  unfold isDig; rw [ofNatToNat d h, Bool.and_eq_true, decide_eq_true_eq, decide_eq_true_eq]; omega

theorem decAll : ∀ (f u : Nat), u < f → (Lib.decDigits u).all isDig = true ∧ dv 0 (Lib.decDigits u) = u ∧ Lib.decDigits u ≠ [] ∧ (u ≠ 0 → ((Lib.decDigits u).head? != some 48) = true)
  | 0, u, h => absurd h (by omega)
  | f + 1, u, h => by
    by_cases hs : u < 10
    · rw [Lib.decDigits_one hs]
      refine ⟨by rw [List.all_cons, isDigOf u hs]; rfl, ?_, by simp, fun hu => ?_⟩
      · show 0 * 10 + ((UInt8.ofNat (48 + u)).toNat - 48) = u
        rw [ofNatToNat u hs]; omega
      · rw [List.head?_cons, bne_iff_ne]
        intro hc
        rw [Option.some.injEq] at hc
        have := congrArg UInt8.toNat hc
        rw [ofNatToNat u hs, show (48 : UInt8).toNat = 48 from rfl] at this
        omega
    · obtain ⟨i1, i2, i3, i4⟩ := decAll f (u / 10) (by omega)
      have hm : u % 10 < 10 := Nat.mod_lt _ (by omega)
      rw [Lib.decDigits, dif_neg hs]
      refine ⟨by rw [List.all_append, i1, List.all_cons, isDigOf _ hm]; rfl, ?_, by simp, fun _ => ?_⟩
      · rw [dvAppend, i2, ofNatToNat _ hm]; omega
      · cases hd : Lib.decDigits (u / 10) with
        | nil => exact absurd hd i3
        | cons a r => rw [hd] at i4; exact i4 (by omega)

/-- Digits without a leading zero are the numeral of what they spell. -/
theorem decBack : ∀ (f : Nat) (d : List UInt8), d.length < f → d.all isDig = true → d ≠ [] → (d.head? != some 48) = true → Lib.decDigits (dv 0 d) = d
  | 0, d, h, _, _, _ => absurd h (by omega)
  | f + 1, d, h, hall, hne, hh => by
    rcases List.eq_nil_or_concat d with rfl | ⟨x, c, rfl⟩
    · exact absurd rfl hne
    · rw [List.concat_eq_append] at *
      rw [List.all_append, Bool.and_eq_true, List.all_cons, Bool.and_eq_true] at hall
      have hc := digOf hall.2.1
      rw [dvAppend]
      cases x with
      | nil =>
        show Lib.decDigits (0 * 10 + (c.toNat - 48)) = [c]
        rw [Lib.decDigits_one (by omega)]
        congr 1
        exact UInt8.toNat_inj.mp (by rw [ofNatToNat _ (by omega)]; omega)
      | cons a r =>
        have hh' : ((a :: r).head? != some 48) = true := by simpa using hh
        have ih := decBack f (a :: r) (by rw [List.length_append, List.length_singleton] at h; omega) hall.1 (by simp) hh'
        have ha : a.toNat ≠ 48 := by
          intro e
          have : a = 48 := UInt8.toNat_inj.mp e
          subst this; simp at hh'
        have hd := digOf (by have := hall.1; rw [List.all_cons, Bool.and_eq_true] at this; exact this.1 : isDig a = true)
        have hpos : 1 ≤ dv 0 (a :: r) := Nat.le_trans (show 1 ≤ 0 * 10 + (a.toNat - 48) by omega) (dvMore r (0 * 10 + (a.toNat - 48)))
        rw [Lib.decDigits, dif_neg (by omega), show (dv 0 (a :: r) * 10 + (c.toNat - 48)) / 10 = dv 0 (a :: r) from by omega,
          show (dv 0 (a :: r) * 10 + (c.toNat - 48)) % 10 = c.toNat - 48 from by omega, ih]
        congr 2
        exact UInt8.toNat_inj.mp (by rw [ofNatToNat _ (by omega)]; omega)

theorem prefNo {c : UInt8} {r : List UInt8} (h : isDig c = true) : Lib.hasPrefix (c :: r) [45] = false := by
  have hc := digOf h
  have e : c ≠ 45 := by intro e; subst e; exact absurd hc (by decide)
  simp [Lib.hasPrefix, List.isPrefixOf, Ne.symm e]
theorem prefYes (r : List UInt8) : Lib.hasPrefix ((45 : UInt8) :: r) [45] = true := by simp [Lib.hasPrefix]

theorem itoaNot (n : Int) : notB (Lib.itoa n) = true ∧ svI (Lib.itoa n) = n := by
  by_cases h : n < 0
  · have hk : n.natAbs ≠ 0 := by omega
    obtain ⟨i1, i2, i3, i4⟩ := decAll (n.natAbs + 1) n.natAbs (by omega)
    have e : Lib.itoa n = 45 :: Lib.decDigits n.natAbs := by unfold Lib.itoa; rw [if_pos h]
    rw [e]
    constructor
    · unfold notB Lib.trimPrefix
      rw [prefYes, if_pos rfl]
      show ndB (Lib.decDigits n.natAbs) true = true
      unfold ndB
      rw [i1, i4 hk]
      simp [i3]
    · unfold svI
      rw [prefYes, if_pos rfl]
      show -(dv 0 (Lib.decDigits n.natAbs) : Int) = n
      rw [i2]; omega
  · obtain ⟨i1, i2, i3, i4⟩ := decAll (n.toNat + 1) n.toNat (by omega)
    have e : Lib.itoa n = Lib.decDigits n.toNat := by unfold Lib.itoa; rw [if_neg h]
    have hp : Lib.hasPrefix (Lib.decDigits n.toNat) [45] = false := by
      cases hd : Lib.decDigits n.toNat with
      | nil => exact absurd hd i3
      | cons c r => exact prefNo (by rw [hd, List.all_cons, Bool.and_eq_true] at i1; exact i1.1)
    rw [e]
    constructor
    · unfold notB Lib.trimPrefix
      rw [hp]
      show ndB (Lib.decDigits n.toNat) false = true
      unfold ndB
      by_cases hz : n.toNat = 0
      · rw [hz, Lib.decDigits_one (by decide)]; decide
      · rw [i1, i4 hz]
        simp [i3]
    · unfold svI
      rw [hp]
      show (dv 0 (Lib.decDigits n.toNat) : Int) = n
      rw [i2]; omega

/-- The notation of a value reads as the value. -/
theorem parItoa (n : Int) (h0 : -2147483648 ≤ n) (h1 : n ≤ 2147483647) : parV (Lib.itoa n) = n ∧ parE (Lib.itoa n) = 0 := by
  obtain ⟨a, b⟩ := itoaNot n
  have h := (parSv (Lib.itoa n) a).1 (by rw [b]; exact ⟨h0, h1⟩)
  rw [b] at h
  exact h

/-- A notation is the notation of what it spells. -/
theorem itoaBack (l : List UInt8) (h : notB l = true) : Lib.itoa (svI l) = l := by
  unfold notB ndB at h
  rw [Bool.and_eq_true, Bool.and_eq_true] at h
  obtain ⟨⟨hne, hall⟩, hz⟩ := h
  cases hp : Lib.hasPrefix l [45] with
  | true =>
    have e : Lib.trimPrefix l [45] = l.drop 1 := by unfold Lib.trimPrefix; rw [hp]; rfl
    rw [e] at hne hall hz
    obtain ⟨r, rfl⟩ : ∃ r, l = 45 :: r := by
      cases l with
      | nil => simp [Lib.hasPrefix] at hp
      | cons c r =>
        refine ⟨r, ?_⟩
        by_cases hc : c = 45
        · rw [hc]
        · simp [Lib.hasPrefix, List.isPrefixOf, Ne.symm hc] at hp
    rw [List.drop_one, List.tail_cons] at hne hall hz
    have hr : r ≠ [] := by intro hh; rw [hh] at hne; simp at hne
    have hh : (r.head? != some 48) = true := by
      rw [hp, Bool.not_true, Bool.and_false, Bool.or_false] at hz; exact hz
    have hb := decBack (r.length + 1) r (by omega) hall hr hh
    have hpos : dv 0 r ≠ 0 := by
      intro h0
      rw [h0, Lib.decDigits_one (by decide)] at hb
      rw [← hb] at hh
      exact absurd hh (by decide)
    have es : svI ((45 : UInt8) :: r) = -(dv 0 r : Int) := by unfold svI; rw [hp]; rfl
    rw [es]
    unfold Lib.itoa
    rw [if_pos (by omega), Int.natAbs_neg, Int.natAbs_natCast, hb]
  | false =>
    have e : Lib.trimPrefix l [45] = l := by unfold Lib.trimPrefix; rw [hp]; rfl
    rw [e] at hne hall hz
    have hr : l ≠ [] := by intro hh; rw [hh] at hne; simp at hne
    have es : svI l = (dv 0 l : Int) := by unfold svI; rw [hp]; rfl
    rw [es]
    unfold Lib.itoa
    rw [if_neg (by omega), Int.toNat_natCast]
    rw [Bool.or_eq_true] at hz
    rcases hz with hz | hz
    · exact decBack (l.length + 1) l (by omega) hall hr hz
    · rw [Bool.and_eq_true, beq_iff_eq] at hz
      match l, hz.1, hall with
      | [c], _, hall =>
        rw [List.all_cons, Bool.and_eq_true] at hall
        have hc := digOf hall.1
        show Lib.decDigits (0 * 10 + (c.toNat - 48)) = [c]
        rw [Lib.decDigits_one (by omega)]
        congr 1
        exact UInt8.toNat_inj.mp (by rw [ofNatToNat _ (by omega)]; omega)

/-- A text that reads as a value is the value's notation; else 0 is handed back. -/
theorem parBack (l : List UInt8) : (parE l = 0 ∧ -2147483648 ≤ parV l ∧ parV l ≤ 2147483647 ∧ Lib.itoa (parV l) = l) ∨ (parE l ≠ 0 ∧ parV l = 0) := by
  cases hn : notB l with
  | false => exact Or.inr ⟨by rw [(parNo l hn).2]; decide, (parNo l hn).1⟩
  | true =>
    by_cases hr : -2147483648 ≤ svI l ∧ svI l ≤ 2147483647
    · have h := (parSv l hn).1 hr
      refine Or.inl ⟨h.2, by rw [h.1]; exact hr.1, by rw [h.1]; exact hr.2, ?_⟩
      rw [h.1]; exact itoaBack l hn
    · have h := (parSv l hn).2 hr
      exact Or.inr ⟨by rw [h.2]; decide, h.1⟩
end Go.Proofs.YtlkachcidjkhhaaDoor
