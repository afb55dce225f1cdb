/-
  The specification's lists: the names of the variables and of the functions.
-/
import Derived.Test.YtebpnnakcodjdaaDoorZPgY
import Derived.Test.YtebpnnakcodjdaaDoorZPgX
import Derived.Test.YtebpnnakcodjdaaDoorZMk
import Derived.Test.YtebpnnakcodjdaaDoorZPgZ
import Derived.Test.YtebpnnakcodjdaaDoorZInsE
import Derived.WalkSpells
import Derived.Test.YtebpnnakcodjdaaDoorZOwn
import Derived.Laws.Strings
import Derived.BigQuiet
namespace Go.Proofs.YtebpnnakcodjdaaDoor
open Go Go.RowKit

def Prg.few (p : Prg) : Bool := decide (p.vars.length ≤ 20) && decide (p.muts.length ≤ 20) && decide (p.conds.length ≤ 20) && decide (p.funcs.length ≤ 20) && decide (p.thr.length ≤ 20)
def Prg.short (p : Prg) : Bool := p.funcs.all fun f => decide (f.2.length ≤ 100)
def Prg.small (p : Prg) : Bool := p.few && p.short
theorem Prg.smallNo {p : Prg} (h : p.few = false) : false = p.small := by unfold Prg.small; rw [h]; rfl
theorem Prg.smallLong {p : Prg} (h : p.few = true) {k : Nat} (hk : k < p.funcs.length) (hl : 100 < p.funcs[k].2.length) : false = p.small := by
  unfold Prg.small Prg.short
  rw [h, Bool.true_and]
  refine (List.all_eq_false.2 ⟨p.funcs[k], List.getElem_mem hk, ?_⟩).symm
  simpa using hl
theorem Prg.smallYes {p : Prg} (h : p.few = true) (hl : ∀ k (hk : k < p.funcs.length), p.funcs[k].2.length ≤ 100) : true = p.small := by
  unfold Prg.small Prg.short
  rw [h, Bool.true_and]
  refine (List.all_eq_true.2 fun x hx => ?_).symm
  obtain ⟨k, hk, rfl⟩ := List.getElem_of_mem hx
  simpa using hl k hk
theorem shortNext {p : Prg} {k : Nat} (HA : ∀ j (hj : j < p.funcs.length), j < k → p.funcs[j].2.length ≤ 100) (hk : k < p.funcs.length) (h : p.funcs[k].2.length ≤ 100) : ∀ j (hj : j < p.funcs.length), j < k + 1 → p.funcs[j].2.length ≤ 100 := fun j hj hlt => by
  rcases Nat.lt_or_ge j k with h' | h'
  · exact HA j hj h'
  · have e : j = k := by omega
    subst e
    exact h
set_option maxHeartbeats 1000000 in
theorem rSmall {a : PgA} {p : Prg} (w : World) (hP : PgW w a p) : Calls Tryd.prog 4 #[a.val] w fun e w' => e = .returned (.bool p.small) ∧ Below w.heap.size w w' := by
  have HF := Lib.hid (fun X (hX : Below w.heap.size w X) k (hk : k < p.funcs.length) => (hP.below hX).funcs.one hk)
  have HL := Lib.hid hP.l4
  have HE : Hid (p.few = (decide (a.n1 ≤ 20) && decide (a.n2 ≤ 20) && decide (a.n3 ≤ 20) && decide (a.n4 ≤ 20) && decide (a.n5 ≤ 20))) := by unfold Prg.few; rw [hP.l1, hP.l2, hP.l3, hP.l4, hP.l5]; exact Lib.hid rfl
  have m1 := hP.vars.max
  have m2 := hP.muts.max
  have m3 := hP.conds.max
  have m4 := hP.funcs.max
  have m5 := hP.thr.max
  have e1 := hP.vars.le
  have e2 := hP.muts.le
  have e3 := hP.conds.le
  have e4 := hP.funcs.le
  have e5 := hP.thr.le
  rw [hP.l1] at e1
  rw [hP.l2] at e2
  rw [hP.l3] at e3
  rw [hP.l4] at e4
  rw [hP.l5] at e5
  unfold maxLen at m1 m2 m3 m4 m5
  obtain ⟨A1, n1, c1, A2, n2, c2, A3, n3, c3, A4, n4, c4, A5, n5, c5⟩ := a
  simp only [PgA.val, PgA.fs] at *
  have hb0 := belowAlloc w (.cells #[.slice A1 n1 c1, .slice A2 n2 c2, .slice A3 n3 c3, .slice A4 n4 c4, .slice A5 n5 c5] 27)
  obtain ⟨r, hr⟩ : ∃ r, p.small = r := ⟨_, rfl⟩
  rw [hr]
  clear hP
  by_cases h1 : 20 < n1
  · have HR := Lib.hid ((p.smallNo (by rw [HE.out, decide_eq_false (show ¬ n1 ≤ 20 by omega)]; rfl)).trans hr)
    clear HE hr
    go_enter Tryd.func4, Tryd.ntmps4
    go_wp2
    all_goals first
      | (exfalso; omega)
      | (go_ret; exact ⟨retBl HR.out, hb0⟩)
  by_cases h2 : 20 < n2
  · have HR := Lib.hid ((p.smallNo (by rw [HE.out, decide_eq_false (show ¬ n2 ≤ 20 by omega)]; simp)).trans hr)
    clear HE hr
    go_enter Tryd.func4, Tryd.ntmps4
    go_wp2
    all_goals first
      | (exfalso; omega)
      | (go_ret; exact ⟨retBl HR.out, hb0⟩)
  by_cases h3 : 20 < n3
  · have HR := Lib.hid ((p.smallNo (by rw [HE.out, decide_eq_false (show ¬ n3 ≤ 20 by omega)]; simp)).trans hr)
    clear HE hr
    go_enter Tryd.func4, Tryd.ntmps4
    go_wp2
    all_goals first
      | (exfalso; omega)
      | (go_ret; exact ⟨retBl HR.out, hb0⟩)
  by_cases h4 : 20 < n4
  · have HR := Lib.hid ((p.smallNo (by rw [HE.out, decide_eq_false (show ¬ n4 ≤ 20 by omega)]; simp)).trans hr)
    clear HE hr
    go_enter Tryd.func4, Tryd.ntmps4
    go_wp2
    all_goals first
      | (exfalso; omega)
      | (go_ret; exact ⟨retBl HR.out, hb0⟩)
  by_cases h5 : 20 < n5
  · have HR := Lib.hid ((p.smallNo (by rw [HE.out, decide_eq_false (show ¬ n5 ≤ 20 by omega)]; simp)).trans hr)
    clear HE hr
    go_enter Tryd.func4, Tryd.ntmps4
    go_wp2
    all_goals first
      | (exfalso; omega)
      | (go_ret; exact ⟨retBl HR.out, hb0⟩)
  have HFW := Lib.hid (show p.few = true by rw [HE.out]; simp; omega)
  have HR := Lib.hid hr
  clear HE hr
  go_enter Tryd.func4, Tryd.ntmps4
  go_wp2
  all_goals (try (exfalso; omega))
  go_loopw [3] (fun i wr => ∃ k : Nat, k ≤ n4 ∧ i = .int .i64 k ∧ Below w.heap.size w wr ∧ Hid (∀ j (hj : j < p.funcs.length), j < k → p.funcs[j].2.length ≤ 100) ∧ wr.cell? ⟨w.heap.size, 3, none⟩ = some (.slice A4 n4 c4)) (fun i _ => n4 - (intOf i).toNat)
  case atStart => exact ⟨0, Nat.zero_le _, rfl, hb0, Lib.hid fun j _ h => by omega, (Blk.new w _ _).cell 3⟩
  case round =>
    obtain ⟨k, hk, rfl, hb, HA, c3⟩ := hrel
    by_cases hlt : k < n4
    · have hkl : k < p.funcs.length := by rw [HL.out]; exact hlt
      obtain ⟨q, off, hA, _, h1, v, h2, Ac, nc, cc, rfl, hnc, hrd⟩ := HF.out wr hb k hkl
      have hA : A4 = _ := hA
      subst hA
      have hle := hrd.le
      have hmx := hrd.max
      rw [hnc] at hle
      unfold maxLen at hmx
      clear hrd h1
      have hk0 : (0 : Int) ≤ k := by omega
      have hk1 : (k : Int) < n4 := by omega
      by_cases h100 : 100 < nc
      · have HX := Lib.hid ((p.smallLong HFW.out hkl (by rw [hnc]; exact h100)).trans HR.out)
        clear hnc
        go_wp2
        go_ret
        exact ⟨retBl HX.out, hb⟩
      · have HX := Lib.hid (shortNext HA.out hkl (by rw [hnc]; omega))
        clear hnc
        go_wp2
        go_roundw
        case rel => exact ⟨k + 1, by omega, by go_num, hb, HX, c3⟩
        case measure => simp [intOf]; omega
    · have HX := Lib.hid ((p.smallYes HFW.out fun j hj => HA.out j hj (by rw [HL.out] at hj; have hj : j < n4 := hj; omega)).trans HR.out)
      go_wp2
      go_ret
      exact ⟨retBl HX.out, hb⟩
end Go.Proofs.YtebpnnakcodjdaaDoor

namespace Go.Proofs.YtebpnnakcodjdaaDoor
open Go Go.RowKit

/-- Byte number k of s keeps it a name. -/
def okAtN (s : ByteArray) (k : Nat) : Prop := ∀ (hk : k < s.size), (k = 0 → letB s[k] = true) ∧ tailB s[k] = true
theorem okYes {s : ByteArray} (h1 : 1 ≤ s.size) (h2 : s.size ≤ 16) (h : ∀ k, k < s.size → okAtN s k) : true = nameB s :=
  (nameYes h1 h2 ((h 0 h1 h1).1 rfl) fun k hk => (h k hk hk).2).symm
theorem okNo {s : ByteArray} {k : Nat} (hk : k < s.size) (h : ¬ okAtN s k) : false = nameB s := by
  cases e : nameB s
  · rfl
  refine absurd (fun hk' => ⟨fun h0 => ?_, ?_⟩) h
  · subst h0
    cases e2 : letB s[0]
    · rw [nameNo2 hk e2] at e; cases e
    · rfl
  · cases e2 : tailB s[k]
    · rw [nameNoK hk e2] at e; cases e
    · rfl
theorem okNext {s : ByteArray} {k : Nat} (HA : ∀ j, j < k → okAtN s j) (h : okAtN s k) : ∀ j, j < k + 1 → okAtN s j := fun j hlt => by
  rcases Nat.lt_or_ge j k with h' | h'
  · exact HA j h'
  · have e : j = k := by omega
    subst e
    exact h
theorem okAtIs {s : ByteArray} {k : Nat} (hk : k < s.size) : okAtN s k ↔ (k = 0 → (97 ≤ s[k].toNat ∧ s[k].toNat ≤ 122) ∨ (65 ≤ s[k].toNat ∧ s[k].toNat ≤ 90)) ∧ ((97 ≤ s[k].toNat ∧ s[k].toNat ≤ 122) ∨ (65 ≤ s[k].toNat ∧ s[k].toNat ≤ 90) ∨ (48 ≤ s[k].toNat ∧ s[k].toNat ≤ 57) ∨ s[k].toNat = 95) := by
  have e : okAtN s k ↔ (k = 0 → letB s[k] = true) ∧ tailB s[k] = true := ⟨fun h => ⟨fun h0 => by subst h0; exact (h hk).1 rfl, (h hk).2⟩, fun h hk' => ⟨fun h0 => by have := h.1 h0; subst h0; exact this, h.2⟩⟩
  rw [e]
  unfold tailB letB digB
  simp only [Bool.or_eq_true, Bool.and_eq_true, decide_eq_true_eq]
  omega
set_option linter.unusedSimpArgs false in
set_option maxHeartbeats 4000000 in
theorem rValidName (s : ByteArray) (hs : s.size ≤ maxLen) (w : World) : Calls Tryd.prog 39 #[.string s] w fun e w' => e = .returned (.bool (nameB s)) ∧ w = w' := by
  unfold maxLen at hs
  by_cases h1 : s.size < 1
  · have HN := Lib.hid (nameNo1 (s := s) (.inl h1))
    go_enter Tryd.func39, Tryd.ntmps39
    go_wp2
    all_goals first
      | (exfalso; omega)
      | (go_ret; exact ⟨retBl HN.out.symm, rfl⟩)
  by_cases h2 : 16 < s.size
  · have HN := Lib.hid (nameNo1 (s := s) (.inr h2))
    go_enter Tryd.func39, Tryd.ntmps39
    go_wp2
    all_goals first
      | (exfalso; omega)
      | (go_ret; exact ⟨retBl HN.out.symm, rfl⟩)
  go_enter Tryd.func39, Tryd.ntmps39
  go_wp2
  all_goals (try (exfalso; omega))
  go_loop [3, 4, 5] (fun i _ _ => ∃ k : Nat, k ≤ s.size ∧ i = .int .i64 k ∧ Hid (∀ j, j < k → okAtN s j)) (fun i _ _ => s.size - (intOf i).toNat)
  case atStart => exact ⟨0, Nat.zero_le _, rfl, Lib.hid fun j h => by omega⟩
  case round =>
    obtain ⟨k, hk, rfl, HA⟩ := hrel
    by_cases hlt : k < s.size
    · have ho := okAtIs hlt
      have hm9 := (s[k]).toNat_lt
      by_cases hk0 : k = 0
      · subst hk0
        have HO : Hid (okAtN s 0 ↔ (97 ≤ s[0].toNat ∧ s[0].toNat ≤ 122) ∨ (65 ≤ s[0].toNat ∧ s[0].toNat ≤ 90)) := Lib.hid (by rw [ho]; simp only [true_implies]; omega)
        clear ho
        go_wp2
        all_goals (try simp only [beq_eq_false_iff_ne, bne_eq_false_iff_eq, ne_eq, beq_iff_eq, bne_iff_ne, Bool.not_eq_false', Bool.not_eq_true', decide_eq_true_eq, decide_eq_false_iff_not] at *)
        all_goals first
          | (exfalso; omega)
          | (go_ret; exact ⟨retBl (okNo hlt fun h => by have h := HO.out.1 h; omega), rfl⟩)
          | exact ⟨⟨0 + 1, by omega, by go_num, Lib.hid (okNext HA.out (HO.out.2 (by omega)))⟩, by simp [intOf]; omega⟩
      · have HO : Hid (okAtN s k ↔ (97 ≤ s[k].toNat ∧ s[k].toNat ≤ 122) ∨ (65 ≤ s[k].toNat ∧ s[k].toNat ≤ 90) ∨ (48 ≤ s[k].toNat ∧ s[k].toNat ≤ 57) ∨ s[k].toNat = 95) := Lib.hid (by rw [ho]; simp only [hk0, false_implies, true_and])
        clear ho
        go_wp2
        all_goals (try simp only [beq_eq_false_iff_ne, bne_eq_false_iff_eq, ne_eq, beq_iff_eq, bne_iff_ne, Bool.not_eq_false', Bool.not_eq_true', decide_eq_true_eq, decide_eq_false_iff_not] at *)
        all_goals first
          | (exfalso; omega)
          | (go_ret; exact ⟨retBl (okNo hlt fun h => by have h := HO.out.1 h; omega), rfl⟩)
          | exact ⟨⟨k + 1, by omega, by go_num, Lib.hid (okNext HA.out (HO.out.2 (by omega)))⟩, by simp [intOf]; omega⟩
    · have HX := Lib.hid (okYes (s := s) (by omega) (by omega) fun j hj => HA.out j (by omega))
      go_wp2
      go_ret
      exact ⟨retBl HX.out, rfl⟩
end Go.Proofs.YtebpnnakcodjdaaDoor

namespace Go.Proofs.YtebpnnakcodjdaaDoor
open Go Go.RowKit

def sEq (x s : ByteArray) : Bool := x.toList == s.toList
end Go.Proofs.YtebpnnakcodjdaaDoor

namespace Go.Proofs.YtebpnnakcodjdaaDoor
open Go Go.RowKit

def sv (l : List ByteArray) : List Value := l.map .string
theorem sEqIff (x s : ByteArray) : sEq x s = decide (x.data.toList = s.data.toList) := by
  unfold sEq
  rw [ByteArray.toList_eq, ByteArray.toList_eq, Bool.eq_iff_iff]
  simp
def nmR (e : Int × Int) : Int × Int := (if e.1 = 0 then 0 else e.2, e.1)
theorem inSNext {l : List ByteArray} {k j : Nat} (hj : j < l.length) {s : ByteArray} (h : inS s (l.take j) = false) (h2 : sEq l[j] s = false) (_ : k = k) : inS s (l.take (j + 1)) = false := by
  rw [List.take_succ_eq_append_getElem hj, inSApp, h, ← sEqIff, h2]
  rfl
theorem inSHit {l : List ByteArray} {k j : Nat} (hk : k ≤ l.length) (hj : j < k) {s : ByteArray} (h2 : sEq (l[j]'(by omega)) s = true) : inS s (l.take k) = true := by
  rw [sEqIff] at h2
  have := baExt (of_decide_eq_true h2)
  refine inSIff.2 (List.mem_take_iff_getElem.2 ⟨j, by omega, this⟩)
theorem svOne {w : World} {A : Option Addr} {c : Nat} {l : List ByteArray} (h : Rds w A c (sv l)) {k : Nat} (hk : k < l.length) : ∃ ad, A = some ad ∧ ad.block < w.heap.size ∧ w.cell? (ad.add k) = some (.string l[k]) := by
  obtain ⟨ad, e, h1, h2⟩ := Rds.one h (k := k) (by simpa [sv] using hk)
  exact ⟨ad, e, h1, by simpa [sv] using h2⟩
set_option maxHeartbeats 2000000 in
theorem rNamesP (l : List ByteArray) (n : Nat) (hn : l.length = n) (hl : ∀ s ∈ l, s.size ≤ maxLen) (A : Option Addr) (c : Nat) (w : World) (hr : Rds w A c (sv l)) :
    Calls Tryd.prog 20 #[.slice A n c] w fun e w' => e = .returned (.tuple #[.int .i64 (nmR (nmF [] l 0)).1, .int .i64 (nmR (nmF [] l 0)).2]) ∧ Below w.heap.size w w' := by
  obtain ⟨r, hrr⟩ : ∃ r, nmF [] l 0 = r := ⟨_, rfl⟩
  rw [hrr]
  have HR : Hid (nmF (l.take 0) (l.drop 0) 0 = r) := Lib.hid hrr
  have HC := Lib.hid (fun X (hX : Below w.heap.size w X) k (hk : k < l.length) => svOne (hr.below hX) hk)
  have HL := Lib.hid hl
  have HN := Lib.hid hn
  have hle := hr.le
  have hcm := hr.max
  have hsl : (sv l).length = n := by simpa [sv] using hn
  rw [hsl] at hle
  unfold maxLen at hcm
  have hb0 := Below.refl w.heap.size w
  clear hrr hl hn hr hsl
  go_enter Tryd.func20, Tryd.ntmps20
  go_wp2
  go_loopw [4] (fun i wr => ∃ k : Nat, k ≤ n ∧ i = .int .i64 k ∧ Below w.heap.size w wr ∧ Hid (nmF (l.take k) (l.drop k) k = r)) (fun i _ => n - (intOf i).toNat)
  case atStart => exact ⟨0, Nat.zero_le _, rfl, hb0, HR⟩
  case round =>
    obtain ⟨k, hk, rfl, hb, HE⟩ := hrel
    by_cases hlt : k < n
    · have hkl : k < l.length := by rw [HN.out]; exact hlt
      obtain ⟨ad, hA, _, hcell⟩ := HC.out wr hb k hkl
      subst hA
      have HV := Lib.hid (rValidName _ (HL.out _ (List.getElem_mem hkl)) wr)
      obtain ⟨s, hs⟩ : ∃ s, l[k] = s := ⟨_, rfl⟩
      have HS := Lib.hid hs
      have hk0 : (0 : Int) ≤ k := by omega
      have hk1 : (k : Int) < n := by omega
      cases h1 : nameB l[k]
      · have HX := Lib.hid ((nmFbad hkl h1).symm.trans HE.out)
        rw [h1] at HV
        rw [hs] at hcell HV
        clear h1 hs
        go_wp2_with (go_at_call 39; refine HV.out.mono ?_; rintro e w' ⟨rfl, rfl⟩)
        go_ret2
        exact ⟨by rw [← HX.out]; rfl, hb⟩
      · have H1 := Lib.hid h1
        rw [h1] at HV
        rw [hs] at hcell HV
        clear h1 hs
        go_wp2_with (go_at_call 39; refine HV.out.mono ?_; rintro e w' ⟨rfl, rfl⟩)
        go_loopw [5] (fun i wq => ∃ j : Nat, j ≤ k ∧ i = .int .i64 j ∧ Below w.heap.size w wq ∧ Hid (inS s (l.take j) = false)) (fun i _ => k - (intOf i).toNat)
        case atStart => exact ⟨0, Nat.zero_le _, rfl, hb, Lib.hid rfl⟩
        case round =>
          obtain ⟨j, hj, rfl, hbq, HI⟩ := hrel
          by_cases hjk : j < k
          · have hjl : j < l.length := by omega
            obtain ⟨ad1, hA1, _, hcj⟩ := HC.out wr hbq j hjl
            obtain ⟨ad2, hA2, _, hck⟩ := HC.out wr hbq k hkl
            injection hA1 with hA1
            injection hA2 with hA2
            subst hA1
            subst hA2
            rw [HS.out] at hck
            have hj0 : (0 : Int) ≤ j := by omega
            have hj1 : (j : Int) < n := by omega
            have HN2 := Lib.hid (fun nq => belowDrewN hbq nq)
            cases he : sEq l[j] s
            · have HX := Lib.hid (inSNext (k := k) hjl HI.out he rfl)
              generalize l[j] = t at hcj he
              unfold sEq at he
              go_wp2_with fail
              go_quiet (fail)
              go_wp2
              go_roundw
              case rel => exact ⟨j + 1, by omega, by go_num, HN2.out _, HX⟩
              case measure => simp [intOf]; omega
            · have HX := Lib.hid ((nmFtwice hkl H1.out (inSHit (s := l[k]) (Nat.le_of_lt hkl) hjk (by rw [HS.out]; exact he))).symm.trans HE.out)
              generalize l[j] = t at hcj he
              unfold sEq at he
              go_wp2_with fail
              go_quiet (fail)
              go_wp2
              go_ret2
              exact ⟨by rw [← HX.out]; rfl, HN2.out _⟩
          · have hjk2 : j = k := by omega
            subst hjk2
            have HX := Lib.hid ((nmFgo hkl H1.out (by rw [HS.out]; exact HI.out)).symm.trans HE.out)
            go_wp2
            go_roundw
            case rel => exact ⟨j + 1, by omega, by go_num, hbq, HX⟩
            case measure => simp [intOf]; omega
    · have HX := Lib.hid ((nmFend (l := l) (k := k) (by rw [HN.out]; omega) (l.take k)).symm.trans HE.out)
      go_wp2
      go_ret2
      exact ⟨by rw [← HX.out]; rfl, hb⟩
end Go.Proofs.YtebpnnakcodjdaaDoor

namespace Go.Proofs.YtebpnnakcodjdaaDoor
open Go Go.RowKit

theorem infoStr : (Tryd.prog.info? 9).map (fun i => (i.zero, i.size, i.bytes)) = some (some (.string ⟨#[]⟩), 1, 16) := by kernel_rfl
def OwnT (w : World) (base : Nat) (v : Value) (l : List ByteArray) : Prop := w.ownsRow base 9 1 v l.length (sv l)
theorem OwnT.alloc {w : World} {base : Nat} {v : Value} {l : List ByteArray} (h : OwnT w base v l) (o : Obj) : OwnT (w.alloc o) base v l := World.ownsRow.alloc h o
theorem OwnT.nil (w : World) (base : Nat) : OwnT w base (.slice none 0 0) [] := World.ownsRow_nil _ _ _ _
theorem svLen (l : List ByteArray) : (sv l).length = l.length := by simp [sv]
theorem OwnT.rd {w : World} {base : Nat} {v : Value} {l : List ByteArray} (h : OwnT w base v l) : ∃ A c, v = .slice A l.length c ∧ Rds w A c (sv l) := by
  obtain ⟨A, c, hv, _, hr, _⟩ := Rds.ofOwn h
  exact ⟨A, c, by rw [hv, svLen], hr⟩
theorem svOneCell (l : List ByteArray) : ∀ u ∈ sv l, u.oneCell' = true := fun u hu => by
  obtain ⟨s, _, rfl⟩ := List.mem_map.1 hu
  rfl
/-- append of strings onto a row of the call's own. -/
theorem appT (w : World) {ops : Array Oper} {rest : List Oper} {o : Oper} {a : Act} {Q : Exit → Act → World → Prop} (hgd : o.guard = none) (s x : Operand)
    (ho : o.op = .call { callee := .builtin .append, args := #[s, x], argTypes := #[23, 23] })
    (base : Nat) (v : Value) (l : List ByteArray) (hs : a.eval s = v) (hown : OwnT w base v l)
    (A : Option Addr) (m c : Nat) (news : List ByteArray) (hx : a.eval x = .slice A m c) (hm : m = news.length) (hr : Rds w A c (sv news))
    (hb : l.length + news.length ≤ 1000000) (hbase : base ≤ w.heap.size)
    (h : ∀ v' w', OwnT w' base v' (l ++ news) → Below base w w' → wpList Tryd.prog ops Q rest (a.put o.dst v') w') :
    wpList Tryd.prog ops Q (o :: rest) a w := by
  obtain ⟨i0, hi, hz0, hz1, hz2⟩ := info_parts infoStr
  refine wpList_app w hgd s x 23 ho base 9 i0 _ 16 Tryd.underlying23 hi hz0 hz1 hz2 rfl v l.length (sv l) hs hown A m c (sv news) hx (by rw [svLen]; omega) hr (svOneCell _) (by omega) (by unfold maxLen; omega) hbase fun v' w' h1 h2 h3 _ => h v' w' ?_ ?_
  · unfold OwnT sv
    rw [List.length_append, List.map_append, ← hm]
    exact h1
  · exact (Below.refl base w).grown h3 hbase fun k hk => (World.ownsRow.lt hown k hk).1
theorem svLit (w : World) (s : ByteArray) : Rds (w.alloc (.cells #[.string s] 9)) (some ⟨w.heap.size, 0, none⟩) 1 (sv [s]) := Rds.lit w (sv [s]) 9 (by simp [sv, maxLen])
theorem mapTake {α : Type} (l : List (ByteArray × α)) {k : Nat} (hk : k < l.length) : (l.map (·.1)).take k ++ [l[k].1] = (l.map (·.1)).take (k + 1) := by
  rw [List.take_succ_eq_append_getElem (by simpa using hk), List.getElem_map]
/-- Two new lists of strings. -/
def GivesLL (l m : List ByteArray) (w : World) (e : Ending) (w' : World) : Prop := ∃ A c B d, e = .returned (.tuple #[.slice A l.length c, .slice B m.length d]) ∧ Rds w' A c (sv l) ∧ Rds w' B d (sv m) ∧ Below w.heap.size w w'
set_option maxHeartbeats 4000000 in
theorem rLists {a : PgA} {p : Prg} (w : World) (hP : PgW w a p) (hs1 : a.n1 ≤ 20) (hs4 : a.n4 ≤ 20) : Calls Tryd.prog 19 #[a.val] w (GivesLL (p.vars.map (·.1)) (p.funcs.map (·.1)) w) := by
  obtain ⟨W, hWE⟩ : ∃ W, w.alloc (.cells a.fs 27) = W := ⟨_, rfl⟩
  have hbW : Below w.heap.size w W := by rw [← hWE]; exact belowAlloc w _
  have hB : PBox W w.heap.size a := by rw [← hWE]; exact Blk.new w _ _
  have HK := Lib.hid (fun Y (hY : Below W.heap.size W Y) => (hB.below hY).facts)
  have HP := Lib.hid (fun Y (hY : Below W.heap.size W Y) => (hP.below hbW).below hY)
  have HV := Lib.hid (fun Y (hY : Below W.heap.size W Y) k (hk : k < p.vars.length) => (HP.out Y hY).vars.one hk)
  have HF := Lib.hid (fun Y (hY : Below W.heap.size W Y) k (hk : k < p.funcs.length) => (HP.out Y hY).funcs.one hk)
  have HL1 := Lib.hid hP.l1
  have HL4 := Lib.hid hP.l4
  have e1 := hP.vars.le
  have e4 := hP.funcs.le
  have m1 := hP.vars.max
  have m4 := hP.funcs.max
  rw [hP.l1] at e1
  rw [hP.l4] at e4
  unfold maxLen at m1 m4
  have HW := Lib.hid hWE
  have HBW := Lib.hid hbW
  obtain ⟨lv, hlv⟩ : ∃ l, p.vars.map (·.1) = l := ⟨_, rfl⟩
  obtain ⟨lf, hlf⟩ : ∃ l, p.funcs.map (·.1) = l := ⟨_, rfl⟩
  rw [hlv, hlf]
  have HLV := Lib.hid hlv
  have HLF := Lib.hid hlf
  obtain ⟨A1, n1, c1, A2, n2, c2, A3, n3, c3, A4, n4, c4, A5, n5, c5⟩ := a
  simp only [PgA.val, PgA.fs] at *
  have HN1 : Hid (lv.length = n1) := Lib.hid (by rw [← hlv]; simpa using HL1.out)
  have HN4 : Hid (lf.length = n4) := Lib.hid (by rw [← hlf]; simpa using HL4.out)
  have hO := Lib.hid (OwnT.nil W W.heap.size)
  have hb0 := Below.refl W.heap.size W
  clear hP hB hbW hWE hlv hlf
  go_enter Tryd.func19, Tryd.ntmps19
  go_wp2
  rw [HW.out]
  go_loopw [4, 6] (fun vo i wr => ∃ k : Nat, k ≤ n1 ∧ i = .int .i64 k ∧ OwnT wr W.heap.size vo (lv.take k) ∧ Below W.heap.size W wr) (fun _ i _ => n1 - (intOf i).toNat)
  case atStart => exact ⟨0, Nat.zero_le _, rfl, hO.out, hb0⟩
  case round =>
    obtain ⟨k, hk, rfl, os, hb⟩ := hrel
    obtain ⟨g0, _, _, g3, _⟩ := HK.out wr hb
    by_cases hlt : k < n1
    · have hkl : k < p.vars.length := by rw [HL1.out]; exact hlt
      obtain ⟨q, off, hA, _, h1, _⟩ := HV.out wr hb k hkl
      have hA : A1 = _ := hA
      subst hA
      have HX := mapTake p.vars hkl
      rw [HLV.out] at HX
      generalize (p.vars[k]).1 = s at h1 HX
      have HX := Lib.hid HX
      have hk0 : (0 : Int) ≤ k := by omega
      have hk1 : (k : Int) < n1 := by omega
      have htk : (lv.take k).length ≤ 20 := by rw [List.length_take]; omega
      go_wp2_with (at_builtin; refine appT _ rfl (.tmp 15) (.tmp 22) rfl W.heap.size _ _ rfl (os.alloc _) (some ⟨wr.heap.size, 0, none⟩) 1 1 [s] rfl rfl (svLit wr s) (by simp; omega) (by have := hb.size; simp; omega) ?_; intro v2 w2 o2 b2; have B2 := stepA hb b2; rw [HX.out] at o2)
      go_roundw
      case rel => exact ⟨k + 1, by omega, by go_num, o2, B2⟩
      case measure => simp [intOf]; omega
    · have hke : k = n1 := by omega
      subst hke
      obtain ⟨B, d, rfl, hrd⟩ := os.rd
      have hll : (lv.take k).length = k := by rw [List.length_take, HN1.out]; omega
      have hta : lv.take k = lv := List.take_of_length_le (by rw [HN1.out]; omega)
      rw [hta] at hrd
      rw [hll]
      have HRD := Lib.hid hrd
      have hO2 := Lib.hid (OwnT.nil wr wr.heap.size)
      have hb1 := Below.refl wr.heap.size wr
      have HB := Lib.hid hb
      clear os hll hta hrd hb
      obtain ⟨W1, rfl⟩ : ∃ X, X = wr := ⟨_, rfl⟩
      go_wp2
      go_loopw [5, 7] (fun vo i wr => ∃ j : Nat, j ≤ n4 ∧ i = .int .i64 j ∧ OwnT wr W1.heap.size vo (lf.take j) ∧ Below W1.heap.size W1 wr) (fun _ i _ => n4 - (intOf i).toNat)
      case atStart => exact ⟨0, Nat.zero_le _, rfl, hO2.out, hb1⟩
      case round =>
        obtain ⟨j, hj, rfl, os, hb⟩ := hrel
        obtain ⟨_, _, _, g3, _⟩ := HK.out wr (belowThen HB.out hb)
        by_cases hlt : j < n4
        · have hjl : j < p.funcs.length := by rw [HL4.out]; exact hlt
          obtain ⟨q, off, hA, _, h1, _⟩ := HF.out wr (belowThen HB.out hb) j hjl
          have hA : A4 = _ := hA
          subst hA
          have HX := mapTake p.funcs hjl
          rw [HLF.out] at HX
          generalize (p.funcs[j]).1 = s at h1 HX
          have HX := Lib.hid HX
          have hj0 : (0 : Int) ≤ j := by omega
          have hj1 : (j : Int) < n4 := by omega
          have htk : (lf.take j).length ≤ 20 := by rw [List.length_take]; omega
          go_wp2_with (at_builtin; refine appT _ rfl (.tmp 31) (.tmp 38) rfl W1.heap.size _ _ rfl (os.alloc _) (some ⟨wr.heap.size, 0, none⟩) 1 1 [s] rfl rfl (svLit wr s) (by simp; omega) (by have := hb.size; simp; omega) ?_; intro v2 w2 o2 b2; have B2 := stepA hb b2; rw [HX.out] at o2)
          go_roundw
          case rel => exact ⟨j + 1, by omega, by go_num, o2, B2⟩
          case measure => simp [intOf]; omega
        · have hje : j = n4 := by omega
          subst hje
          obtain ⟨B2, d2, rfl, hrd2⟩ := os.rd
          have hll : (lf.take j).length = j := by rw [List.length_take, HN4.out]; omega
          have hta : lf.take j = lf := List.take_of_length_le (by rw [HN4.out]; omega)
          rw [hta] at hrd2
          rw [hll]
          have HRD2 := Lib.hid hrd2
          have HBB := Lib.hid hb
          clear os hll hta hrd2 hb
          go_wp2
          go_ret2
          exact ⟨B, d, B2, d2, by rw [HN1.out, HN4.out]; rfl, HRD.out.below HBB.out, HRD2.out, belowThen HBW.out (belowThen HB.out HBB.out)⟩
end Go.Proofs.YtebpnnakcodjdaaDoor
