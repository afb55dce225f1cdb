/-
  The contracts of lex.separator and lex.isValid.
-/
import Derived.Test.YtnlhkeobfidjkaaDoorLxN
import Derived.Test.YtnlhkeobfidjkaaDoorLxX
import Derived.Deep.RegionHeld3
namespace Go.Proofs.YtnlhkeobfidjkaaDoor
open Go Go.RowKit

/-- What Join writes before token k. -/
def sepL (l : List Tok) (k : Nat) : List UInt8 := match k with
  | 0 => []
  | j + 1 => if (l[j]?.map (·.kind)) = some 4 ∨ (l[j + 1]?.map (·.kind)) = some 4 then [] else [32]
theorem retS {a b : List UInt8} (h : a = b) : Ending.returned (.string (bs a)) = .returned (.string (bs b)) := by rw [h]
theorem leMaxK {c : Nat} (h : c ≤ maxLen) : c ≤ 9223372036854775807 := h
set_option maxHeartbeats 1000000 in
theorem iSep (l : List Tok) (n : Nat) (hn : l.length = n) (A : Option Addr) (c : Nat) (w : World) (hr : Rk w A c l) (k : Nat) (hk : k < n) :
    Calls Tryd.prog 22 #[.slice A n c, .int .i64 (k : Int)] w fun e w' => e = .returned (.string (bs (sepL l k))) ∧ w = w' := by
  have h1 := hr.le
  have h2 := leMaxK hr.max
  rw [hn] at h1
  cases k with
  | zero =>
    clear hr hn
    go_enter Tryd.func22, Tryd.ntmps22
    go_wp2
    go_ret
    exact ⟨rfl, rfl⟩
  | succ j =>
    have hj : j < l.length := by omega
    have hj1 : j + 1 < l.length := by omega
    obtain ⟨b, o, rfl, _, x0, _, _, _⟩ := hr.one hj
    obtain ⟨b', o', e', _, y0, _, _, _⟩ := hr.one hj1
    injection e' with e'
    injection e' with e1 e2
    subst e1; subst e2
    have e3 : l[j]?.map (·.kind) = some l[j].kind := by rw [List.getElem?_eq_getElem hj]; rfl
    have e4 : l[j + 1]?.map (·.kind) = some l[j + 1].kind := by rw [List.getElem?_eq_getElem hj1]; rfl
    have HX := Lib.hid (show sepL l (j + 1) = if l[j].kind = 4 ∨ l[j + 1].kind = 4 then [] else [32] by
      unfold sepL; simp only [e3, e4, Option.some.injEq])
    generalize l[j].kind = p at *
    generalize l[j + 1].kind = q at *
    have k0 : ((j : Int) + 1 == 0) = false := by rw [beq_eq_false_iff_ne]; omega
    have j0 : (0 : Int) ≤ (j : Int) := by omega
    have j1 : (j : Int) < n := by omega
    have j2 : (0 : Int) ≤ (j : Int) + 1 := by omega
    have j3 : (j : Int) + 1 < n := by omega
    clear hr hn e3 e4
    by_cases g1 : p = 4
    · have f1 : (p == 4) = true := by simpa using g1
      have HY := Lib.hid (show sepL l (j + 1) = [] by rw [HX.out, if_pos (.inl g1)])
      clear g1
      go_enter Tryd.func22, Tryd.ntmps22
      go_wp2
      go_ret
      exact ⟨retS HY.out.symm, rfl⟩
    · have f1 : (p == 4) = false := by simpa using g1
      by_cases g2 : q = 4
      · have f2 : (q == 4) = true := by simpa using g2
        have HY := Lib.hid (show sepL l (j + 1) = [] by rw [HX.out, if_pos (.inr g2)])
        clear g1 g2
        go_enter Tryd.func22, Tryd.ntmps22
        go_wp2
        go_ret
        exact ⟨retS HY.out.symm, rfl⟩
      · have f2 : (q == 4) = false := by simpa using g2
        have HY := Lib.hid (show sepL l (j + 1) = [32] by rw [HX.out, if_neg (by omega)])
        clear g1 g2
        go_enter Tryd.func22, Tryd.ntmps22
        go_wp2
        go_ret
        exact ⟨retS HY.out.symm, rfl⟩
/-- A token is valid (P9.2). -/
def okB9 (t : Tok) : Bool := okT parE parV t
theorem okNoText {t : Tok} (h : t.text = []) : okB9 t = false := by unfold okB9 okT; rw [h]
theorem kdIs {j : Nat} (h : 2 ≤ j) : kd j = (j : Int) - 1 := by unfold kd; rw [if_neg (by omega)]
theorem okIs (t : Tok) {c : UInt8} {r : List UInt8} (h : t.text = c :: r) : okB9 t = (decide (3 ≤ cls c) && (more c r == r.length) && (numE (kd (cls c - 1)) t.text == 0 && (kd (cls c - 1) == t.kind && numV (kd (cls c - 1)) t.text == t.n))) := by
  unfold okB9 okT
  rw [h]
  simp only
  by_cases h3 : 3 ≤ cls c
  · have h6 : cls c ≤ 6 := by unfold cls; (repeat' split) <;> decide
    have hm := mkTokK (j := cls c - 1) (by omega) (by omega) (c :: r) 0
    rw [show cls c - 1 + 1 = cls c by omega] at hm
    rw [hm]
    by_cases he : numE (kd (cls c - 1)) (c :: r) = 0
    · rw [if_pos he, he]; simp
    · rw [if_neg he]
      have : (numE (kd (cls c - 1)) (c :: r) == 0) = false := by simpa using he
      rw [this]; simp
  · have : decide (3 ≤ cls c) = false := by simpa using h3
    rw [this]; rfl
/-- At the shape of its kind: what isValid tells. -/
theorem okAt (t : Tok) (j : Nat) (h2 : 2 ≤ j) (h6 : j < 6) (hk : kd j = t.kind) (hne : t.text ≠ []) : okB9 t = ((endP (fun c => cls c == j + 1) (rst (j + 1)) t.text == t.text.length) && (numE t.kind t.text == 0 && numV t.kind t.text == t.n)) := by
  cases ht : t.text with
  | nil => exact absurd ht hne
  | cons c r =>
    rw [okIs t ht, ht]
    by_cases hc : cls c = j + 1
    · have e1 : cls c - 1 = j := by omega
      rw [e1, hk]
      have e2 : decide (3 ≤ cls c) = true := by simp; omega
      have e3 : endP (fun c => cls c == j + 1) (rst (j + 1)) (c :: r) = 1 + more c r := by
        rw [endP, if_pos (by simpa using hc), more, hc]
      rw [e2, e3]
      have e4 : (1 + more c r == (c :: r).length) = (more c r == r.length) := by
        rw [List.length_cons, Nat.add_comm]
        rcases h : more c r == r.length with _ | _
        · rw [beq_eq_false_iff_ne] at h ⊢; omega
        · rw [beq_iff_eq] at h ⊢; omega
      rw [e4]; simp
    · have e3 : endP (fun c => cls c == j + 1) (rst (j + 1)) (c :: r) = 0 := by rw [endP, if_neg (by simpa using hc)]
      have e5 : (kd (cls c - 1) == t.kind) = false ∨ decide (3 ≤ cls c) = false := by
        by_cases h3 : 3 ≤ cls c
        · left
          rw [← hk, kdIs h2, kdIs (by omega), beq_eq_false_iff_ne]; omega
        · right; simpa using h3
      rw [e3]
      rcases e5 with e5 | e5 <;> rw [e5] <;> simp
theorem okKind {t : Tok} (h : ∀ j, 2 ≤ j → j < 6 → kd j ≠ t.kind) : okB9 t = false := by
  cases ht : t.text with
  | nil => exact okNoText ht
  | cons c r =>
    rw [okIs t ht]
    by_cases h3 : 3 ≤ cls c
    · have h6 : cls c ≤ 6 := by unfold cls; (repeat' split) <;> decide
      have : (kd (cls c - 1) == t.kind) = false := by rw [beq_eq_false_iff_ne]; exact h _ (by omega) (by omega)
      rw [this]; simp
    · have : decide (3 ≤ cls c) = false := by simpa using h3
      rw [this]; rfl
end Go.Proofs.YtnlhkeobfidjkaaDoor
