/-
  The contract of lex.number; what the scanner does at one offset.
-/
import Derived.Test.YtnlhkeobfidjkaaDoorLxE
import Derived.Test.YtnlhkeobfidjkaaDoorExample
namespace Go.Proofs.YtnlhkeobfidjkaaDoor
open Go Go.RowKit

def numV (k : Int) (t : List UInt8) : Int := if k = 2 then parV t else 0
def numE (k : Int) (t : List UInt8) : Int := if k = 2 then parE t else 0
theorem iNumber (k : Int) (s : ByteArray) (hs : s.size ≤ 281474976710656) (V E : Int) (hV : numV k s.data.toList = V) (hE : numE k s.data.toList = E) (w : World) (hw : Ev w) :
    Calls Tryd.prog 19 #[.int .i64 k, .string s] w fun e w' => e = .returned (.tuple #[.int .i64 V, .int .i64 E]) ∧ Below w.heap.size w w' := by
  by_cases hk : k = 2
  · subst hk
    have HP := Lib.hid (vParseIs s hs V E (by simpa [numV] using hV) (by simpa [numE] using hE) w hw)
    clear hV hE hw
    go_enter Tryd.func19, Tryd.ntmps19
    go_wp2_with fail
    refine HP.out.mono ?_
    rintro e w1 ⟨rfl, b1, _⟩
    go_wp2
    go_ret2
    exact ⟨rfl, b1⟩
  · have hkn : (k != 2) = true := by simpa using hk
    have e1 : V = 0 := by rw [← hV, numV, if_neg hk]
    have e2 : E = 0 := by rw [← hE, numE, if_neg hk]
    subst e1; subst e2
    clear hV hE hk
    go_enter Tryd.func19, Tryd.ntmps19
    go_wp2
    go_ret2
    exact ⟨rfl, Below.refl _ _⟩
/-- The tokens of a text, or its fault. -/
def lexT (l : List UInt8) (k : Nat) : Except (Int × Nat) (List Tok) := lx parE parV l k
theorem mkTokK {j : Nat} (h2 : 2 ≤ j) (h6 : j < 6) (t : List UInt8) (pos : Nat) : mkTok parE parV (j + 1) t pos = if numE (kd j) t = 0 then .ok ⟨kd j, t, numV (kd j) t, pos⟩ else .error (numE (kd j) t, pos) := by
  rcases (by omega : j = 2 ∨ j = 3 ∨ j = 4 ∨ j = 5) with rfl | rfl | rfl | rfl
  · rfl
  · show (if parE t = 0 then _ else _) = _
    rfl
  · rfl
  · rfl
section
variable {s : ByteArray} {k j E : Nat} (hk : k < s.size)
include hk
theorem endNo (h : ¬ cls s[k] = j + 1) : endP (fun c => cls c == j + 1) (rst (j + 1)) (s.data.toList.drop k) = 0 := by
  rw [dropAt s hk, endP, if_neg (by simpa using h)]
theorem endYes (h : cls s[k] = j + 1) : endP (fun c => cls c == j + 1) (rst (j + 1)) (s.data.toList.drop k) = 1 + more s[k] (s.data.toList.drop (k + 1)) := by
  rw [dropAt s hk, endP, if_pos (by simpa using h), more, h]
theorem endLe (h : cls s[k] = j + 1) (hE : k + endP (fun c => cls c == j + 1) (rst (j + 1)) (s.data.toList.drop k) = E) : k < E ∧ E ≤ s.size := by
  rw [endYes hk h] at hE
  have := moreLe s[k] (s.data.toList.drop (k + 1))
  rw [List.length_drop] at this
  have e : s.data.toList.length = s.size := rfl
  omega
theorem lexBad (h : cls s[k] = 0) : lexT (s.data.toList.drop k) k = .error (14, k) := by
  unfold lexT
  rw [dropAt s hk, lxCons, if_pos h]
theorem dropE (h : cls s[k] = j + 1) (hE : k + endP (fun c => cls c == j + 1) (rst (j + 1)) (s.data.toList.drop k) = E) : (s.data.toList.drop (k + 1)).drop (more s[k] (s.data.toList.drop (k + 1))) = s.data.toList.drop E ∧ k + 1 + more s[k] (s.data.toList.drop (k + 1)) = E := by
  rw [endYes hk h] at hE
  have : k + 1 + more s[k] (s.data.toList.drop (k + 1)) = E := by omega
  rw [List.drop_drop, this]
  exact ⟨rfl, rfl⟩
theorem lexSep (h : cls s[k] = j + 1) (hj : j ≤ 1) (hE : k + endP (fun c => cls c == j + 1) (rst (j + 1)) (s.data.toList.drop k) = E) : lexT (s.data.toList.drop k) k = lexT (s.data.toList.drop E) E := by
  obtain ⟨e1, e2⟩ := dropE hk h hE
  unfold lexT
  conv => lhs; rw [dropAt s hk, lxCons, if_neg (by omega), if_pos (by omega), e1, e2]
theorem textE (h : cls s[k] = j + 1) (hE : k + endP (fun c => cls c == j + 1) (rst (j + 1)) (s.data.toList.drop k) = E) : (s.extract k E).data.toList = s[k] :: (s.data.toList.drop (k + 1)).take (more s[k] (s.data.toList.drop (k + 1))) := by
  obtain ⟨e1, e2⟩ := dropE hk h hE
  rw [Lib.extract_data, show E - k = more s[k] (s.data.toList.drop (k + 1)) + 1 by omega, dropAt s hk, List.take_succ_cons]
theorem lexErr (h : cls s[k] = j + 1) (hj : 2 ≤ j) (hj6 : j < 6) (hE : k + endP (fun c => cls c == j + 1) (rst (j + 1)) (s.data.toList.drop k) = E) (he : numE (kd j) (s.extract k E).data.toList ≠ 0) : lexT (s.data.toList.drop k) k = .error (numE (kd j) (s.extract k E).data.toList, k) := by
  have e3 := textE hk h hE
  unfold lexT
  rw [dropAt s hk, lxCons, if_neg (by omega), if_neg (by omega), ← e3, h, mkTokK hj hj6, if_neg he]
theorem lexTok (h : cls s[k] = j + 1) (hj : 2 ≤ j) (hj6 : j < 6) (hE : k + endP (fun c => cls c == j + 1) (rst (j + 1)) (s.data.toList.drop k) = E) (he : numE (kd j) (s.extract k E).data.toList = 0) : lexT (s.data.toList.drop k) k = consR ⟨kd j, (s.extract k E).data.toList, numV (kd j) (s.extract k E).data.toList, k⟩ (lexT (s.data.toList.drop E) E) := by
  have e3 := textE hk h hE
  obtain ⟨e1, e2⟩ := dropE hk h hE
  unfold lexT
  conv => lhs; rw [dropAt s hk, lxCons, if_neg (by omega), if_neg (by omega), ← e3, h, mkTokK hj hj6, if_pos he, e1, e2]
end
theorem lexEnd {s : ByteArray} {k : Nat} (h : s.size ≤ k) : lexT (s.data.toList.drop k) k = .ok [] := by
  rw [dropEnd s h]; rfl
end Go.Proofs.YtnlhkeobfidjkaaDoor
