/-
  The contracts of ValidName, the program's and the specification's: whether a string is a name.
-/
import Derived.Test.YtiaendggmamnkaaGreatDoorEWp
import Derived.WalkSpells
import Derived.Maps.OwnSet
import Derived.StringKeys
import Derived.RangeFuncNested
import Derived.RangeFuncBound
import Derived.RangeFuncCalls
import Derived.RangeFuncLeaves
import Derived.Shelf.Abstract
import Derived.Shelf.RegionOpen
import Derived.OwnWalkIn
import Derived.TacticsInMore
import Derived.LoopNIn
import Derived.LoopIn
import Derived.Deep.RegionHeld3
import Derived.Laws.EntriesVeiled
import Derived.Deep.DeepCutAuto
import Derived.Outline
import Derived.Test.YtiaendggmamnkaaGreatDoorEIn
namespace Go.Proofs.YtiaendggmamnkaaGreatDoor
open Go Go.RowKit

theorem nameNo1 {s : ByteArray} (h : s.size < 1 ∨ 16 < s.size) : nameB s = false := by
  unfold nameB
  rcases h with h | h
  · rw [decide_eq_false (show ¬ 1 ≤ s.size by omega)]; rfl
  · rw [decide_eq_false (show ¬ s.size ≤ 16 by omega), Bool.and_false]; rfl
theorem baGet {s : ByteArray} {k : Nat} (hk : k < s.size) : s.data.toList[k]? = some s[k] := by
  rw [List.getElem?_eq_getElem (by simpa using hk)]; rfl
theorem baZero {s : ByteArray} (h0 : 0 < s.size) : s.data.toList.getD 0 0 = s[0] := by
  rw [List.getD_eq_getElem?_getD, baGet h0]; rfl
theorem nameNo2 {s : ByteArray} (h0 : 0 < s.size) (h : letB s[0] = false) : nameB s = false := by
  unfold nameB
  rw [baZero h0, h, Bool.and_false, Bool.false_and]
theorem nameNoK {s : ByteArray} {k : Nat} (hk : k < s.size) (h : tailB s[k] = false) : nameB s = false := by
  unfold nameB
  rw [Bool.and_eq_false_iff]
  refine .inr ?_
  rw [List.all_eq_false]
  exact ⟨s[k], List.mem_of_getElem? (baGet hk), by rw [h]; decide⟩
theorem nameYes {s : ByteArray} (h1 : 1 ≤ s.size) (h2 : s.size ≤ 16) (h3 : letB s[0] = true) (h4 : ∀ k (hk : k < s.size), tailB s[k] = true) : nameB s = true := by
  unfold nameB
  rw [baZero h1, h3, decide_eq_true h1, decide_eq_true h2, Bool.and_true, Bool.true_and, Bool.true_and, List.all_eq_true]
  intro x hx
  obtain ⟨k, hk, rfl⟩ := List.getElem_of_mem hx
  have hk' : k < s.size := by simpa using hk
  exact h4 k hk'
theorem allNext {s : ByteArray} {k : Nat} (HA : ∀ j (hj : j < s.size), j < k → tailB s[j] = true) (hk : k < s.size) (h : tailB s[k] = true) : ∀ j (hj : j < s.size), j < k + 1 → tailB s[j] = true := fun j hj hlt => by
  rcases Nat.lt_or_ge j k with h' | h'
  · exact HA j hj h'
  · have e : j = k := by omega
    subst e
    exact h
set_option maxHeartbeats 1000000 in
theorem iValidName (s : ByteArray) (hs : s.size ≤ maxLen) (w : World) : Calls Tryz.prog 167 #[.string s] w fun e w' => e = .returned (.bool (nameB s)) ∧ w = w' := by
  unfold maxLen at hs
  by_cases h1 : s.size < 1
  · have HN := Lib.hid (nameNo1 (s := s) (.inl h1))
    go_enter Tryz.func167, Tryz.ntmps167
    go_wp2
    go_ret
    exact ⟨retBl HN.out.symm, rfl⟩
  by_cases h2 : 16 < s.size
  · have HN := Lib.hid (nameNo1 (s := s) (.inr h2))
    go_enter Tryz.func167, Tryz.ntmps167
    go_wp2
    go_ret
    exact ⟨retBl HN.out.symm, rfl⟩
  have h1' : 0 < s.size := by omega
  cases h3 : letB s[0]
  · have HN := Lib.hid (nameNo2 h1' h3)
    have HI := Lib.hid (iLetter s[0] w)
    rw [h3] at HI
    clear h3
    go_enter Tryz.func167, Tryz.ntmps167
    go_wp2_with (go_at_call 199; refine HI.out.mono ?_; rintro e w' ⟨rfl, rfl⟩)
    go_ret
    exact ⟨retBl HN.out.symm, rfl⟩
  have HI := Lib.hid (iLetter s[0] w)
  rw [h3] at HI
  have H3 := Lib.hid h3
  clear h3
  go_enter Tryz.func167, Tryz.ntmps167
  go_wp2_with (go_at_call 199; refine HI.out.mono ?_; rintro e w' ⟨rfl, rfl⟩)
  go_loop [21] (fun i => ∃ k : Nat, k ≤ s.size ∧ i = .int .i64 k ∧ Hid (∀ j (hj : j < s.size), j < k → tailB s[j] = true)) (fun i => s.size - (intOf i).toNat)
  case atStart => exact ⟨0, Nat.zero_le _, rfl, Lib.hid fun j _ h => by omega⟩
  case round =>
    obtain ⟨k, hk, rfl, HA⟩ := hrel
    by_cases hlt : k < s.size
    · obtain ⟨c, hc⟩ : ∃ c, s[k] = c := ⟨_, rfl⟩
      have HC := Lib.hid hc
      have HI1 := Lib.hid (iLetter c w)
      have HI2 := Lib.hid (iDigit c w)
      obtain ⟨b1, hb1⟩ : ∃ b, letB c = b := ⟨_, rfl⟩
      obtain ⟨b2, hb2⟩ : ∃ b, digB c = b := ⟨_, rfl⟩
      have HT : Hid (tailB c = (b1 || b2 || decide (c.toNat = 95))) := by unfold tailB; rw [hb1, hb2]; exact Lib.hid rfl
      rw [hb1] at HI1
      rw [hb2] at HI2
      clear hb1 hb2
      cases b1
      · cases b2
        · by_cases h95 : c.toNat = 95
          · have e95 : ((c.toNat : Int) != 95) = false := by simp; omega
            have HT2 := Lib.hid (show tailB s[k] = true by rw [HC.out, HT.out]; simp [h95])
            clear h95
            go_wp2_with (first | (go_at_call 199; refine HI1.out.mono ?_; rintro e w' ⟨rfl, rfl⟩) | (go_at_call 200; refine HI2.out.mono ?_; rintro e w' ⟨rfl, rfl⟩))
            go_round
            case rel => exact ⟨k + 1, by omega, by go_num, Lib.hid (allNext HA.out hlt HT2.out)⟩
            case measure => simp [intOf]; omega
          · have e95 : ((c.toNat : Int) != 95) = true := by simp; omega
            have HN := Lib.hid (nameNoK hlt (show tailB s[k] = false by rw [HC.out, HT.out]; simp [h95]))
            clear h95
            go_wp2_with (first | (go_at_call 199; refine HI1.out.mono ?_; rintro e w' ⟨rfl, rfl⟩) | (go_at_call 200; refine HI2.out.mono ?_; rintro e w' ⟨rfl, rfl⟩))
            go_ret
            exact ⟨retBl HN.out.symm, rfl⟩
        · have HT2 := Lib.hid (show tailB s[k] = true by rw [HC.out, HT.out]; rfl)
          go_wp2_with (first | (go_at_call 199; refine HI1.out.mono ?_; rintro e w' ⟨rfl, rfl⟩) | (go_at_call 200; refine HI2.out.mono ?_; rintro e w' ⟨rfl, rfl⟩))
          go_round
          case rel => exact ⟨k + 1, by omega, by go_num, Lib.hid (allNext HA.out hlt HT2.out)⟩
          case measure => simp [intOf]; omega
      · have HT2 := Lib.hid (show tailB s[k] = true by rw [HC.out, HT.out]; rfl)
        go_wp2_with (first | (go_at_call 199; refine HI1.out.mono ?_; rintro e w' ⟨rfl, rfl⟩) | (go_at_call 200; refine HI2.out.mono ?_; rintro e w' ⟨rfl, rfl⟩))
        go_round
        case rel => exact ⟨k + 1, by omega, by go_num, Lib.hid (allNext HA.out hlt HT2.out)⟩
        case measure => simp [intOf]; omega
    · have HN := Lib.hid (nameYes (s := s) (by omega) (by omega) H3.out fun j hj => HA.out j hj (by omega))
      go_wp2
      go_ret
      exact ⟨retBl HN.out.symm, rfl⟩
end Go.Proofs.YtiaendggmamnkaaGreatDoor

namespace Go.Proofs.YtiaendggmamnkaaGreatDoor
open Go Go.RowKit Go.Maps Go.WideMaps

/-- Each value reads as itself. -/
def RWs (v : Value) : Option (DataW Value × List MemPlace) := some (.held v, [])
theorem keyedStr : Keyed Tryz.prog 9 := string_keyed Tryz.underlying9
theorem zeroB (w : World) : (zeroValue 4).run Tryz.prog w = .ok (.bool false) w := by kernel_rfl
/-- Block b is the set of the strings in D. -/
def MapS (w : World) (b : Nat) (D : List ByteArray) : Prop := ∃ T : DataW Value, w.ownsMap Tryz.prog 9 RWs b D.length T ∧ ∀ s : ByteArray, T.atKey (.string s.data.toList) (.held (.bool false)) = .held (.bool (inS s D))
section
variable {w w' : World} {b : Nat} {D : List ByteArray}
theorem MapS.made (w : World) : MapS (w.alloc (.map #[] 0)) w.heap.size [] := ⟨.map [], World.ownsMap_made _ _ _ _, fun _ => rfl⟩
theorem MapS.lt (h : MapS w b D) : b < w.heap.size := by obtain ⟨T, h, _⟩ := h; exact h.lt
theorem MapS.look (h : MapS w b D) {s : ByteArray} (hs : s.size ≤ maxLen) : (Instr.lookup 93 (.map (some b)) (.string s) false).run Tryz.prog w = .ok (.bool (inS s D)) w := by
  obtain ⟨T, h, hat⟩ := h
  obtain ⟨v, ps, hr, hv⟩ := h.lookup (t := 93) keyedStr Tryz.underlying93 (zeroB w) (zd := .held (.bool false)) (zp := []) rfl (keyOf_string_mk Tryz.underlying9 hs)
  rw [hat] at hv
  simp only [RWs, Option.some.injEq, Prod.mk.injEq, DataW.held.injEq] at hv
  rw [hr, hv.1]
theorem inSApp (s : ByteArray) (D : List ByteArray) (t : ByteArray) : inS s (D ++ [t]) = (inS s D || decide (t.data.toList = s.data.toList)) := by
  unfold inS
  rw [List.any_append, List.any_cons, List.any_nil, Bool.or_false]
theorem MapS.put (h : MapS w b D) (hn : D.length < maxLen) {s : ByteArray} (hs : s.size ≤ maxLen) :
    ∃ w', (Instr.mapUpdate 93 (.map (some b)) (.string s) (.bool true)).run Tryz.prog w = .ok () w' ∧ MapS w' b (D ++ [s]) ∧ w.grownBy w' (some b) := by
  obtain ⟨T, h, hat⟩ := h
  have hk := keyOf_string_mk (P := Tryz.prog) Tryz.underlying9 hs
  have hm : IsMap T := h.isMap
  obtain ⟨w', hr, ho, hg⟩ := h.update (t := 93) keyedStr Tryz.underlying93 hn hk (val := .bool true) (d := .held (.bool true)) (ps := []) rfl
  have hlen : (D ++ [s]).length = D.length + 1 := by simp
  refine ⟨w', hr, ⟨_, by rw [hlen]; exact ho, fun y => ?_⟩, hg⟩
  rw [inSApp]
  by_cases e : s.data.toList = y.data.toList
  · rw [decide_eq_true e, Bool.or_true, ← e]
    exact atKey_put_same hm (keyedStr.key hk) _ _
  · rw [decide_eq_false e, Bool.or_false, atKey_put_other (fun e' => e (Lit.string.inj e').symm), hat]
end
theorem retNm {x y : Int × Int} (h : x = y) : Ending.returned (.tuple #[.int .i64 x.1, .int .i64 x.2]) = .returned (.tuple #[.int .i64 y.1, .int .i64 y.2]) := by rw [h]
end Go.Proofs.YtiaendggmamnkaaGreatDoor

namespace Go.Proofs.YtiaendggmamnkaaGreatDoor
open Go Go.RowKit

/-- Byte number k of s keeps it a name. -/
def okAtN (s : ByteArray) (k : Nat) : Prop := ∀ (hk : k < s.size), (k = 0 → letB s[k] = true) ∧ tailB s[k] = true
theorem okYes {s : ByteArray} (h1 : 1 ≤ s.size) (h2 : s.size ≤ 16) (h : ∀ k, k < s.size → okAtN s k) : true = nameB s :=
  (nameYes h1 h2 ((h 0 h1 h1).1 rfl) fun k hk => (h k hk hk).2).symm
theorem okNo {s : ByteArray} {k : Nat} (hk : k < s.size) (h : ¬ okAtN s k) : false = nameB s := by
  cases e : nameB s
  · rfl
  refine absurd (fun hk' => ⟨fun h0 => ?_, ?_⟩) h
  · subst h0
    cases e2 : letB s[0]
    · rw [nameNo2 hk e2] at e; cases e
    · rfl
  · cases e2 : tailB s[k]
    · rw [nameNoK hk e2] at e; cases e
    · rfl
theorem okNext {s : ByteArray} {k : Nat} (HA : ∀ j, j < k → okAtN s j) (h : okAtN s k) : ∀ j, j < k + 1 → okAtN s j := fun j hlt => by
  rcases Nat.lt_or_ge j k with h' | h'
  · exact HA j h'
  · have e : j = k := by omega
    subst e
    exact h
theorem okAtIs {s : ByteArray} {k : Nat} (hk : k < s.size) : okAtN s k ↔ (k = 0 → (97 ≤ s[k].toNat ∧ s[k].toNat ≤ 122) ∨ (65 ≤ s[k].toNat ∧ s[k].toNat ≤ 90)) ∧ ((97 ≤ s[k].toNat ∧ s[k].toNat ≤ 122) ∨ (65 ≤ s[k].toNat ∧ s[k].toNat ≤ 90) ∨ (48 ≤ s[k].toNat ∧ s[k].toNat ≤ 57) ∨ s[k].toNat = 95) := by
  have e : okAtN s k ↔ (k = 0 → letB s[k] = true) ∧ tailB s[k] = true := ⟨fun h => ⟨fun h0 => by subst h0; exact (h hk).1 rfl, (h hk).2⟩, fun h hk' => ⟨fun h0 => by have := h.1 h0; subst h0; exact this, h.2⟩⟩
  rw [e]
  unfold tailB letB digB
  simp only [Bool.or_eq_true, Bool.and_eq_true, decide_eq_true_eq]
  omega
set_option linter.unusedSimpArgs false in
set_option maxHeartbeats 4000000 in
theorem rValidName (s : ByteArray) (hs : s.size ≤ maxLen) (w : World) : Calls Tryz.prog 161 #[.string s] w fun e w' => e = .returned (.bool (nameB s)) ∧ w = w' := by
  unfold maxLen at hs
  by_cases h1 : s.size < 1
  · have HN := Lib.hid (nameNo1 (s := s) (.inl h1))
    go_enter Tryz.func161, Tryz.ntmps161
    go_wp2
    all_goals first
      | (exfalso; omega)
      | (go_ret; exact ⟨retBl HN.out.symm, rfl⟩)
  by_cases h2 : 16 < s.size
  · have HN := Lib.hid (nameNo1 (s := s) (.inr h2))
    go_enter Tryz.func161, Tryz.ntmps161
    go_wp2
    all_goals first
      | (exfalso; omega)
      | (go_ret; exact ⟨retBl HN.out.symm, rfl⟩)
  go_enter Tryz.func161, Tryz.ntmps161
  go_wp2
  all_goals (try (exfalso; omega))
  go_loop [3, 4, 5] (fun i _ _ => ∃ k : Nat, k ≤ s.size ∧ i = .int .i64 k ∧ Hid (∀ j, j < k → okAtN s j)) (fun i _ _ => s.size - (intOf i).toNat)
  case atStart => exact ⟨0, Nat.zero_le _, rfl, Lib.hid fun j h => by omega⟩
  case round =>
    obtain ⟨k, hk, rfl, HA⟩ := hrel
    by_cases hlt : k < s.size
    · have ho := okAtIs hlt
      have hm9 := (s[k]).toNat_lt
      by_cases hk0 : k = 0
      · subst hk0
        have HO : Hid (okAtN s 0 ↔ (97 ≤ s[0].toNat ∧ s[0].toNat ≤ 122) ∨ (65 ≤ s[0].toNat ∧ s[0].toNat ≤ 90)) := Lib.hid (by rw [ho]; simp only [true_implies]; omega)
        clear ho
        go_wp2
        all_goals (try simp only [beq_eq_false_iff_ne, bne_eq_false_iff_eq, ne_eq, beq_iff_eq, bne_iff_ne, Bool.not_eq_false', Bool.not_eq_true', decide_eq_true_eq, decide_eq_false_iff_not] at *)
        all_goals first
          | (exfalso; omega)
          | (go_ret; exact ⟨retBl (okNo hlt fun h => by have h := HO.out.1 h; omega), rfl⟩)
          | exact ⟨⟨0 + 1, by omega, by go_num, Lib.hid (okNext HA.out (HO.out.2 (by omega)))⟩, by simp [intOf]; omega⟩
      · have HO : Hid (okAtN s k ↔ (97 ≤ s[k].toNat ∧ s[k].toNat ≤ 122) ∨ (65 ≤ s[k].toNat ∧ s[k].toNat ≤ 90) ∨ (48 ≤ s[k].toNat ∧ s[k].toNat ≤ 57) ∨ s[k].toNat = 95) := Lib.hid (by rw [ho]; simp only [hk0, false_implies, true_and])
        clear ho
        go_wp2
        all_goals (try simp only [beq_eq_false_iff_ne, bne_eq_false_iff_eq, ne_eq, beq_iff_eq, bne_iff_ne, Bool.not_eq_false', Bool.not_eq_true', decide_eq_true_eq, decide_eq_false_iff_not] at *)
        all_goals first
          | (exfalso; omega)
          | (go_ret; exact ⟨retBl (okNo hlt fun h => by have h := HO.out.1 h; omega), rfl⟩)
          | exact ⟨⟨k + 1, by omega, by go_num, Lib.hid (okNext HA.out (HO.out.2 (by omega)))⟩, by simp [intOf]; omega⟩
    · have HX := Lib.hid (okYes (s := s) (by omega) (by omega) fun j hj => HA.out j (by omega))
      go_wp2
      go_ret
      exact ⟨retBl HX.out, rfl⟩
end Go.Proofs.YtiaendggmamnkaaGreatDoor
