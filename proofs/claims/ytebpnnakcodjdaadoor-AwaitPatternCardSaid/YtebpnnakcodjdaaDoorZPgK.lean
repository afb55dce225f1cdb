/-
  The contracts of ValidName, the program's and the specification's: whether a string is a name.
-/
import Derived.Test.YtebpnnakcodjdaaDoorZIU
import Derived.WalkSpells
import Derived.Maps.OwnSet
import Derived.StringKeys
namespace Go.Proofs.YtebpnnakcodjdaaDoor
open Go Go.RowKit

theorem nameNo1 {s : ByteArray} (h : s.size < 1 ∨ 16 < s.size) : nameB s = false := by
  unfold nameB
  rcases h with h | h
  · rw [decide_eq_false (show ¬ 1 ≤ s.size by omega)]; rfl
  · rw [decide_eq_false (show ¬ s.size ≤ 16 by omega), Bool.and_false]; rfl
theorem baGet {s : ByteArray} {k : Nat} (hk : k < s.size) : s.data.toList[k]? = some s[k] := by
  rw [List.getElem?_eq_getElem (by simpa using hk)]; rfl
theorem baZero {s : ByteArray} (h0 : 0 < s.size) : s.data.toList.getD 0 0 = s[0] := by
  rw [List.getD_eq_getElem?_getD, baGet h0]; rfl
theorem nameNo2 {s : ByteArray} (h0 : 0 < s.size) (h : letB s[0] = false) : nameB s = false := by
  unfold nameB
  rw [baZero h0, h, Bool.and_false, Bool.false_and]
theorem nameNoK {s : ByteArray} {k : Nat} (hk : k < s.size) (h : tailB s[k] = false) : nameB s = false := by
  unfold nameB
  rw [Bool.and_eq_false_iff]
  refine .inr ?_
  rw [List.all_eq_false]
  exact ⟨s[k], List.mem_of_getElem? (baGet hk), by rw [h]; decide⟩
theorem nameYes {s : ByteArray} (h1 : 1 ≤ s.size) (h2 : s.size ≤ 16) (h3 : letB s[0] = true) (h4 : ∀ k (hk : k < s.size), tailB s[k] = true) : nameB s = true := by
  unfold nameB
  rw [baZero h1, h3, decide_eq_true h1, decide_eq_true h2, Bool.and_true, Bool.true_and, Bool.true_and, List.all_eq_true]
  intro x hx
  obtain ⟨k, hk, rfl⟩ := List.getElem_of_mem hx
  have hk' : k < s.size := by simpa using hk
  exact h4 k hk'
theorem allNext {s : ByteArray} {k : Nat} (HA : ∀ j (hj : j < s.size), j < k → tailB s[j] = true) (hk : k < s.size) (h : tailB s[k] = true) : ∀ j (hj : j < s.size), j < k + 1 → tailB s[j] = true := fun j hj hlt => by
  rcases Nat.lt_or_ge j k with h' | h'
  · exact HA j hj h'
  · have e : j = k := by omega
    subst e
    exact h
set_option maxHeartbeats 1000000 in
theorem iValidName (s : ByteArray) (hs : s.size ≤ maxLen) (w : World) : Calls Tryd.prog 65 #[.string s] w fun e w' => e = .returned (.bool (nameB s)) ∧ w = w' := by
  unfold maxLen at hs
  by_cases h1 : s.size < 1
  · have HN := Lib.hid (nameNo1 (s := s) (.inl h1))
    go_enter Tryd.func65, Tryd.ntmps65
    go_wp2
    go_ret
    exact ⟨retBl HN.out.symm, rfl⟩
  by_cases h2 : 16 < s.size
  · have HN := Lib.hid (nameNo1 (s := s) (.inr h2))
    go_enter Tryd.func65, Tryd.ntmps65
    go_wp2
    go_ret
    exact ⟨retBl HN.out.symm, rfl⟩
  have h1' : 0 < s.size := by omega
  cases h3 : letB s[0]
  · have HN := Lib.hid (nameNo2 h1' h3)
    have HI := Lib.hid (iLetter s[0] w)
    rw [h3] at HI
    clear h3
    go_enter Tryd.func65, Tryd.ntmps65
    go_wp2_with (go_at_call 72; refine HI.out.mono ?_; rintro e w' ⟨rfl, rfl⟩)
    go_ret
    exact ⟨retBl HN.out.symm, rfl⟩
  have HI := Lib.hid (iLetter s[0] w)
  rw [h3] at HI
  have H3 := Lib.hid h3
  clear h3
  go_enter Tryd.func65, Tryd.ntmps65
  go_wp2_with (go_at_call 72; refine HI.out.mono ?_; rintro e w' ⟨rfl, rfl⟩)
  go_loop [21] (fun i => ∃ k : Nat, k ≤ s.size ∧ i = .int .i64 k ∧ Hid (∀ j (hj : j < s.size), j < k → tailB s[j] = true)) (fun i => s.size - (intOf i).toNat)
  case atStart => exact ⟨0, Nat.zero_le _, rfl, Lib.hid fun j _ h => by omega⟩
  case round =>
    obtain ⟨k, hk, rfl, HA⟩ := hrel
    by_cases hlt : k < s.size
    · obtain ⟨c, hc⟩ : ∃ c, s[k] = c := ⟨_, rfl⟩
      have HC := Lib.hid hc
      have HI1 := Lib.hid (iLetter c w)
      have HI2 := Lib.hid (iDigit c w)
      obtain ⟨b1, hb1⟩ : ∃ b, letB c = b := ⟨_, rfl⟩
      obtain ⟨b2, hb2⟩ : ∃ b, digB c = b := ⟨_, rfl⟩
      have HT : Hid (tailB c = (b1 || b2 || decide (c.toNat = 95))) := by unfold tailB; rw [hb1, hb2]; exact Lib.hid rfl
      rw [hb1] at HI1
      rw [hb2] at HI2
      clear hb1 hb2
      cases b1
      · cases b2
        · by_cases h95 : c.toNat = 95
          · have e95 : ((c.toNat : Int) != 95) = false := by simp; omega
            have HT2 := Lib.hid (show tailB s[k] = true by rw [HC.out, HT.out]; simp [h95])
            clear h95
            go_wp2_with (first | (go_at_call 72; refine HI1.out.mono ?_; rintro e w' ⟨rfl, rfl⟩) | (go_at_call 73; refine HI2.out.mono ?_; rintro e w' ⟨rfl, rfl⟩))
            go_round
            case rel => exact ⟨k + 1, by omega, by go_num, Lib.hid (allNext HA.out hlt HT2.out)⟩
            case measure => simp [intOf]; omega
          · have e95 : ((c.toNat : Int) != 95) = true := by simp; omega
            have HN := Lib.hid (nameNoK hlt (show tailB s[k] = false by rw [HC.out, HT.out]; simp [h95]))
            clear h95
            go_wp2_with (first | (go_at_call 72; refine HI1.out.mono ?_; rintro e w' ⟨rfl, rfl⟩) | (go_at_call 73; refine HI2.out.mono ?_; rintro e w' ⟨rfl, rfl⟩))
            go_ret
            exact ⟨retBl HN.out.symm, rfl⟩
        · have HT2 := Lib.hid (show tailB s[k] = true by rw [HC.out, HT.out]; rfl)
          go_wp2_with (first | (go_at_call 72; refine HI1.out.mono ?_; rintro e w' ⟨rfl, rfl⟩) | (go_at_call 73; refine HI2.out.mono ?_; rintro e w' ⟨rfl, rfl⟩))
          go_round
          case rel => exact ⟨k + 1, by omega, by go_num, Lib.hid (allNext HA.out hlt HT2.out)⟩
          case measure => simp [intOf]; omega
      · have HT2 := Lib.hid (show tailB s[k] = true by rw [HC.out, HT.out]; rfl)
        go_wp2_with (first | (go_at_call 72; refine HI1.out.mono ?_; rintro e w' ⟨rfl, rfl⟩) | (go_at_call 73; refine HI2.out.mono ?_; rintro e w' ⟨rfl, rfl⟩))
        go_round
        case rel => exact ⟨k + 1, by omega, by go_num, Lib.hid (allNext HA.out hlt HT2.out)⟩
        case measure => simp [intOf]; omega
    · have HN := Lib.hid (nameYes (s := s) (by omega) (by omega) H3.out fun j hj => HA.out j hj (by omega))
      go_wp2
      go_ret
      exact ⟨retBl HN.out.symm, rfl⟩
end Go.Proofs.YtebpnnakcodjdaaDoor

namespace Go.Proofs.YtebpnnakcodjdaaDoor
open Go Go.RowKit Go.Maps Go.WideMaps

/-- Each value reads as itself. -/
def RWs (v : Value) : Option (DataW Value × List MemPlace) := some (.held v, [])
theorem keyedStr : Keyed Tryd.prog 9 := string_keyed Tryd.underlying9
theorem zeroB (w : World) : (zeroValue 4).run Tryd.prog w = .ok (.bool false) w := by kernel_rfl
/-- Block b is the set of the strings in D. -/
def MapS (w : World) (b : Nat) (D : List ByteArray) : Prop := ∃ T : DataW Value, w.ownsMap Tryd.prog 9 RWs b D.length T ∧ ∀ s : ByteArray, T.atKey (.string s.data.toList) (.held (.bool false)) = .held (.bool (inS s D))
section
variable {w w' : World} {b : Nat} {D : List ByteArray}
theorem MapS.made (w : World) : MapS (w.alloc (.map #[] 0)) w.heap.size [] := ⟨.map [], World.ownsMap_made _ _ _ _, fun _ => rfl⟩
theorem MapS.lt (h : MapS w b D) : b < w.heap.size := by obtain ⟨T, h, _⟩ := h; exact h.lt
theorem MapS.look (h : MapS w b D) {s : ByteArray} (hs : s.size ≤ maxLen) : (Instr.lookup 104 (.map (some b)) (.string s) false).run Tryd.prog w = .ok (.bool (inS s D)) w := by
  obtain ⟨T, h, hat⟩ := h
  obtain ⟨v, ps, hr, hv⟩ := h.lookup (t := 104) keyedStr Tryd.underlying104 (zeroB w) (zd := .held (.bool false)) (zp := []) rfl (keyOf_string_mk Tryd.underlying9 hs)
  rw [hat] at hv
  simp only [RWs, Option.some.injEq, Prod.mk.injEq, DataW.held.injEq] at hv
  rw [hr, hv.1]
theorem inSApp (s : ByteArray) (D : List ByteArray) (t : ByteArray) : inS s (D ++ [t]) = (inS s D || decide (t.data.toList = s.data.toList)) := by
  unfold inS
  rw [List.any_append, List.any_cons, List.any_nil, Bool.or_false]
theorem MapS.put (h : MapS w b D) (hn : D.length < maxLen) {s : ByteArray} (hs : s.size ≤ maxLen) :
    ∃ w', (Instr.mapUpdate 104 (.map (some b)) (.string s) (.bool true)).run Tryd.prog w = .ok () w' ∧ MapS w' b (D ++ [s]) ∧ w.grownBy w' (some b) := by
  obtain ⟨T, h, hat⟩ := h
  have hk := keyOf_string_mk (P := Tryd.prog) Tryd.underlying9 hs
  have hm : IsMap T := h.isMap
  obtain ⟨w', hr, ho, hg⟩ := h.update (t := 104) keyedStr Tryd.underlying104 hn hk (val := .bool true) (d := .held (.bool true)) (ps := []) rfl
  have hlen : (D ++ [s]).length = D.length + 1 := by simp
  refine ⟨w', hr, ⟨_, by rw [hlen]; exact ho, fun y => ?_⟩, hg⟩
  rw [inSApp]
  by_cases e : s.data.toList = y.data.toList
  · rw [decide_eq_true e, Bool.or_true, ← e]
    exact atKey_put_same hm (keyedStr.key hk) _ _
  · rw [decide_eq_false e, Bool.or_false, atKey_put_other (fun e' => e (Lit.string.inj e').symm), hat]
end
theorem retNm {x y : Int × Int} (h : x = y) : Ending.returned (.tuple #[.int .i64 x.1, .int .i64 x.2]) = .returned (.tuple #[.int .i64 y.1, .int .i64 y.2]) := by rw [h]
set_option maxHeartbeats 1000000 in
theorem iNames1 (l : List ByteArray) (n : Nat) (hn : l.length = n) (hmax : n ≤ maxLen) (hl : ∀ s ∈ l, s.size ≤ maxLen) (b : Nat) (w : World)
    (hfv : ∀ X, Below w.heap.size w X → ∀ k (hk : k < l.length), Calls Tryd.prog 44 #[.int .i64 (k : Int), .pointer (some ⟨b, 0, none⟩)] X fun e X' => e = .returned (.string l[k]) ∧ X = X') :
    Calls Tryd.prog 43 #[.int .i64 (n : Int), .func (.func 44) #[] #[.pointer (some ⟨b, 0, none⟩)]] w fun e w' => e = .returned (.tuple #[.int .i64 (nmF [] l 0).1, .int .i64 (nmF [] l 0).2]) ∧ Below w.heap.size w w' := by
  obtain ⟨r, hr⟩ : ∃ r, nmF [] l 0 = r := ⟨_, rfl⟩
  rw [hr]
  have HR := Lib.hid hr
  have HF := Lib.hid hfv
  have HL := Lib.hid hl
  have HN := Lib.hid hn
  have hM := MapS.made w
  have hmm := @run_makeMap Tryd.prog
  have hbw := belowAlloc w (.map #[] 0)
  obtain ⟨W, hW⟩ : ∃ W, w.alloc (.map #[] 0) = W := ⟨_, rfl⟩
  rw [hW] at hM hbw
  have HW := Lib.hid hW
  unfold maxLen at hmax
  clear hr hfv hl hn hW
  go_enter Tryd.func43, Tryd.ntmps43
  go_wp2_with fail
  rw [HW.out]
  go_loopw [11] (fun i wr => ∃ k : Nat, k ≤ n ∧ i = .int .i64 k ∧ MapS wr w.heap.size (l.take k) ∧ Below w.heap.size w wr ∧ Hid (nmF (l.take k) (l.drop k) k = r)) (fun i _ => n - (intOf i).toNat)
  case atStart => exact ⟨0, Nat.zero_le _, rfl, hM, hbw, HR⟩
  case round =>
    obtain ⟨k, hk, rfl, hm, hb, HE⟩ := hrel
    by_cases hlt : k < n
    · have hkl : k < l.length := by rw [HN.out]; exact hlt
      have HS := Lib.hid (HL.out _ (List.getElem_mem hkl))
      have HFK := Lib.hid (HF.out wr hb k hkl)
      have HV := Lib.hid (iValidName _ HS.out wr)
      have HLK := Lib.hid (hm.look HS.out)
      obtain ⟨s, hs⟩ : ∃ s, l[k] = s := ⟨_, rfl⟩
      cases h1 : nameB l[k]
      · have HX := Lib.hid ((nmFbad hkl h1).symm.trans HE.out)
        rw [h1] at HV
        rw [hs] at HFK HV
        clear h1 hs
        go_wp2_with (first | (go_at_call 44; refine HFK.out.mono ?_; rintro e w' ⟨rfl, rfl⟩) | (go_at_call 65; refine HV.out.mono ?_; rintro e w' ⟨rfl, rfl⟩))
        go_ret2
        exact ⟨retNm HX.out, hb⟩
      · cases h2 : inS l[k] (l.take k)
        · have HX := Lib.hid ((nmFgo hkl h1 h2).symm.trans HE.out)
          rw [h1] at HV
          rw [h2] at HLK
          have htl : (l.take k).length < maxLen := by rw [List.length_take]; unfold maxLen; omega
          obtain ⟨w2, hput, hm2, hg2⟩ := hm.put htl HS.out
          have e2 := List.take_succ_eq_append_getElem hkl
          rw [← e2] at hm2
          have HM2 := Lib.hid hm2
          have hb2 : Below w.heap.size w w2 := hb.grown hg2 hb.size (fun k hk => by injection hk with hk; omega)
          rw [hs] at HFK HV HLK hput
          have hlk := HLK.out
          clear h1 h2 hs e2 hm2 htl
          go_wp2_with (first | (go_at_call 44; refine HFK.out.mono ?_; rintro e w' ⟨rfl, rfl⟩) | (go_at_call 65; refine HV.out.mono ?_; rintro e w' ⟨rfl, rfl⟩))
          go_roundw
          case rel => exact ⟨k + 1, by omega, by go_num, HM2.out, hb2, HX⟩
          case measure => simp [intOf]; omega
        · have HX := Lib.hid ((nmFtwice hkl h1 h2).symm.trans HE.out)
          rw [h1] at HV
          rw [h2] at HLK
          rw [hs] at HFK HV HLK
          have hlk := HLK.out
          clear h1 h2 hs
          go_wp2_with (first | (go_at_call 44; refine HFK.out.mono ?_; rintro e w' ⟨rfl, rfl⟩) | (go_at_call 65; refine HV.out.mono ?_; rintro e w' ⟨rfl, rfl⟩))
          go_ret2
          exact ⟨retNm HX.out, hb⟩
    · have HX := Lib.hid ((nmFend (l := l) (k := k) (by rw [HN.out]; omega) (l.take k)).symm.trans HE.out)
      go_wp2
      go_ret2
      exact ⟨retNm HX.out, hb⟩
set_option maxHeartbeats 1000000 in
theorem iNames2 (l : List ByteArray) (n : Nat) (hn : l.length = n) (hmax : n ≤ maxLen) (hl : ∀ s ∈ l, s.size ≤ maxLen) (b : Nat) (w : World)
    (hfv : ∀ X, Below w.heap.size w X → ∀ k (hk : k < l.length), Calls Tryd.prog 45 #[.int .i64 (k : Int), .pointer (some ⟨b, 0, none⟩)] X fun e X' => e = .returned (.string l[k]) ∧ X = X') :
    Calls Tryd.prog 43 #[.int .i64 (n : Int), .func (.func 45) #[] #[.pointer (some ⟨b, 0, none⟩)]] w fun e w' => e = .returned (.tuple #[.int .i64 (nmF [] l 0).1, .int .i64 (nmF [] l 0).2]) ∧ Below w.heap.size w w' := by
  obtain ⟨r, hr⟩ : ∃ r, nmF [] l 0 = r := ⟨_, rfl⟩
  rw [hr]
  have HR := Lib.hid hr
  have HF := Lib.hid hfv
  have HL := Lib.hid hl
  have HN := Lib.hid hn
  have hM := MapS.made w
  have hmm := @run_makeMap Tryd.prog
  have hbw := belowAlloc w (.map #[] 0)
  obtain ⟨W, hW⟩ : ∃ W, w.alloc (.map #[] 0) = W := ⟨_, rfl⟩
  rw [hW] at hM hbw
  have HW := Lib.hid hW
  unfold maxLen at hmax
  clear hr hfv hl hn hW
  go_enter Tryd.func43, Tryd.ntmps43
  go_wp2_with fail
  rw [HW.out]
  go_loopw [11] (fun i wr => ∃ k : Nat, k ≤ n ∧ i = .int .i64 k ∧ MapS wr w.heap.size (l.take k) ∧ Below w.heap.size w wr ∧ Hid (nmF (l.take k) (l.drop k) k = r)) (fun i _ => n - (intOf i).toNat)
  case atStart => exact ⟨0, Nat.zero_le _, rfl, hM, hbw, HR⟩
  case round =>
    obtain ⟨k, hk, rfl, hm, hb, HE⟩ := hrel
    by_cases hlt : k < n
    · have hkl : k < l.length := by rw [HN.out]; exact hlt
      have HS := Lib.hid (HL.out _ (List.getElem_mem hkl))
      have HFK := Lib.hid (HF.out wr hb k hkl)
      have HV := Lib.hid (iValidName _ HS.out wr)
      have HLK := Lib.hid (hm.look HS.out)
      obtain ⟨s, hs⟩ : ∃ s, l[k] = s := ⟨_, rfl⟩
      cases h1 : nameB l[k]
      · have HX := Lib.hid ((nmFbad hkl h1).symm.trans HE.out)
        rw [h1] at HV
        rw [hs] at HFK HV
        clear h1 hs
        go_wp2_with (first | (go_at_call 45; refine HFK.out.mono ?_; rintro e w' ⟨rfl, rfl⟩) | (go_at_call 65; refine HV.out.mono ?_; rintro e w' ⟨rfl, rfl⟩))
        go_ret2
        exact ⟨retNm HX.out, hb⟩
      · cases h2 : inS l[k] (l.take k)
        · have HX := Lib.hid ((nmFgo hkl h1 h2).symm.trans HE.out)
          rw [h1] at HV
          rw [h2] at HLK
          have htl : (l.take k).length < maxLen := by rw [List.length_take]; unfold maxLen; omega
          obtain ⟨w2, hput, hm2, hg2⟩ := hm.put htl HS.out
          have e2 := List.take_succ_eq_append_getElem hkl
          rw [← e2] at hm2
          have HM2 := Lib.hid hm2
          have hb2 : Below w.heap.size w w2 := hb.grown hg2 hb.size (fun k hk => by injection hk with hk; omega)
          rw [hs] at HFK HV HLK hput
          have hlk := HLK.out
          clear h1 h2 hs e2 hm2 htl
          go_wp2_with (first | (go_at_call 45; refine HFK.out.mono ?_; rintro e w' ⟨rfl, rfl⟩) | (go_at_call 65; refine HV.out.mono ?_; rintro e w' ⟨rfl, rfl⟩))
          go_roundw
          case rel => exact ⟨k + 1, by omega, by go_num, HM2.out, hb2, HX⟩
          case measure => simp [intOf]; omega
        · have HX := Lib.hid ((nmFtwice hkl h1 h2).symm.trans HE.out)
          rw [h1] at HV
          rw [h2] at HLK
          rw [hs] at HFK HV HLK
          have hlk := HLK.out
          clear h1 h2 hs
          go_wp2_with (first | (go_at_call 45; refine HFK.out.mono ?_; rintro e w' ⟨rfl, rfl⟩) | (go_at_call 65; refine HV.out.mono ?_; rintro e w' ⟨rfl, rfl⟩))
          go_ret2
          exact ⟨retNm HX.out, hb⟩
    · have HX := Lib.hid ((nmFend (l := l) (k := k) (by rw [HN.out]; omega) (l.take k)).symm.trans HE.out)
      go_wp2
      go_ret2
      exact ⟨retNm HX.out, hb⟩
set_option maxHeartbeats 1000000 in
theorem iNames3 (l : List ByteArray) (n : Nat) (hn : l.length = n) (hmax : n ≤ maxLen) (hl : ∀ s ∈ l, s.size ≤ maxLen) (b : Nat) (w : World)
    (hfv : ∀ X, Below w.heap.size w X → ∀ k (hk : k < l.length), Calls Tryd.prog 46 #[.int .i64 (k : Int), .pointer (some ⟨b, 0, none⟩)] X fun e X' => e = .returned (.string l[k]) ∧ X = X') :
    Calls Tryd.prog 43 #[.int .i64 (n : Int), .func (.func 46) #[] #[.pointer (some ⟨b, 0, none⟩)]] w fun e w' => e = .returned (.tuple #[.int .i64 (nmF [] l 0).1, .int .i64 (nmF [] l 0).2]) ∧ Below w.heap.size w w' := by
  obtain ⟨r, hr⟩ : ∃ r, nmF [] l 0 = r := ⟨_, rfl⟩
  rw [hr]
  have HR := Lib.hid hr
  have HF := Lib.hid hfv
  have HL := Lib.hid hl
  have HN := Lib.hid hn
  have hM := MapS.made w
  have hmm := @run_makeMap Tryd.prog
  have hbw := belowAlloc w (.map #[] 0)
  obtain ⟨W, hW⟩ : ∃ W, w.alloc (.map #[] 0) = W := ⟨_, rfl⟩
  rw [hW] at hM hbw
  have HW := Lib.hid hW
  unfold maxLen at hmax
  clear hr hfv hl hn hW
  go_enter Tryd.func43, Tryd.ntmps43
  go_wp2_with fail
  rw [HW.out]
  go_loopw [11] (fun i wr => ∃ k : Nat, k ≤ n ∧ i = .int .i64 k ∧ MapS wr w.heap.size (l.take k) ∧ Below w.heap.size w wr ∧ Hid (nmF (l.take k) (l.drop k) k = r)) (fun i _ => n - (intOf i).toNat)
  case atStart => exact ⟨0, Nat.zero_le _, rfl, hM, hbw, HR⟩
  case round =>
    obtain ⟨k, hk, rfl, hm, hb, HE⟩ := hrel
    by_cases hlt : k < n
    · have hkl : k < l.length := by rw [HN.out]; exact hlt
      have HS := Lib.hid (HL.out _ (List.getElem_mem hkl))
      have HFK := Lib.hid (HF.out wr hb k hkl)
      have HV := Lib.hid (iValidName _ HS.out wr)
      have HLK := Lib.hid (hm.look HS.out)
      obtain ⟨s, hs⟩ : ∃ s, l[k] = s := ⟨_, rfl⟩
      cases h1 : nameB l[k]
      · have HX := Lib.hid ((nmFbad hkl h1).symm.trans HE.out)
        rw [h1] at HV
        rw [hs] at HFK HV
        clear h1 hs
        go_wp2_with (first | (go_at_call 46; refine HFK.out.mono ?_; rintro e w' ⟨rfl, rfl⟩) | (go_at_call 65; refine HV.out.mono ?_; rintro e w' ⟨rfl, rfl⟩))
        go_ret2
        exact ⟨retNm HX.out, hb⟩
      · cases h2 : inS l[k] (l.take k)
        · have HX := Lib.hid ((nmFgo hkl h1 h2).symm.trans HE.out)
          rw [h1] at HV
          rw [h2] at HLK
          have htl : (l.take k).length < maxLen := by rw [List.length_take]; unfold maxLen; omega
          obtain ⟨w2, hput, hm2, hg2⟩ := hm.put htl HS.out
          have e2 := List.take_succ_eq_append_getElem hkl
          rw [← e2] at hm2
          have HM2 := Lib.hid hm2
          have hb2 : Below w.heap.size w w2 := hb.grown hg2 hb.size (fun k hk => by injection hk with hk; omega)
          rw [hs] at HFK HV HLK hput
          have hlk := HLK.out
          clear h1 h2 hs e2 hm2 htl
          go_wp2_with (first | (go_at_call 46; refine HFK.out.mono ?_; rintro e w' ⟨rfl, rfl⟩) | (go_at_call 65; refine HV.out.mono ?_; rintro e w' ⟨rfl, rfl⟩))
          go_roundw
          case rel => exact ⟨k + 1, by omega, by go_num, HM2.out, hb2, HX⟩
          case measure => simp [intOf]; omega
        · have HX := Lib.hid ((nmFtwice hkl h1 h2).symm.trans HE.out)
          rw [h1] at HV
          rw [h2] at HLK
          rw [hs] at HFK HV HLK
          have hlk := HLK.out
          clear h1 h2 hs
          go_wp2_with (first | (go_at_call 46; refine HFK.out.mono ?_; rintro e w' ⟨rfl, rfl⟩) | (go_at_call 65; refine HV.out.mono ?_; rintro e w' ⟨rfl, rfl⟩))
          go_ret2
          exact ⟨retNm HX.out, hb⟩
    · have HX := Lib.hid ((nmFend (l := l) (k := k) (by rw [HN.out]; omega) (l.take k)).symm.trans HE.out)
      go_wp2
      go_ret2
      exact ⟨retNm HX.out, hb⟩
set_option maxHeartbeats 1000000 in
theorem iNames4 (l : List ByteArray) (n : Nat) (hn : l.length = n) (hmax : n ≤ maxLen) (hl : ∀ s ∈ l, s.size ≤ maxLen) (b : Nat) (w : World)
    (hfv : ∀ X, Below w.heap.size w X → ∀ k (hk : k < l.length), Calls Tryd.prog 47 #[.int .i64 (k : Int), .pointer (some ⟨b, 0, none⟩)] X fun e X' => e = .returned (.string l[k]) ∧ X = X') :
    Calls Tryd.prog 43 #[.int .i64 (n : Int), .func (.func 47) #[] #[.pointer (some ⟨b, 0, none⟩)]] w fun e w' => e = .returned (.tuple #[.int .i64 (nmF [] l 0).1, .int .i64 (nmF [] l 0).2]) ∧ Below w.heap.size w w' := by
  obtain ⟨r, hr⟩ : ∃ r, nmF [] l 0 = r := ⟨_, rfl⟩
  rw [hr]
  have HR := Lib.hid hr
  have HF := Lib.hid hfv
  have HL := Lib.hid hl
  have HN := Lib.hid hn
  have hM := MapS.made w
  have hmm := @run_makeMap Tryd.prog
  have hbw := belowAlloc w (.map #[] 0)
  obtain ⟨W, hW⟩ : ∃ W, w.alloc (.map #[] 0) = W := ⟨_, rfl⟩
  rw [hW] at hM hbw
  have HW := Lib.hid hW
  unfold maxLen at hmax
  clear hr hfv hl hn hW
  go_enter Tryd.func43, Tryd.ntmps43
  go_wp2_with fail
  rw [HW.out]
  go_loopw [11] (fun i wr => ∃ k : Nat, k ≤ n ∧ i = .int .i64 k ∧ MapS wr w.heap.size (l.take k) ∧ Below w.heap.size w wr ∧ Hid (nmF (l.take k) (l.drop k) k = r)) (fun i _ => n - (intOf i).toNat)
  case atStart => exact ⟨0, Nat.zero_le _, rfl, hM, hbw, HR⟩
  case round =>
    obtain ⟨k, hk, rfl, hm, hb, HE⟩ := hrel
    by_cases hlt : k < n
    · have hkl : k < l.length := by rw [HN.out]; exact hlt
      have HS := Lib.hid (HL.out _ (List.getElem_mem hkl))
      have HFK := Lib.hid (HF.out wr hb k hkl)
      have HV := Lib.hid (iValidName _ HS.out wr)
      have HLK := Lib.hid (hm.look HS.out)
      obtain ⟨s, hs⟩ : ∃ s, l[k] = s := ⟨_, rfl⟩
      cases h1 : nameB l[k]
      · have HX := Lib.hid ((nmFbad hkl h1).symm.trans HE.out)
        rw [h1] at HV
        rw [hs] at HFK HV
        clear h1 hs
        go_wp2_with (first | (go_at_call 47; refine HFK.out.mono ?_; rintro e w' ⟨rfl, rfl⟩) | (go_at_call 65; refine HV.out.mono ?_; rintro e w' ⟨rfl, rfl⟩))
        go_ret2
        exact ⟨retNm HX.out, hb⟩
      · cases h2 : inS l[k] (l.take k)
        · have HX := Lib.hid ((nmFgo hkl h1 h2).symm.trans HE.out)
          rw [h1] at HV
          rw [h2] at HLK
          have htl : (l.take k).length < maxLen := by rw [List.length_take]; unfold maxLen; omega
          obtain ⟨w2, hput, hm2, hg2⟩ := hm.put htl HS.out
          have e2 := List.take_succ_eq_append_getElem hkl
          rw [← e2] at hm2
          have HM2 := Lib.hid hm2
          have hb2 : Below w.heap.size w w2 := hb.grown hg2 hb.size (fun k hk => by injection hk with hk; omega)
          rw [hs] at HFK HV HLK hput
          have hlk := HLK.out
          clear h1 h2 hs e2 hm2 htl
          go_wp2_with (first | (go_at_call 47; refine HFK.out.mono ?_; rintro e w' ⟨rfl, rfl⟩) | (go_at_call 65; refine HV.out.mono ?_; rintro e w' ⟨rfl, rfl⟩))
          go_roundw
          case rel => exact ⟨k + 1, by omega, by go_num, HM2.out, hb2, HX⟩
          case measure => simp [intOf]; omega
        · have HX := Lib.hid ((nmFtwice hkl h1 h2).symm.trans HE.out)
          rw [h1] at HV
          rw [h2] at HLK
          rw [hs] at HFK HV HLK
          have hlk := HLK.out
          clear h1 h2 hs
          go_wp2_with (first | (go_at_call 47; refine HFK.out.mono ?_; rintro e w' ⟨rfl, rfl⟩) | (go_at_call 65; refine HV.out.mono ?_; rintro e w' ⟨rfl, rfl⟩))
          go_ret2
          exact ⟨retNm HX.out, hb⟩
    · have HX := Lib.hid ((nmFend (l := l) (k := k) (by rw [HN.out]; omega) (l.take k)).symm.trans HE.out)
      go_wp2
      go_ret2
      exact ⟨retNm HX.out, hb⟩
end Go.Proofs.YtebpnnakcodjdaaDoor
