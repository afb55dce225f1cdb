/-
  The contracts of ValidName, the program's and the specification's: whether a string is a name.
-/
import Derived.Test.YtpkagpobobmnfaaGreatDoorPIU
import Derived.WalkSpells
import Derived.Maps.OwnSet
import Derived.StringKeys
namespace Go.Proofs.YtpkagpobobmnfaaGreatDoor
open Go Go.RowKit

theorem nameNo1 {s : ByteArray} (h : s.size < 1 ∨ 16 < s.size) : nameB s = false := by
  unfold nameB
  rcases h with h | h
  · rw [decide_eq_false (show ¬ 1 ≤ s.size by omega)]; rfl
  · rw [decide_eq_false (show ¬ s.size ≤ 16 by omega), Bool.and_false]; rfl
theorem baGet {s : ByteArray} {k : Nat} (hk : k < s.size) : s.data.toList[k]? = some s[k] := by
  rw [List.getElem?_eq_getElem (by simpa using hk)]; rfl
theorem baZero {s : ByteArray} (h0 : 0 < s.size) : s.data.toList.getD 0 0 = s[0] := by
  rw [List.getD_eq_getElem?_getD, baGet h0]; rfl
theorem nameNo2 {s : ByteArray} (h0 : 0 < s.size) (h : letB s[0] = false) : nameB s = false := by
  unfold nameB
  rw [baZero h0, h, Bool.and_false, Bool.false_and]
theorem nameNoK {s : ByteArray} {k : Nat} (hk : k < s.size) (h : tailB s[k] = false) : nameB s = false := by
  unfold nameB
  rw [Bool.and_eq_false_iff]
  refine .inr ?_
  rw [List.all_eq_false]
  exact ⟨s[k], List.mem_of_getElem? (baGet hk), by rw [h]; decide⟩
theorem nameYes {s : ByteArray} (h1 : 1 ≤ s.size) (h2 : s.size ≤ 16) (h3 : letB s[0] = true) (h4 : ∀ k (hk : k < s.size), tailB s[k] = true) : nameB s = true := by
  unfold nameB
  rw [baZero h1, h3, decide_eq_true h1, decide_eq_true h2, Bool.and_true, Bool.true_and, Bool.true_and, List.all_eq_true]
  intro x hx
  obtain ⟨k, hk, rfl⟩ := List.getElem_of_mem hx
  have hk' : k < s.size := by simpa using hk
  exact h4 k hk'
theorem allNext {s : ByteArray} {k : Nat} (HA : ∀ j (hj : j < s.size), j < k → tailB s[j] = true) (hk : k < s.size) (h : tailB s[k] = true) : ∀ j (hj : j < s.size), j < k + 1 → tailB s[j] = true := fun j hj hlt => by
  rcases Nat.lt_or_ge j k with h' | h'
  · exact HA j hj h'
  · have e : j = k := by omega
    subst e
    exact h
set_option maxHeartbeats 1000000 in
theorem iValidName (s : ByteArray) (hs : s.size ≤ maxLen) (w : World) : Calls Tryz.prog 152 #[.string s] w fun e w' => e = .returned (.bool (nameB s)) ∧ w = w' := by
  unfold maxLen at hs
  by_cases h1 : s.size < 1
  · have HN := Lib.hid (nameNo1 (s := s) (.inl h1))
    go_enter Tryz.func152, Tryz.ntmps152
    go_wp2
    go_ret
    exact ⟨retBl HN.out.symm, rfl⟩
  by_cases h2 : 16 < s.size
  · have HN := Lib.hid (nameNo1 (s := s) (.inr h2))
    go_enter Tryz.func152, Tryz.ntmps152
    go_wp2
    go_ret
    exact ⟨retBl HN.out.symm, rfl⟩
  have h1' : 0 < s.size := by omega
  cases h3 : letB s[0]
  · have HN := Lib.hid (nameNo2 h1' h3)
    have HI := Lib.hid (iLetter s[0] w)
    rw [h3] at HI
    clear h3
    go_enter Tryz.func152, Tryz.ntmps152
    go_wp2_with (go_at_call 170; refine HI.out.mono ?_; rintro e w' ⟨rfl, rfl⟩)
    go_ret
    exact ⟨retBl HN.out.symm, rfl⟩
  have HI := Lib.hid (iLetter s[0] w)
  rw [h3] at HI
  have H3 := Lib.hid h3
  clear h3
  go_enter Tryz.func152, Tryz.ntmps152
  go_wp2_with (go_at_call 170; refine HI.out.mono ?_; rintro e w' ⟨rfl, rfl⟩)
  go_loop [21] (fun i => ∃ k : Nat, k ≤ s.size ∧ i = .int .i64 k ∧ Hid (∀ j (hj : j < s.size), j < k → tailB s[j] = true)) (fun i => s.size - (intOf i).toNat)
  case atStart => exact ⟨0, Nat.zero_le _, rfl, Lib.hid fun j _ h => by omega⟩
  case round =>
    obtain ⟨k, hk, rfl, HA⟩ := hrel
    by_cases hlt : k < s.size
    · obtain ⟨c, hc⟩ : ∃ c, s[k] = c := ⟨_, rfl⟩
      have HC := Lib.hid hc
      have HI1 := Lib.hid (iLetter c w)
      have HI2 := Lib.hid (iDigit c w)
      obtain ⟨b1, hb1⟩ : ∃ b, letB c = b := ⟨_, rfl⟩
      obtain ⟨b2, hb2⟩ : ∃ b, digB c = b := ⟨_, rfl⟩
      have HT : Hid (tailB c = (b1 || b2 || decide (c.toNat = 95))) := by unfold tailB; rw [hb1, hb2]; exact Lib.hid rfl
      rw [hb1] at HI1
      rw [hb2] at HI2
      clear hb1 hb2
      cases b1
      · cases b2
        · by_cases h95 : c.toNat = 95
          · have e95 : ((c.toNat : Int) != 95) = false := by simp; omega
            have HT2 := Lib.hid (show tailB s[k] = true by rw [HC.out, HT.out]; simp [h95])
            clear h95
            go_wp2_with (first | (go_at_call 170; refine HI1.out.mono ?_; rintro e w' ⟨rfl, rfl⟩) | (go_at_call 171; refine HI2.out.mono ?_; rintro e w' ⟨rfl, rfl⟩))
            go_round
            case rel => exact ⟨k + 1, by omega, by go_num, Lib.hid (allNext HA.out hlt HT2.out)⟩
            case measure => simp [intOf]; omega
          · have e95 : ((c.toNat : Int) != 95) = true := by simp; omega
            have HN := Lib.hid (nameNoK hlt (show tailB s[k] = false by rw [HC.out, HT.out]; simp [h95]))
            clear h95
            go_wp2_with (first | (go_at_call 170; refine HI1.out.mono ?_; rintro e w' ⟨rfl, rfl⟩) | (go_at_call 171; refine HI2.out.mono ?_; rintro e w' ⟨rfl, rfl⟩))
            go_ret
            exact ⟨retBl HN.out.symm, rfl⟩
        · have HT2 := Lib.hid (show tailB s[k] = true by rw [HC.out, HT.out]; rfl)
          go_wp2_with (first | (go_at_call 170; refine HI1.out.mono ?_; rintro e w' ⟨rfl, rfl⟩) | (go_at_call 171; refine HI2.out.mono ?_; rintro e w' ⟨rfl, rfl⟩))
          go_round
          case rel => exact ⟨k + 1, by omega, by go_num, Lib.hid (allNext HA.out hlt HT2.out)⟩
          case measure => simp [intOf]; omega
      · have HT2 := Lib.hid (show tailB s[k] = true by rw [HC.out, HT.out]; rfl)
        go_wp2_with (first | (go_at_call 170; refine HI1.out.mono ?_; rintro e w' ⟨rfl, rfl⟩) | (go_at_call 171; refine HI2.out.mono ?_; rintro e w' ⟨rfl, rfl⟩))
        go_round
        case rel => exact ⟨k + 1, by omega, by go_num, Lib.hid (allNext HA.out hlt HT2.out)⟩
        case measure => simp [intOf]; omega
    · have HN := Lib.hid (nameYes (s := s) (by omega) (by omega) H3.out fun j hj => HA.out j hj (by omega))
      go_wp2
      go_ret
      exact ⟨retBl HN.out.symm, rfl⟩
end Go.Proofs.YtpkagpobobmnfaaGreatDoor

namespace Go.Proofs.YtpkagpobobmnfaaGreatDoor
open Go Go.RowKit Go.Maps Go.WideMaps

/-- Each value reads as itself. -/
def RWs (v : Value) : Option (DataW Value × List MemPlace) := some (.held v, [])
theorem keyedStr : Keyed Tryz.prog 9 := string_keyed Tryz.underlying9
theorem zeroB (w : World) : (zeroValue 4).run Tryz.prog w = .ok (.bool false) w := by kernel_rfl
/-- Block b is the set of the strings in D. -/
def MapS (w : World) (b : Nat) (D : List ByteArray) : Prop := ∃ T : DataW Value, w.ownsMap Tryz.prog 9 RWs b D.length T ∧ ∀ s : ByteArray, T.atKey (.string s.data.toList) (.held (.bool false)) = .held (.bool (inS s D))
section
variable {w w' : World} {b : Nat} {D : List ByteArray}
theorem MapS.made (w : World) : MapS (w.alloc (.map #[] 0)) w.heap.size [] := ⟨.map [], World.ownsMap_made _ _ _ _, fun _ => rfl⟩
theorem MapS.lt (h : MapS w b D) : b < w.heap.size := by obtain ⟨T, h, _⟩ := h; exact h.lt
theorem MapS.look (h : MapS w b D) {s : ByteArray} (hs : s.size ≤ maxLen) : (Instr.lookup 183 (.map (some b)) (.string s) false).run Tryz.prog w = .ok (.bool (inS s D)) w := by
  obtain ⟨T, h, hat⟩ := h
  obtain ⟨v, ps, hr, hv⟩ := h.lookup (t := 183) keyedStr Tryz.underlying183 (zeroB w) (zd := .held (.bool false)) (zp := []) rfl (keyOf_string_mk Tryz.underlying9 hs)
  rw [hat] at hv
  simp only [RWs, Option.some.injEq, Prod.mk.injEq, DataW.held.injEq] at hv
  rw [hr, hv.1]
theorem inSApp (s : ByteArray) (D : List ByteArray) (t : ByteArray) : inS s (D ++ [t]) = (inS s D || decide (t.data.toList = s.data.toList)) := by
  unfold inS
  rw [List.any_append, List.any_cons, List.any_nil, Bool.or_false]
theorem MapS.put (h : MapS w b D) (hn : D.length < maxLen) {s : ByteArray} (hs : s.size ≤ maxLen) :
    ∃ w', (Instr.mapUpdate 183 (.map (some b)) (.string s) (.bool true)).run Tryz.prog w = .ok () w' ∧ MapS w' b (D ++ [s]) ∧ w.grownBy w' (some b) := by
  obtain ⟨T, h, hat⟩ := h
  have hk := keyOf_string_mk (P := Tryz.prog) Tryz.underlying9 hs
  have hm : IsMap T := h.isMap
  obtain ⟨w', hr, ho, hg⟩ := h.update (t := 183) keyedStr Tryz.underlying183 hn hk (val := .bool true) (d := .held (.bool true)) (ps := []) rfl
  have hlen : (D ++ [s]).length = D.length + 1 := by simp
  refine ⟨w', hr, ⟨_, by rw [hlen]; exact ho, fun y => ?_⟩, hg⟩
  rw [inSApp]
  by_cases e : s.data.toList = y.data.toList
  · rw [decide_eq_true e, Bool.or_true, ← e]
    exact atKey_put_same hm (keyedStr.key hk) _ _
  · rw [decide_eq_false e, Bool.or_false, atKey_put_other (fun e' => e (Lit.string.inj e').symm), hat]
end
theorem retNm {x y : Int × Int} (h : x = y) : Ending.returned (.tuple #[.int .i64 x.1, .int .i64 x.2]) = .returned (.tuple #[.int .i64 y.1, .int .i64 y.2]) := by rw [h]
set_option maxHeartbeats 1000000 in
theorem iNames1 (l : List ByteArray) (n : Nat) (hn : l.length = n) (hmax : n ≤ maxLen) (hl : ∀ s ∈ l, s.size ≤ maxLen) (b : Nat) (w : World)
    (hfv : ∀ X, Below w.heap.size w X → ∀ k (hk : k < l.length), Calls Tryz.prog 122 #[.int .i64 (k : Int), .pointer (some ⟨b, 0, none⟩)] X fun e X' => e = .returned (.string l[k]) ∧ X = X') :
    Calls Tryz.prog 121 #[.int .i64 (n : Int), .func (.func 122) #[] #[.pointer (some ⟨b, 0, none⟩)]] w fun e w' => e = .returned (.tuple #[.int .i64 (nmF [] l 0).1, .int .i64 (nmF [] l 0).2]) ∧ Below w.heap.size w w' := by
  obtain ⟨r, hr⟩ : ∃ r, nmF [] l 0 = r := ⟨_, rfl⟩
  rw [hr]
  have HR := Lib.hid hr
  have HF := Lib.hid hfv
  have HL := Lib.hid hl
  have HN := Lib.hid hn
  have hM := MapS.made w
  have hmm := @run_makeMap Tryz.prog
  have hbw := belowAlloc w (.map #[] 0)
  obtain ⟨W, hW⟩ : ∃ W, w.alloc (.map #[] 0) = W := ⟨_, rfl⟩
  rw [hW] at hM hbw
  have HW := Lib.hid hW
  unfold maxLen at hmax
  clear hr hfv hl hn hW
  go_enter Tryz.func121, Tryz.ntmps121
  go_wp2_with fail
  rw [HW.out]
  go_loopw [11] (fun i wr => ∃ k : Nat, k ≤ n ∧ i = .int .i64 k ∧ MapS wr w.heap.size (l.take k) ∧ Below w.heap.size w wr ∧ Hid (nmF (l.take k) (l.drop k) k = r)) (fun i _ => n - (intOf i).toNat)
  case atStart => exact ⟨0, Nat.zero_le _, rfl, hM, hbw, HR⟩
  case round =>
    obtain ⟨k, hk, rfl, hm, hb, HE⟩ := hrel
    by_cases hlt : k < n
    · have hkl : k < l.length := by rw [HN.out]; exact hlt
      have HS := Lib.hid (HL.out _ (List.getElem_mem hkl))
      have HFK := Lib.hid (HF.out wr hb k hkl)
      have HV := Lib.hid (iValidName _ HS.out wr)
      have HLK := Lib.hid (hm.look HS.out)
      obtain ⟨s, hs⟩ : ∃ s, l[k] = s := ⟨_, rfl⟩
      cases h1 : nameB l[k]
      · have HX := Lib.hid ((nmFbad hkl h1).symm.trans HE.out)
        rw [h1] at HV
        rw [hs] at HFK HV
        clear h1 hs
        go_wp2_with (first | (go_at_call 122; refine HFK.out.mono ?_; rintro e w' ⟨rfl, rfl⟩) | (go_at_call 152; refine HV.out.mono ?_; rintro e w' ⟨rfl, rfl⟩))
        go_ret2
        exact ⟨retNm HX.out, hb⟩
      · cases h2 : inS l[k] (l.take k)
        · have HX := Lib.hid ((nmFgo hkl h1 h2).symm.trans HE.out)
          rw [h1] at HV
          rw [h2] at HLK
          have htl : (l.take k).length < maxLen := by rw [List.length_take]; unfold maxLen; omega
          obtain ⟨w2, hput, hm2, hg2⟩ := hm.put htl HS.out
          have e2 := List.take_succ_eq_append_getElem hkl
          rw [← e2] at hm2
          have HM2 := Lib.hid hm2
          have hb2 : Below w.heap.size w w2 := hb.grown hg2 hb.size (fun k hk => by injection hk with hk; omega)
          rw [hs] at HFK HV HLK hput
          have hlk := HLK.out
          clear h1 h2 hs e2 hm2 htl
          go_wp2_with (first | (go_at_call 122; refine HFK.out.mono ?_; rintro e w' ⟨rfl, rfl⟩) | (go_at_call 152; refine HV.out.mono ?_; rintro e w' ⟨rfl, rfl⟩))
          go_roundw
          case rel => exact ⟨k + 1, by omega, by go_num, HM2.out, hb2, HX⟩
          case measure => simp [intOf]; omega
        · have HX := Lib.hid ((nmFtwice hkl h1 h2).symm.trans HE.out)
          rw [h1] at HV
          rw [h2] at HLK
          rw [hs] at HFK HV HLK
          have hlk := HLK.out
          clear h1 h2 hs
          go_wp2_with (first | (go_at_call 122; refine HFK.out.mono ?_; rintro e w' ⟨rfl, rfl⟩) | (go_at_call 152; refine HV.out.mono ?_; rintro e w' ⟨rfl, rfl⟩))
          go_ret2
          exact ⟨retNm HX.out, hb⟩
    · have HX := Lib.hid ((nmFend (l := l) (k := k) (by rw [HN.out]; omega) (l.take k)).symm.trans HE.out)
      go_wp2
      go_ret2
      exact ⟨retNm HX.out, hb⟩
set_option maxHeartbeats 1000000 in
theorem iNames2 (l : List ByteArray) (n : Nat) (hn : l.length = n) (hmax : n ≤ maxLen) (hl : ∀ s ∈ l, s.size ≤ maxLen) (b : Nat) (w : World)
    (hfv : ∀ X, Below w.heap.size w X → ∀ k (hk : k < l.length), Calls Tryz.prog 123 #[.int .i64 (k : Int), .pointer (some ⟨b, 0, none⟩)] X fun e X' => e = .returned (.string l[k]) ∧ X = X') :
    Calls Tryz.prog 121 #[.int .i64 (n : Int), .func (.func 123) #[] #[.pointer (some ⟨b, 0, none⟩)]] w fun e w' => e = .returned (.tuple #[.int .i64 (nmF [] l 0).1, .int .i64 (nmF [] l 0).2]) ∧ Below w.heap.size w w' := by
  obtain ⟨r, hr⟩ : ∃ r, nmF [] l 0 = r := ⟨_, rfl⟩
  rw [hr]
  have HR := Lib.hid hr
  have HF := Lib.hid hfv
  have HL := Lib.hid hl
  have HN := Lib.hid hn
  have hM := MapS.made w
  have hmm := @run_makeMap Tryz.prog
  have hbw := belowAlloc w (.map #[] 0)
  obtain ⟨W, hW⟩ : ∃ W, w.alloc (.map #[] 0) = W := ⟨_, rfl⟩
  rw [hW] at hM hbw
  have HW := Lib.hid hW
  unfold maxLen at hmax
  clear hr hfv hl hn hW
  go_enter Tryz.func121, Tryz.ntmps121
  go_wp2_with fail
  rw [HW.out]
  go_loopw [11] (fun i wr => ∃ k : Nat, k ≤ n ∧ i = .int .i64 k ∧ MapS wr w.heap.size (l.take k) ∧ Below w.heap.size w wr ∧ Hid (nmF (l.take k) (l.drop k) k = r)) (fun i _ => n - (intOf i).toNat)
  case atStart => exact ⟨0, Nat.zero_le _, rfl, hM, hbw, HR⟩
  case round =>
    obtain ⟨k, hk, rfl, hm, hb, HE⟩ := hrel
    by_cases hlt : k < n
    · have hkl : k < l.length := by rw [HN.out]; exact hlt
      have HS := Lib.hid (HL.out _ (List.getElem_mem hkl))
      have HFK := Lib.hid (HF.out wr hb k hkl)
      have HV := Lib.hid (iValidName _ HS.out wr)
      have HLK := Lib.hid (hm.look HS.out)
      obtain ⟨s, hs⟩ : ∃ s, l[k] = s := ⟨_, rfl⟩
      cases h1 : nameB l[k]
      · have HX := Lib.hid ((nmFbad hkl h1).symm.trans HE.out)
        rw [h1] at HV
        rw [hs] at HFK HV
        clear h1 hs
        go_wp2_with (first | (go_at_call 123; refine HFK.out.mono ?_; rintro e w' ⟨rfl, rfl⟩) | (go_at_call 152; refine HV.out.mono ?_; rintro e w' ⟨rfl, rfl⟩))
        go_ret2
        exact ⟨retNm HX.out, hb⟩
      · cases h2 : inS l[k] (l.take k)
        · have HX := Lib.hid ((nmFgo hkl h1 h2).symm.trans HE.out)
          rw [h1] at HV
          rw [h2] at HLK
          have htl : (l.take k).length < maxLen := by rw [List.length_take]; unfold maxLen; omega
          obtain ⟨w2, hput, hm2, hg2⟩ := hm.put htl HS.out
          have e2 := List.take_succ_eq_append_getElem hkl
          rw [← e2] at hm2
          have HM2 := Lib.hid hm2
          have hb2 : Below w.heap.size w w2 := hb.grown hg2 hb.size (fun k hk => by injection hk with hk; omega)
          rw [hs] at HFK HV HLK hput
          have hlk := HLK.out
          clear h1 h2 hs e2 hm2 htl
          go_wp2_with (first | (go_at_call 123; refine HFK.out.mono ?_; rintro e w' ⟨rfl, rfl⟩) | (go_at_call 152; refine HV.out.mono ?_; rintro e w' ⟨rfl, rfl⟩))
          go_roundw
          case rel => exact ⟨k + 1, by omega, by go_num, HM2.out, hb2, HX⟩
          case measure => simp [intOf]; omega
        · have HX := Lib.hid ((nmFtwice hkl h1 h2).symm.trans HE.out)
          rw [h1] at HV
          rw [h2] at HLK
          rw [hs] at HFK HV HLK
          have hlk := HLK.out
          clear h1 h2 hs
          go_wp2_with (first | (go_at_call 123; refine HFK.out.mono ?_; rintro e w' ⟨rfl, rfl⟩) | (go_at_call 152; refine HV.out.mono ?_; rintro e w' ⟨rfl, rfl⟩))
          go_ret2
          exact ⟨retNm HX.out, hb⟩
    · have HX := Lib.hid ((nmFend (l := l) (k := k) (by rw [HN.out]; omega) (l.take k)).symm.trans HE.out)
      go_wp2
      go_ret2
      exact ⟨retNm HX.out, hb⟩
set_option maxHeartbeats 1000000 in
theorem iNames3 (l : List ByteArray) (n : Nat) (hn : l.length = n) (hmax : n ≤ maxLen) (hl : ∀ s ∈ l, s.size ≤ maxLen) (b : Nat) (w : World)
    (hfv : ∀ X, Below w.heap.size w X → ∀ k (hk : k < l.length), Calls Tryz.prog 124 #[.int .i64 (k : Int), .pointer (some ⟨b, 0, none⟩)] X fun e X' => e = .returned (.string l[k]) ∧ X = X') :
    Calls Tryz.prog 121 #[.int .i64 (n : Int), .func (.func 124) #[] #[.pointer (some ⟨b, 0, none⟩)]] w fun e w' => e = .returned (.tuple #[.int .i64 (nmF [] l 0).1, .int .i64 (nmF [] l 0).2]) ∧ Below w.heap.size w w' := by
  obtain ⟨r, hr⟩ : ∃ r, nmF [] l 0 = r := ⟨_, rfl⟩
  rw [hr]
  have HR := Lib.hid hr
  have HF := Lib.hid hfv
  have HL := Lib.hid hl
  have HN := Lib.hid hn
  have hM := MapS.made w
  have hmm := @run_makeMap Tryz.prog
  have hbw := belowAlloc w (.map #[] 0)
  obtain ⟨W, hW⟩ : ∃ W, w.alloc (.map #[] 0) = W := ⟨_, rfl⟩
  rw [hW] at hM hbw
  have HW := Lib.hid hW
  unfold maxLen at hmax
  clear hr hfv hl hn hW
  go_enter Tryz.func121, Tryz.ntmps121
  go_wp2_with fail
  rw [HW.out]
  go_loopw [11] (fun i wr => ∃ k : Nat, k ≤ n ∧ i = .int .i64 k ∧ MapS wr w.heap.size (l.take k) ∧ Below w.heap.size w wr ∧ Hid (nmF (l.take k) (l.drop k) k = r)) (fun i _ => n - (intOf i).toNat)
  case atStart => exact ⟨0, Nat.zero_le _, rfl, hM, hbw, HR⟩
  case round =>
    obtain ⟨k, hk, rfl, hm, hb, HE⟩ := hrel
    by_cases hlt : k < n
    · have hkl : k < l.length := by rw [HN.out]; exact hlt
      have HS := Lib.hid (HL.out _ (List.getElem_mem hkl))
      have HFK := Lib.hid (HF.out wr hb k hkl)
      have HV := Lib.hid (iValidName _ HS.out wr)
      have HLK := Lib.hid (hm.look HS.out)
      obtain ⟨s, hs⟩ : ∃ s, l[k] = s := ⟨_, rfl⟩
      cases h1 : nameB l[k]
      · have HX := Lib.hid ((nmFbad hkl h1).symm.trans HE.out)
        rw [h1] at HV
        rw [hs] at HFK HV
        clear h1 hs
        go_wp2_with (first | (go_at_call 124; refine HFK.out.mono ?_; rintro e w' ⟨rfl, rfl⟩) | (go_at_call 152; refine HV.out.mono ?_; rintro e w' ⟨rfl, rfl⟩))
        go_ret2
        exact ⟨retNm HX.out, hb⟩
      · cases h2 : inS l[k] (l.take k)
        · have HX := Lib.hid ((nmFgo hkl h1 h2).symm.trans HE.out)
          rw [h1] at HV
          rw [h2] at HLK
          have htl : (l.take k).length < maxLen := by rw [List.length_take]; unfold maxLen; omega
          obtain ⟨w2, hput, hm2, hg2⟩ := hm.put htl HS.out
          have e2 := List.take_succ_eq_append_getElem hkl
          rw [← e2] at hm2
          have HM2 := Lib.hid hm2
          have hb2 : Below w.heap.size w w2 := hb.grown hg2 hb.size (fun k hk => by injection hk with hk; omega)
          rw [hs] at HFK HV HLK hput
          have hlk := HLK.out
          clear h1 h2 hs e2 hm2 htl
          go_wp2_with (first | (go_at_call 124; refine HFK.out.mono ?_; rintro e w' ⟨rfl, rfl⟩) | (go_at_call 152; refine HV.out.mono ?_; rintro e w' ⟨rfl, rfl⟩))
          go_roundw
          case rel => exact ⟨k + 1, by omega, by go_num, HM2.out, hb2, HX⟩
          case measure => simp [intOf]; omega
        · have HX := Lib.hid ((nmFtwice hkl h1 h2).symm.trans HE.out)
          rw [h1] at HV
          rw [h2] at HLK
          rw [hs] at HFK HV HLK
          have hlk := HLK.out
          clear h1 h2 hs
          go_wp2_with (first | (go_at_call 124; refine HFK.out.mono ?_; rintro e w' ⟨rfl, rfl⟩) | (go_at_call 152; refine HV.out.mono ?_; rintro e w' ⟨rfl, rfl⟩))
          go_ret2
          exact ⟨retNm HX.out, hb⟩
    · have HX := Lib.hid ((nmFend (l := l) (k := k) (by rw [HN.out]; omega) (l.take k)).symm.trans HE.out)
      go_wp2
      go_ret2
      exact ⟨retNm HX.out, hb⟩
set_option maxHeartbeats 1000000 in
theorem iNames4 (l : List ByteArray) (n : Nat) (hn : l.length = n) (hmax : n ≤ maxLen) (hl : ∀ s ∈ l, s.size ≤ maxLen) (b : Nat) (w : World)
    (hfv : ∀ X, Below w.heap.size w X → ∀ k (hk : k < l.length), Calls Tryz.prog 125 #[.int .i64 (k : Int), .pointer (some ⟨b, 0, none⟩)] X fun e X' => e = .returned (.string l[k]) ∧ X = X') :
    Calls Tryz.prog 121 #[.int .i64 (n : Int), .func (.func 125) #[] #[.pointer (some ⟨b, 0, none⟩)]] w fun e w' => e = .returned (.tuple #[.int .i64 (nmF [] l 0).1, .int .i64 (nmF [] l 0).2]) ∧ Below w.heap.size w w' := by
  obtain ⟨r, hr⟩ : ∃ r, nmF [] l 0 = r := ⟨_, rfl⟩
  rw [hr]
  have HR := Lib.hid hr
  have HF := Lib.hid hfv
  have HL := Lib.hid hl
  have HN := Lib.hid hn
  have hM := MapS.made w
  have hmm := @run_makeMap Tryz.prog
  have hbw := belowAlloc w (.map #[] 0)
  obtain ⟨W, hW⟩ : ∃ W, w.alloc (.map #[] 0) = W := ⟨_, rfl⟩
  rw [hW] at hM hbw
  have HW := Lib.hid hW
  unfold maxLen at hmax
  clear hr hfv hl hn hW
  go_enter Tryz.func121, Tryz.ntmps121
  go_wp2_with fail
  rw [HW.out]
  go_loopw [11] (fun i wr => ∃ k : Nat, k ≤ n ∧ i = .int .i64 k ∧ MapS wr w.heap.size (l.take k) ∧ Below w.heap.size w wr ∧ Hid (nmF (l.take k) (l.drop k) k = r)) (fun i _ => n - (intOf i).toNat)
  case atStart => exact ⟨0, Nat.zero_le _, rfl, hM, hbw, HR⟩
  case round =>
    obtain ⟨k, hk, rfl, hm, hb, HE⟩ := hrel
    by_cases hlt : k < n
    · have hkl : k < l.length := by rw [HN.out]; exact hlt
      have HS := Lib.hid (HL.out _ (List.getElem_mem hkl))
      have HFK := Lib.hid (HF.out wr hb k hkl)
      have HV := Lib.hid (iValidName _ HS.out wr)
      have HLK := Lib.hid (hm.look HS.out)
      obtain ⟨s, hs⟩ : ∃ s, l[k] = s := ⟨_, rfl⟩
      cases h1 : nameB l[k]
      · have HX := Lib.hid ((nmFbad hkl h1).symm.trans HE.out)
        rw [h1] at HV
        rw [hs] at HFK HV
        clear h1 hs
        go_wp2_with (first | (go_at_call 125; refine HFK.out.mono ?_; rintro e w' ⟨rfl, rfl⟩) | (go_at_call 152; refine HV.out.mono ?_; rintro e w' ⟨rfl, rfl⟩))
        go_ret2
        exact ⟨retNm HX.out, hb⟩
      · cases h2 : inS l[k] (l.take k)
        · have HX := Lib.hid ((nmFgo hkl h1 h2).symm.trans HE.out)
          rw [h1] at HV
          rw [h2] at HLK
          have htl : (l.take k).length < maxLen := by rw [List.length_take]; unfold maxLen; omega
          obtain ⟨w2, hput, hm2, hg2⟩ := hm.put htl HS.out
          have e2 := List.take_succ_eq_append_getElem hkl
          rw [← e2] at hm2
          have HM2 := Lib.hid hm2
          have hb2 : Below w.heap.size w w2 := hb.grown hg2 hb.size (fun k hk => by injection hk with hk; omega)
          rw [hs] at HFK HV HLK hput
          have hlk := HLK.out
          clear h1 h2 hs e2 hm2 htl
          go_wp2_with (first | (go_at_call 125; refine HFK.out.mono ?_; rintro e w' ⟨rfl, rfl⟩) | (go_at_call 152; refine HV.out.mono ?_; rintro e w' ⟨rfl, rfl⟩))
          go_roundw
          case rel => exact ⟨k + 1, by omega, by go_num, HM2.out, hb2, HX⟩
          case measure => simp [intOf]; omega
        · have HX := Lib.hid ((nmFtwice hkl h1 h2).symm.trans HE.out)
          rw [h1] at HV
          rw [h2] at HLK
          rw [hs] at HFK HV HLK
          have hlk := HLK.out
          clear h1 h2 hs
          go_wp2_with (first | (go_at_call 125; refine HFK.out.mono ?_; rintro e w' ⟨rfl, rfl⟩) | (go_at_call 152; refine HV.out.mono ?_; rintro e w' ⟨rfl, rfl⟩))
          go_ret2
          exact ⟨retNm HX.out, hb⟩
    · have HX := Lib.hid ((nmFend (l := l) (k := k) (by rw [HN.out]; omega) (l.take k)).symm.trans HE.out)
      go_wp2
      go_ret2
      exact ⟨retNm HX.out, hb⟩
end Go.Proofs.YtpkagpobobmnfaaGreatDoor

namespace Go.Proofs.YtpkagpobobmnfaaGreatDoor
open Go Go.RowKit

theorem nameAt1 {b : Nat} {a : PgA} {p : Prg} {w : World} (hP : PgW w a p) (hB : PBox w b a) : ∀ X, Below w.heap.size w X → ∀ k (hk : k < (p.vars.map (·.1)).length), Calls Tryz.prog 122 #[.int .i64 (k : Int), .pointer (some ⟨b, 0, none⟩)] X fun e X' => e = .returned (.string (p.vars.map (·.1))[k]) ∧ X = X' := by
  intro X hX k hk
  have hP := hP.below hX
  have hB := hB.below hX
  have hk' : k < p.vars.length := by simpa using hk
  obtain ⟨c0, _⟩ := hB.facts
  obtain ⟨q, off, hA, _, h1, _⟩ := hP.vars.one hk'
  have hl := hP.l1
  have hm := hP.vars.max
  have hle := hP.vars.le
  rw [List.getElem_map]
  obtain ⟨s, hs⟩ : ∃ s, p.vars[k].1 = s := ⟨_, rfl⟩
  rw [hs] at h1 ⊢
  rw [hA] at c0
  rw [hl] at hle hk'
  unfold maxLen at hm
  generalize a.n1 = n1 at *
  generalize a.c1 = cp at *
  clear hs hP hB hk hA hl hX
  have hk0 : (0 : Int) ≤ k := by omega
  have hk1 : (k : Int) < n1 := by omega
  go_enter Tryz.func122, Tryz.ntmps122
  go_wp2
  go_ret
  exact ⟨rfl, rfl⟩
theorem nameAt4 {b : Nat} {a : PgA} {p : Prg} {w : World} (hP : PgW w a p) (hB : PBox w b a) : ∀ X, Below w.heap.size w X → ∀ k (hk : k < (p.funcs.map (·.1)).length), Calls Tryz.prog 125 #[.int .i64 (k : Int), .pointer (some ⟨b, 0, none⟩)] X fun e X' => e = .returned (.string (p.funcs.map (·.1))[k]) ∧ X = X' := by
  intro X hX k hk
  have hP := hP.below hX
  have hB := hB.below hX
  have hk' : k < p.funcs.length := by simpa using hk
  obtain ⟨_, _, _, c0, _⟩ := hB.facts
  obtain ⟨q, off, hA, _, h1, _⟩ := hP.funcs.one hk'
  have hl := hP.l4
  have hm := hP.funcs.max
  have hle := hP.funcs.le
  rw [List.getElem_map]
  obtain ⟨s, hs⟩ : ∃ s, p.funcs[k].1 = s := ⟨_, rfl⟩
  rw [hs] at h1 ⊢
  rw [hA] at c0
  rw [hl] at hle hk'
  unfold maxLen at hm
  generalize a.n4 = n1 at *
  generalize a.c4 = cp at *
  clear hs hP hB hk hA hl hX
  have hk0 : (0 : Int) ≤ k := by omega
  have hk1 : (k : Int) < n1 := by omega
  go_enter Tryz.func125, Tryz.ntmps125
  go_wp2
  go_ret
  exact ⟨rfl, rfl⟩
theorem nameAt2 {b : Nat} {a : PgA} {p : Prg} {w : World} (hP : PgW w a p) (hB : PBox w b a) : ∀ X, Below w.heap.size w X → ∀ k (hk : k < p.muts.length), Calls Tryz.prog 123 #[.int .i64 (k : Int), .pointer (some ⟨b, 0, none⟩)] X fun e X' => e = .returned (.string p.muts[k]) ∧ X = X' := by
  intro X hX k hk
  have hP := hP.below hX
  have hB := hB.below hX
  obtain ⟨_, c0, _⟩ := hB.facts
  obtain ⟨q, off, hA, _, h1⟩ := hP.muts.one hk
  have hl := hP.l2
  have hm := hP.muts.max
  have hle := hP.muts.le
  obtain ⟨s, hs⟩ : ∃ s, p.muts[k] = s := ⟨_, rfl⟩
  unfold ES at h1
  rw [hs, Nat.mul_one] at h1
  rw [hs]
  rw [hA] at c0
  have hk' : k < a.n2 := by omega
  rw [hl] at hle
  unfold maxLen at hm
  generalize a.n2 = n1 at *
  generalize a.c2 = cp at *
  clear hs hP hB hk hA hl hX
  have hk0 : (0 : Int) ≤ k := by omega
  have hk1 : (k : Int) < n1 := by omega
  go_enter Tryz.func123, Tryz.ntmps123
  go_wp2
  go_ret
  exact ⟨rfl, rfl⟩
theorem nameAt3 {b : Nat} {a : PgA} {p : Prg} {w : World} (hP : PgW w a p) (hB : PBox w b a) : ∀ X, Below w.heap.size w X → ∀ k (hk : k < p.conds.length), Calls Tryz.prog 124 #[.int .i64 (k : Int), .pointer (some ⟨b, 0, none⟩)] X fun e X' => e = .returned (.string p.conds[k]) ∧ X = X' := by
  intro X hX k hk
  have hP := hP.below hX
  have hB := hB.below hX
  obtain ⟨_, _, c0, _⟩ := hB.facts
  obtain ⟨q, off, hA, _, h1⟩ := hP.conds.one hk
  have hl := hP.l3
  have hm := hP.conds.max
  have hle := hP.conds.le
  obtain ⟨s, hs⟩ : ∃ s, p.conds[k] = s := ⟨_, rfl⟩
  unfold ES at h1
  rw [hs, Nat.mul_one] at h1
  rw [hs]
  rw [hA] at c0
  have hk' : k < a.n3 := by omega
  rw [hl] at hle
  unfold maxLen at hm
  generalize a.n3 = n1 at *
  generalize a.c3 = cp at *
  clear hs hP hB hk hA hl hX
  have hk0 : (0 : Int) ≤ k := by omega
  have hk1 : (k : Int) < n1 := by omega
  go_enter Tryz.func124, Tryz.ntmps124
  go_wp2
  go_ret
  exact ⟨rfl, rfl⟩
/-- The limits. -/
theorem iLimits {b : Nat} {a : PgA} {p : Prg} (w : World) (hP : PgW w a p) (hB : PBox w b a) : Calls Tryz.prog 126 #[.pointer (some ⟨b, 0, none⟩)] w fun e w' => e = err3 (if p.many then (4, -1, -1) else (0, -1, -1)) ∧ w = w' := by
  obtain ⟨c0, c1, c2, c3, _⟩ := hB.facts
  have HE : Hid (p.many = (decide (8 < a.n1) || decide (4 < a.n2) || decide (4 < a.n3) || decide (8 < a.n4))) := by unfold Prg.many; rw [hP.l1, hP.l2, hP.l3, hP.l4]; exact Lib.hid rfl
  have m1 := hP.vars.max
  have m2 := hP.muts.max
  have m3 := hP.conds.max
  have m4 := hP.funcs.max
  have e1 := hP.vars.le
  have e2 := hP.muts.le
  have e3 := hP.conds.le
  have e4 := hP.funcs.le
  rw [hP.l1] at e1
  rw [hP.l2] at e2
  rw [hP.l3] at e3
  rw [hP.l4] at e4
  unfold maxLen at m1 m2 m3 m4
  generalize a.n1 = n1 at *
  generalize a.n2 = n2 at *
  generalize a.n3 = n3 at *
  generalize a.n4 = n4 at *
  generalize p.many = r at HE ⊢
  clear hP hB
  by_cases h1 : 8 < n1
  · have hr : r = true := by rw [HE.out]; simp [h1]
    subst hr
    clear HE
    go_enter Tryz.func126, Tryz.ntmps126
    go_wp2
    go_ret3
    exact ⟨by first | rfl | simp [err3], rfl⟩
  by_cases h2 : 4 < n2
  · have hr : r = true := by rw [HE.out]; simp [h2]
    subst hr
    clear HE
    go_enter Tryz.func126, Tryz.ntmps126
    go_wp2
    go_ret3
    exact ⟨by first | rfl | simp [err3], rfl⟩
  by_cases h3 : 4 < n3
  · have hr : r = true := by rw [HE.out]; simp [h3]
    subst hr
    clear HE
    go_enter Tryz.func126, Tryz.ntmps126
    go_wp2
    go_ret3
    exact ⟨by first | rfl | simp [err3], rfl⟩
  by_cases h4 : 8 < n4
  · have hr : r = true := by rw [HE.out]; simp [h4]
    subst hr
    clear HE
    go_enter Tryz.func126, Tryz.ntmps126
    go_wp2
    go_ret3
    exact ⟨by first | rfl | simp [err3], rfl⟩
  have hr : r = false := by rw [HE.out]; simp [h1, h2, h3, h4]
  subst hr
  clear HE
  go_enter Tryz.func126, Tryz.ntmps126
  go_wp2
  go_ret3
  exact ⟨by first | rfl | simp [err3], rfl⟩
end Go.Proofs.YtpkagpobobmnfaaGreatDoor
