/-
  checkNames: the first error of a list of names, whatever function value gives them; the set of the names that have come is a map.
-/
import Derived.Test.YtnckpjcfgeajbaaGreatDoorPgN
import Derived.Maps.OwnSet
import Derived.StringKeys
namespace Go.Proofs.YtnckpjcfgeajbaaGreatDoor
open Go Go.RowKit Go.Maps Go.WideMaps

/-- Each value reads as itself. -/
def RWs (v : Value) : Option (DataW Value × List MemPlace) := some (.held v, [])
theorem keyedStr : Keyed Tryz.prog 9 := string_keyed Tryz.underlying9
theorem zeroB (w : World) : (zeroValue 4).run Tryz.prog w = .ok (.bool false) w := by kernel_rfl
/-- Block b is the set of the strings in D. -/
def MapS (w : World) (b : Nat) (D : List ByteArray) : Prop := ∃ T : DataW Value, w.ownsMap Tryz.prog 9 RWs b D.length T ∧ ∀ s : ByteArray, T.atKey (.string s.data.toList) (.held (.bool false)) = .held (.bool (inS s D))
section
variable {w w' : World} {b : Nat} {D : List ByteArray}
theorem MapS.made (w : World) : MapS (w.alloc (.map #[] 0)) w.heap.size [] := ⟨.map [], World.ownsMap_made _ _ _ _, fun _ => rfl⟩
theorem MapS.lt (h : MapS w b D) : b < w.heap.size := by obtain ⟨T, h, _⟩ := h; exact h.lt
theorem MapS.look (h : MapS w b D) {s : ByteArray} (hs : s.size ≤ maxLen) : (Instr.lookup 233 (.map (some b)) (.string s) false).run Tryz.prog w = .ok (.bool (inS s D)) w := by
  obtain ⟨T, h, hat⟩ := h
  obtain ⟨v, ps, hr, hv⟩ := h.lookup (t := 233) keyedStr Tryz.underlying233 (zeroB w) (zd := .held (.bool false)) (zp := []) rfl (keyOf_string_mk Tryz.underlying9 hs)
  rw [hat] at hv
  simp only [RWs, Option.some.injEq, Prod.mk.injEq, DataW.held.injEq] at hv
  rw [hr, hv.1]
theorem inSApp (s : ByteArray) (D : List ByteArray) (t : ByteArray) : inS s (D ++ [t]) = (inS s D || decide (t.data.toList = s.data.toList)) := by
  unfold inS
  rw [List.any_append, List.any_cons, List.any_nil, Bool.or_false]
theorem MapS.put (h : MapS w b D) (hn : D.length < maxLen) {s : ByteArray} (hs : s.size ≤ maxLen) :
    ∃ w', (Instr.mapUpdate 233 (.map (some b)) (.string s) (.bool true)).run Tryz.prog w = .ok () w' ∧ MapS w' b (D ++ [s]) ∧ w.grownBy w' (some b) := by
  obtain ⟨T, h, hat⟩ := h
  have hk := keyOf_string_mk (P := Tryz.prog) Tryz.underlying9 hs
  have hm : IsMap T := h.isMap
  obtain ⟨w', hr, ho, hg⟩ := h.update (t := 233) keyedStr Tryz.underlying233 hn hk (val := .bool true) (d := .held (.bool true)) (ps := []) rfl
  have hlen : (D ++ [s]).length = D.length + 1 := by simp
  refine ⟨w', hr, ⟨_, by rw [hlen]; exact ho, fun y => ?_⟩, hg⟩
  rw [inSApp]
  by_cases e : s.data.toList = y.data.toList
  · rw [decide_eq_true e, Bool.or_true, ← e]
    exact atKey_put_same hm (keyedStr.key hk) _ _
  · rw [decide_eq_false e, Bool.or_false, atKey_put_other (fun e' => e (Lit.string.inj e').symm), hat]
end
theorem retNm {x y : Int × Int} (h : x = y) : Ending.returned (.tuple #[.int .i64 x.1, .int .i64 x.2]) = .returned (.tuple #[.int .i64 y.1, .int .i64 y.2]) := by rw [h]
set_option maxHeartbeats 1000000 in
theorem iNames1 (l : List ByteArray) (n : Nat) (hn : l.length = n) (hmax : n ≤ maxLen) (hl : ∀ s ∈ l, s.size ≤ maxLen) (b : Nat) (w : World)
    (hfv : ∀ X, Below w.heap.size w X → ∀ k (hk : k < l.length), Calls Tryz.prog 152 #[.int .i64 (k : Int), .pointer (some ⟨b, 0, none⟩)] X fun e X' => e = .returned (.string l[k]) ∧ X = X') :
    Calls Tryz.prog 151 #[.int .i64 (n : Int), .func (.func 152) #[] #[.pointer (some ⟨b, 0, none⟩)]] w fun e w' => e = .returned (.tuple #[.int .i64 (nmF [] l 0).1, .int .i64 (nmF [] l 0).2]) ∧ Below w.heap.size w w' := by
  obtain ⟨r, hr⟩ : ∃ r, nmF [] l 0 = r := ⟨_, rfl⟩
  rw [hr]
  have HR := Lib.hid hr
  have HF := Lib.hid hfv
  have HL := Lib.hid hl
  have HN := Lib.hid hn
  have hM := MapS.made w
  have hmm := @run_makeMap Tryz.prog
  have hbw := belowAlloc w (.map #[] 0)
  obtain ⟨W, hW⟩ : ∃ W, w.alloc (.map #[] 0) = W := ⟨_, rfl⟩
  rw [hW] at hM hbw
  have HW := Lib.hid hW
  unfold maxLen at hmax
  clear hr hfv hl hn hW
  go_enter Tryz.func151, Tryz.ntmps151
  go_wp2_with fail
  rw [HW.out]
  go_loopw [11] (fun i wr => ∃ k : Nat, k ≤ n ∧ i = .int .i64 k ∧ MapS wr w.heap.size (l.take k) ∧ Below w.heap.size w wr ∧ Hid (nmF (l.take k) (l.drop k) k = r)) (fun i _ => n - (intOf i).toNat)
  case atStart => exact ⟨0, Nat.zero_le _, rfl, hM, hbw, HR⟩
  case round =>
    obtain ⟨k, hk, rfl, hm, hb, HE⟩ := hrel
    by_cases hlt : k < n
    · have hkl : k < l.length := by rw [HN.out]; exact hlt
      have HS := Lib.hid (HL.out _ (List.getElem_mem hkl))
      have HFK := Lib.hid (HF.out wr hb k hkl)
      have HV := Lib.hid (iValidName _ HS.out wr)
      have HLK := Lib.hid (hm.look HS.out)
      obtain ⟨s, hs⟩ : ∃ s, l[k] = s := ⟨_, rfl⟩
      cases h1 : nameB l[k]
      · have HX := Lib.hid ((nmFbad hkl h1).symm.trans HE.out)
        rw [h1] at HV
        rw [hs] at HFK HV
        clear h1 hs
        go_wp2_with (first | (go_at_call 152; refine HFK.out.mono ?_; rintro e w' ⟨rfl, rfl⟩) | (go_at_call 195; refine HV.out.mono ?_; rintro e w' ⟨rfl, rfl⟩))
        go_ret2
        exact ⟨retNm HX.out, hb⟩
      · cases h2 : inS l[k] (l.take k)
        · have HX := Lib.hid ((nmFgo hkl h1 h2).symm.trans HE.out)
          rw [h1] at HV
          rw [h2] at HLK
          have htl : (l.take k).length < maxLen := by rw [List.length_take]; unfold maxLen; omega
          obtain ⟨w2, hput, hm2, hg2⟩ := hm.put htl HS.out
          have e2 := List.take_succ_eq_append_getElem hkl
          rw [← e2] at hm2
          have HM2 := Lib.hid hm2
          have hb2 : Below w.heap.size w w2 := hb.grown hg2 hb.size (fun k hk => by injection hk with hk; omega)
          rw [hs] at HFK HV HLK hput
          have hlk := HLK.out
          clear h1 h2 hs e2 hm2 htl
          go_wp2_with (first | (go_at_call 152; refine HFK.out.mono ?_; rintro e w' ⟨rfl, rfl⟩) | (go_at_call 195; refine HV.out.mono ?_; rintro e w' ⟨rfl, rfl⟩))
          go_roundw
          case rel => exact ⟨k + 1, by omega, by go_num, HM2.out, hb2, HX⟩
          case measure => simp [intOf]; omega
        · have HX := Lib.hid ((nmFtwice hkl h1 h2).symm.trans HE.out)
          rw [h1] at HV
          rw [h2] at HLK
          rw [hs] at HFK HV HLK
          have hlk := HLK.out
          clear h1 h2 hs
          go_wp2_with (first | (go_at_call 152; refine HFK.out.mono ?_; rintro e w' ⟨rfl, rfl⟩) | (go_at_call 195; refine HV.out.mono ?_; rintro e w' ⟨rfl, rfl⟩))
          go_ret2
          exact ⟨retNm HX.out, hb⟩
    · have HX := Lib.hid ((nmFend (l := l) (k := k) (by rw [HN.out]; omega) (l.take k)).symm.trans HE.out)
      go_wp2
      go_ret2
      exact ⟨retNm HX.out, hb⟩
set_option maxHeartbeats 1000000 in
theorem iNames2 (l : List ByteArray) (n : Nat) (hn : l.length = n) (hmax : n ≤ maxLen) (hl : ∀ s ∈ l, s.size ≤ maxLen) (b : Nat) (w : World)
    (hfv : ∀ X, Below w.heap.size w X → ∀ k (hk : k < l.length), Calls Tryz.prog 153 #[.int .i64 (k : Int), .pointer (some ⟨b, 0, none⟩)] X fun e X' => e = .returned (.string l[k]) ∧ X = X') :
    Calls Tryz.prog 151 #[.int .i64 (n : Int), .func (.func 153) #[] #[.pointer (some ⟨b, 0, none⟩)]] w fun e w' => e = .returned (.tuple #[.int .i64 (nmF [] l 0).1, .int .i64 (nmF [] l 0).2]) ∧ Below w.heap.size w w' := by
  obtain ⟨r, hr⟩ : ∃ r, nmF [] l 0 = r := ⟨_, rfl⟩
  rw [hr]
  have HR := Lib.hid hr
  have HF := Lib.hid hfv
  have HL := Lib.hid hl
  have HN := Lib.hid hn
  have hM := MapS.made w
  have hmm := @run_makeMap Tryz.prog
  have hbw := belowAlloc w (.map #[] 0)
  obtain ⟨W, hW⟩ : ∃ W, w.alloc (.map #[] 0) = W := ⟨_, rfl⟩
  rw [hW] at hM hbw
  have HW := Lib.hid hW
  unfold maxLen at hmax
  clear hr hfv hl hn hW
  go_enter Tryz.func151, Tryz.ntmps151
  go_wp2_with fail
  rw [HW.out]
  go_loopw [11] (fun i wr => ∃ k : Nat, k ≤ n ∧ i = .int .i64 k ∧ MapS wr w.heap.size (l.take k) ∧ Below w.heap.size w wr ∧ Hid (nmF (l.take k) (l.drop k) k = r)) (fun i _ => n - (intOf i).toNat)
  case atStart => exact ⟨0, Nat.zero_le _, rfl, hM, hbw, HR⟩
  case round =>
    obtain ⟨k, hk, rfl, hm, hb, HE⟩ := hrel
    by_cases hlt : k < n
    · have hkl : k < l.length := by rw [HN.out]; exact hlt
      have HS := Lib.hid (HL.out _ (List.getElem_mem hkl))
      have HFK := Lib.hid (HF.out wr hb k hkl)
      have HV := Lib.hid (iValidName _ HS.out wr)
      have HLK := Lib.hid (hm.look HS.out)
      obtain ⟨s, hs⟩ : ∃ s, l[k] = s := ⟨_, rfl⟩
      cases h1 : nameB l[k]
      · have HX := Lib.hid ((nmFbad hkl h1).symm.trans HE.out)
        rw [h1] at HV
        rw [hs] at HFK HV
        clear h1 hs
        go_wp2_with (first | (go_at_call 153; refine HFK.out.mono ?_; rintro e w' ⟨rfl, rfl⟩) | (go_at_call 195; refine HV.out.mono ?_; rintro e w' ⟨rfl, rfl⟩))
        go_ret2
        exact ⟨retNm HX.out, hb⟩
      · cases h2 : inS l[k] (l.take k)
        · have HX := Lib.hid ((nmFgo hkl h1 h2).symm.trans HE.out)
          rw [h1] at HV
          rw [h2] at HLK
          have htl : (l.take k).length < maxLen := by rw [List.length_take]; unfold maxLen; omega
          obtain ⟨w2, hput, hm2, hg2⟩ := hm.put htl HS.out
          have e2 := List.take_succ_eq_append_getElem hkl
          rw [← e2] at hm2
          have HM2 := Lib.hid hm2
          have hb2 : Below w.heap.size w w2 := hb.grown hg2 hb.size (fun k hk => by injection hk with hk; omega)
          rw [hs] at HFK HV HLK hput
          have hlk := HLK.out
          clear h1 h2 hs e2 hm2 htl
          go_wp2_with (first | (go_at_call 153; refine HFK.out.mono ?_; rintro e w' ⟨rfl, rfl⟩) | (go_at_call 195; refine HV.out.mono ?_; rintro e w' ⟨rfl, rfl⟩))
          go_roundw
          case rel => exact ⟨k + 1, by omega, by go_num, HM2.out, hb2, HX⟩
          case measure => simp [intOf]; omega
        · have HX := Lib.hid ((nmFtwice hkl h1 h2).symm.trans HE.out)
          rw [h1] at HV
          rw [h2] at HLK
          rw [hs] at HFK HV HLK
          have hlk := HLK.out
          clear h1 h2 hs
          go_wp2_with (first | (go_at_call 153; refine HFK.out.mono ?_; rintro e w' ⟨rfl, rfl⟩) | (go_at_call 195; refine HV.out.mono ?_; rintro e w' ⟨rfl, rfl⟩))
          go_ret2
          exact ⟨retNm HX.out, hb⟩
    · have HX := Lib.hid ((nmFend (l := l) (k := k) (by rw [HN.out]; omega) (l.take k)).symm.trans HE.out)
      go_wp2
      go_ret2
      exact ⟨retNm HX.out, hb⟩
set_option maxHeartbeats 1000000 in
theorem iNames3 (l : List ByteArray) (n : Nat) (hn : l.length = n) (hmax : n ≤ maxLen) (hl : ∀ s ∈ l, s.size ≤ maxLen) (b : Nat) (w : World)
    (hfv : ∀ X, Below w.heap.size w X → ∀ k (hk : k < l.length), Calls Tryz.prog 154 #[.int .i64 (k : Int), .pointer (some ⟨b, 0, none⟩)] X fun e X' => e = .returned (.string l[k]) ∧ X = X') :
    Calls Tryz.prog 151 #[.int .i64 (n : Int), .func (.func 154) #[] #[.pointer (some ⟨b, 0, none⟩)]] w fun e w' => e = .returned (.tuple #[.int .i64 (nmF [] l 0).1, .int .i64 (nmF [] l 0).2]) ∧ Below w.heap.size w w' := by
  obtain ⟨r, hr⟩ : ∃ r, nmF [] l 0 = r := ⟨_, rfl⟩
  rw [hr]
  have HR := Lib.hid hr
  have HF := Lib.hid hfv
  have HL := Lib.hid hl
  have HN := Lib.hid hn
  have hM := MapS.made w
  have hmm := @run_makeMap Tryz.prog
  have hbw := belowAlloc w (.map #[] 0)
  obtain ⟨W, hW⟩ : ∃ W, w.alloc (.map #[] 0) = W := ⟨_, rfl⟩
  rw [hW] at hM hbw
  have HW := Lib.hid hW
  unfold maxLen at hmax
  clear hr hfv hl hn hW
  go_enter Tryz.func151, Tryz.ntmps151
  go_wp2_with fail
  rw [HW.out]
  go_loopw [11] (fun i wr => ∃ k : Nat, k ≤ n ∧ i = .int .i64 k ∧ MapS wr w.heap.size (l.take k) ∧ Below w.heap.size w wr ∧ Hid (nmF (l.take k) (l.drop k) k = r)) (fun i _ => n - (intOf i).toNat)
  case atStart => exact ⟨0, Nat.zero_le _, rfl, hM, hbw, HR⟩
  case round =>
    obtain ⟨k, hk, rfl, hm, hb, HE⟩ := hrel
    by_cases hlt : k < n
    · have hkl : k < l.length := by rw [HN.out]; exact hlt
      have HS := Lib.hid (HL.out _ (List.getElem_mem hkl))
      have HFK := Lib.hid (HF.out wr hb k hkl)
      have HV := Lib.hid (iValidName _ HS.out wr)
      have HLK := Lib.hid (hm.look HS.out)
      obtain ⟨s, hs⟩ : ∃ s, l[k] = s := ⟨_, rfl⟩
      cases h1 : nameB l[k]
      · have HX := Lib.hid ((nmFbad hkl h1).symm.trans HE.out)
        rw [h1] at HV
        rw [hs] at HFK HV
        clear h1 hs
        go_wp2_with (first | (go_at_call 154; refine HFK.out.mono ?_; rintro e w' ⟨rfl, rfl⟩) | (go_at_call 195; refine HV.out.mono ?_; rintro e w' ⟨rfl, rfl⟩))
        go_ret2
        exact ⟨retNm HX.out, hb⟩
      · cases h2 : inS l[k] (l.take k)
        · have HX := Lib.hid ((nmFgo hkl h1 h2).symm.trans HE.out)
          rw [h1] at HV
          rw [h2] at HLK
          have htl : (l.take k).length < maxLen := by rw [List.length_take]; unfold maxLen; omega
          obtain ⟨w2, hput, hm2, hg2⟩ := hm.put htl HS.out
          have e2 := List.take_succ_eq_append_getElem hkl
          rw [← e2] at hm2
          have HM2 := Lib.hid hm2
          have hb2 : Below w.heap.size w w2 := hb.grown hg2 hb.size (fun k hk => by injection hk with hk; omega)
          rw [hs] at HFK HV HLK hput
          have hlk := HLK.out
          clear h1 h2 hs e2 hm2 htl
          go_wp2_with (first | (go_at_call 154; refine HFK.out.mono ?_; rintro e w' ⟨rfl, rfl⟩) | (go_at_call 195; refine HV.out.mono ?_; rintro e w' ⟨rfl, rfl⟩))
          go_roundw
          case rel => exact ⟨k + 1, by omega, by go_num, HM2.out, hb2, HX⟩
          case measure => simp [intOf]; omega
        · have HX := Lib.hid ((nmFtwice hkl h1 h2).symm.trans HE.out)
          rw [h1] at HV
          rw [h2] at HLK
          rw [hs] at HFK HV HLK
          have hlk := HLK.out
          clear h1 h2 hs
          go_wp2_with (first | (go_at_call 154; refine HFK.out.mono ?_; rintro e w' ⟨rfl, rfl⟩) | (go_at_call 195; refine HV.out.mono ?_; rintro e w' ⟨rfl, rfl⟩))
          go_ret2
          exact ⟨retNm HX.out, hb⟩
    · have HX := Lib.hid ((nmFend (l := l) (k := k) (by rw [HN.out]; omega) (l.take k)).symm.trans HE.out)
      go_wp2
      go_ret2
      exact ⟨retNm HX.out, hb⟩
set_option maxHeartbeats 1000000 in
theorem iNames4 (l : List ByteArray) (n : Nat) (hn : l.length = n) (hmax : n ≤ maxLen) (hl : ∀ s ∈ l, s.size ≤ maxLen) (b : Nat) (w : World)
    (hfv : ∀ X, Below w.heap.size w X → ∀ k (hk : k < l.length), Calls Tryz.prog 155 #[.int .i64 (k : Int), .pointer (some ⟨b, 0, none⟩)] X fun e X' => e = .returned (.string l[k]) ∧ X = X') :
    Calls Tryz.prog 151 #[.int .i64 (n : Int), .func (.func 155) #[] #[.pointer (some ⟨b, 0, none⟩)]] w fun e w' => e = .returned (.tuple #[.int .i64 (nmF [] l 0).1, .int .i64 (nmF [] l 0).2]) ∧ Below w.heap.size w w' := by
  obtain ⟨r, hr⟩ : ∃ r, nmF [] l 0 = r := ⟨_, rfl⟩
  rw [hr]
  have HR := Lib.hid hr
  have HF := Lib.hid hfv
  have HL := Lib.hid hl
  have HN := Lib.hid hn
  have hM := MapS.made w
  have hmm := @run_makeMap Tryz.prog
  have hbw := belowAlloc w (.map #[] 0)
  obtain ⟨W, hW⟩ : ∃ W, w.alloc (.map #[] 0) = W := ⟨_, rfl⟩
  rw [hW] at hM hbw
  have HW := Lib.hid hW
  unfold maxLen at hmax
  clear hr hfv hl hn hW
  go_enter Tryz.func151, Tryz.ntmps151
  go_wp2_with fail
  rw [HW.out]
  go_loopw [11] (fun i wr => ∃ k : Nat, k ≤ n ∧ i = .int .i64 k ∧ MapS wr w.heap.size (l.take k) ∧ Below w.heap.size w wr ∧ Hid (nmF (l.take k) (l.drop k) k = r)) (fun i _ => n - (intOf i).toNat)
  case atStart => exact ⟨0, Nat.zero_le _, rfl, hM, hbw, HR⟩
  case round =>
    obtain ⟨k, hk, rfl, hm, hb, HE⟩ := hrel
    by_cases hlt : k < n
    · have hkl : k < l.length := by rw [HN.out]; exact hlt
      have HS := Lib.hid (HL.out _ (List.getElem_mem hkl))
      have HFK := Lib.hid (HF.out wr hb k hkl)
      have HV := Lib.hid (iValidName _ HS.out wr)
      have HLK := Lib.hid (hm.look HS.out)
      obtain ⟨s, hs⟩ : ∃ s, l[k] = s := ⟨_, rfl⟩
      cases h1 : nameB l[k]
      · have HX := Lib.hid ((nmFbad hkl h1).symm.trans HE.out)
        rw [h1] at HV
        rw [hs] at HFK HV
        clear h1 hs
        go_wp2_with (first | (go_at_call 155; refine HFK.out.mono ?_; rintro e w' ⟨rfl, rfl⟩) | (go_at_call 195; refine HV.out.mono ?_; rintro e w' ⟨rfl, rfl⟩))
        go_ret2
        exact ⟨retNm HX.out, hb⟩
      · cases h2 : inS l[k] (l.take k)
        · have HX := Lib.hid ((nmFgo hkl h1 h2).symm.trans HE.out)
          rw [h1] at HV
          rw [h2] at HLK
          have htl : (l.take k).length < maxLen := by rw [List.length_take]; unfold maxLen; omega
          obtain ⟨w2, hput, hm2, hg2⟩ := hm.put htl HS.out
          have e2 := List.take_succ_eq_append_getElem hkl
          rw [← e2] at hm2
          have HM2 := Lib.hid hm2
          have hb2 : Below w.heap.size w w2 := hb.grown hg2 hb.size (fun k hk => by injection hk with hk; omega)
          rw [hs] at HFK HV HLK hput
          have hlk := HLK.out
          clear h1 h2 hs e2 hm2 htl
          go_wp2_with (first | (go_at_call 155; refine HFK.out.mono ?_; rintro e w' ⟨rfl, rfl⟩) | (go_at_call 195; refine HV.out.mono ?_; rintro e w' ⟨rfl, rfl⟩))
          go_roundw
          case rel => exact ⟨k + 1, by omega, by go_num, HM2.out, hb2, HX⟩
          case measure => simp [intOf]; omega
        · have HX := Lib.hid ((nmFtwice hkl h1 h2).symm.trans HE.out)
          rw [h1] at HV
          rw [h2] at HLK
          rw [hs] at HFK HV HLK
          have hlk := HLK.out
          clear h1 h2 hs
          go_wp2_with (first | (go_at_call 155; refine HFK.out.mono ?_; rintro e w' ⟨rfl, rfl⟩) | (go_at_call 195; refine HV.out.mono ?_; rintro e w' ⟨rfl, rfl⟩))
          go_ret2
          exact ⟨retNm HX.out, hb⟩
    · have HX := Lib.hid ((nmFend (l := l) (k := k) (by rw [HN.out]; omega) (l.take k)).symm.trans HE.out)
      go_wp2
      go_ret2
      exact ⟨retNm HX.out, hb⟩
end Go.Proofs.YtnckpjcfgeajbaaGreatDoor
