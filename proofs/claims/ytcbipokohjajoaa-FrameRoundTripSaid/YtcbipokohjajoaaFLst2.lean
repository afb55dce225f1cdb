/-
  The contracts of AppendInts and of the reference's Int, Ints, AppendInts.
-/
import Derived.Test.YtcbipokohjajoaaFLst
namespace Go.Proofs.Ytcbipokohjajoaa
open Go.RowKit

theorem encSLen (n : Int) : (encS n).length ≤ 9 := by
  unfold encS; split
  · exact encLen _ 9 (by rename_i h; have := zigFit h; omega) (by omega)
  · simp
theorem flatMapNext {L : List Int} {k : Nat} (h : k < L.length) : (L.take (k + 1)).flatMap encS = (L.take k).flatMap encS ++ encS L[k] := by
  rw [List.take_succ_eq_append_getElem h, List.flatMap_append]; simp
theorem flatMapLen : ∀ (L : List Int), (L.flatMap encS).length ≤ 9 * L.length
  | [] => by simp
  | a :: L => by
    simp only [List.flatMap_cons, List.length_append, List.length_cons]
    have := encSLen a; have := flatMapLen L; omega
theorem allNext {L : List Int} {k : Nat} (h : k < L.length) (h1 : (L.take k).all fitS = true) (h2 : fitS L[k] = true) : (L.take (k + 1)).all fitS = true := by
  rw [List.take_succ_eq_append_getElem h, List.all_append, h1]; simp [h2]
theorem appIsNo {l : List UInt8} {L : List Int} {k : Nat} (h : k < L.length) (h2 : fitS L[k] = false) : appIs l L = l := by
  unfold appIs
  rw [if_neg]
  intro ha
  rw [List.all_eq_true] at ha
  have := ha L[k] (List.getElem_mem h)
  rw [h2] at this; cases this
theorem appIsOk {l : List UInt8} {L : List Int} (h : L.all fitS = true) : appIs l L = l ++ encL L.length ++ L.flatMap encS := by unfold appIs; rw [if_pos h]
theorem makeB (N : Nat) (hN : N ≤ 1000000) (w : World) : (Instr.makeSlice 22 (.int .i64 0) (.int .i64 N)).run Try.prog w = .ok (.slice (some ⟨w.heap.size, 0, none⟩) 0 N) (w.alloc (.cells (madeCells #[.int .u8 0] N) 5)) := by
  obtain ⟨i, hi, hzz⟩ := Option.map_eq_some_iff.1 infoB
  simp only [Prod.mk.injEq] at hzz
  obtain ⟨hz, hs, hb⟩ := hzz
  have h := run_make (P := Try.prog) w 22 5 i (.int .u8 0) Try.underlying22 hi hz .i64 .i64 0 N (by omega) (by omega) (by rw [hb]; omega) (by omega)
  rw [hs] at h
  simpa [Value.cells] using h
theorem OwnB.make (w : World) (N : Nat) (hN : N ≤ 1000000) (base : Nat) (hb : base ≤ w.heap.size) : OwnB (w.alloc (.cells (madeCells #[.int .u8 0] N) 5)) base (.slice (some ⟨w.heap.size, 0, none⟩) 0 N) [] :=
  World.ownsRow_made (e := 5) w (base := base) (size := 1) (madeCells #[.int .u8 0] N) N hb (by unfold maxLen; omega) (by rw [← Array.length_toList, toList_madeCells_one]; simp)
/-- encode of an integer in range is not nil. -/
theorem iEncSome (n : Nat) (h : n ≤ 4611686018427387904) (w : World) : Calls Try.prog 38 #[.int .i64 n] w fun e w' => ∃ (ad : Addr) (q c : Nat), e = .returned (.slice (some ad) q c) ∧ Hid ((encL n).length = q) ∧ Rb w' (some ad) c (encL n) ∧ Below w.heap.size w w' := by
  refine (iEnc n h w).mono ?_
  rintro e w' ⟨A, q, c, rfl, hq, ho, hb⟩
  obtain ⟨ad, rfl, _, _⟩ := ho.rb.1.one (k := 0) (encPos n)
  exact ⟨ad, q, c, rfl, hq, ho.rb.1, hb⟩
set_option maxRecDepth 100000 in
set_option maxHeartbeats 1000000 in
theorem iAppIs (l : List UInt8) (L : List Int) (n m : Nat) (hn : l.length = n) (hm : L.length = m) (hs : n ≤ 100000) (hs2 : m ≤ 10000) (hL : ∀ x ∈ L, -9223372036854775808 ≤ x ∧ x ≤ 9223372036854775807) (A B : Option Addr) (c d : Nat) (w : World) (ha : Rb w A c l) (hb : Rd w B d L) :
    Calls Try.prog 25 #[.slice A n c, .slice B m d] w (GivesO (appIs l L) w) := by
  have hle := hb.le
  have hmax := hb.max
  unfold maxLen at hmax
  rw [hm] at hle
  have HA := Lib.hid ha; clear ha
  have HN := Lib.hid hn; clear hn
  have HB := Lib.hid hb; clear hb
  have HM := Lib.hid hm; clear hm
  have HL := Lib.hid hL; clear hL
  have hmk := makeB m (by omega) w
  have hnil : ∀ (w : World) (a : Option Addr) (n c : Nat), (binOp .eql 22 (.slice a n c) (.slice none 0 0)).run Try.prog w = .ok (.bool a.isNone) w := fun w a n c => Lib.run_eql_slice_nil w _ _ a n c 0 0 Try.underlying22
  have HO := Lib.hid (OwnB.make w m (by omega) w.heap.size (Nat.le_refl _))
  obtain ⟨W, hW⟩ : ∃ W, w.alloc (.cells (madeCells #[.int .u8 0] m) 5) = W := ⟨_, rfl⟩
  have hbW : Below w.heap.size w W := by rw [← hW]; exact belowAlloc w _
  rw [hW] at hmk HO
  clear hW
  go_enter Try.func25, Try.ntmps25
  go_wp2
  go_loopw [5, 14] (fun vo vi wr => ∃ (k : Nat), vi = .int .i64 k ∧ k ≤ m ∧ Hid ((L.take k).all fitS = true) ∧ OwnB wr w.heap.size vo ((L.take k).flatMap encS) ∧ Below w.heap.size w wr) (fun _ vi _ => m - (intOf vi).toNat)
  case atStart => exact ⟨0, rfl, Nat.zero_le _, Lib.hid (by simp), by simpa using HO.out, hbW⟩
  case round =>
    clear HO hmk
    obtain ⟨k, rfl, hk, HF, os, hb⟩ := hrel
    have hz := hb.size
    have hpl := flatMapLen (L.take k)
    rw [List.length_take] at hpl
    have hmin : min k L.length ≤ m := by have := HM.out; omega
    by_cases hlt : k < m
    · have hkl : k < L.length := by have := HM.out; omega
      obtain ⟨ad, hAd, hbl, hcell⟩ := HB.out.one hkl
      subst hAd
      have hcw := (hb.cell (p := ad.add k) (by rw [addBlock]; exact hbl)).trans hcell
      clear hcell
      have hx := HL.out L[k] (List.getElem_mem hkl)
      have HNX := Lib.hid (flatMapNext hkl)
      by_cases hf : fitS L[k] = true
      · have HF2 := Lib.hid (allNext hkl HF.out hf)
        have hz0 := zigFit hf
        have HES := Lib.hid (show encS L[k] = encL (zig L[k]).toNat by unfold encS; rw [if_pos hf])
        obtain ⟨x, hxx⟩ : ∃ x, L[k] = x := ⟨_, rfl⟩
        rw [hxx] at hcw hx hf hz0 HES HNX
        clear hxx
        obtain ⟨u, hu⟩ : ∃ u : Nat, zig x = u := ⟨(zig x).toNat, by omega⟩
        have HU := Lib.hid (iUns x hx.1 hx.2)
        rw [hu] at hz0
        rw [hu, Int.toNat_natCast] at HES
        have hu2 : u ≤ 4611686018427387904 := by omega
        have hu9 := encLen u 9 (by omega) (by omega)
        have HUU := Lib.hid hu
        have HFX := Lib.hid hf
        obtain ⟨P, hP⟩ : ∃ P, (L.take k).flatMap encS = P := ⟨_, rfl⟩
        rw [hP] at os hpl HNX
        have OS := Lib.hid os
        rw [HES.out] at HNX
        clear hu hf hP os hx hz0 HES
        go_wp2_with fail
        refine (HU.out wr).mono ?_
        rintro e w0 ⟨⟨u2, rfl, h3, h4⟩, rfl⟩
        obtain rfl : u2 = u := (h3 HFX.out).trans HUU.out
        clear h3 h4
        go_wp2_with fail
        refine (iEncSome u hu2 wr).mono ?_
        rintro e w2 ⟨ad2, q2, c2, rfl, hq2, r2, b2⟩
        have hq9 := hu9
        rw [hq2.out] at hq9
        have OS2 := Lib.hid (ownChg OS.out (Chg.ofBelow b2 (fun _ => True)) (fun _ _ => trivial))
        have HB2 := Lib.hid (belowThen hb b2)
        have hz2 := HB2.out.size
        have R2 := Lib.hid r2
        clear r2 hu9
        go_wp2_with (at_builtin; refine appB _ rfl (.tmp 26) (.tmp 27) rfl w.heap.size _ P rfl OS2.out (some ad2) q2 c2 (encL u) rfl hq2.out.symm R2.out (by have := hq2.out; omega) hz2 ?_; intro v3 w3 o3 b3)
        rw [← HNX.out] at o3
        go_roundw
        case rel => exact ⟨k + 1, by go_num, by omega, HF2, o3, HB2.out.trans b3⟩
        case measure => simp [intOf]; omega
      · have HR := Lib.hid (appIsNo (l := l) hkl (by simpa using hf))
        rw [HR.out]
        obtain ⟨x, hxx⟩ : ∃ x, L[k] = x := ⟨_, rfl⟩
        rw [hxx] at hcw hx hf
        have HFX := Lib.hid (show fitS x = false by simpa using hf)
        have HU := Lib.hid (iUns x hx.1 hx.2)
        clear hxx HNX hf hx os hpl hmin
        go_wp2_with fail
        refine (HU.out wr).mono ?_
        rintro e w0 ⟨⟨u2, rfl, h3, h4⟩, rfl⟩
        have h5 := h4 HFX.out
        have HE := Lib.hid (iEncNo u2 h5 wr)
        clear h3 h4 h5
        go_wp2_with fail
        refine HE.out.mono ?_
        rintro e w0 ⟨rfl, rfl⟩
        go_wp2_with fail
        refine (iJoin1 l n HN.out (by omega) A c wr (HA.out.below hb)).mono ?_
        rintro e w2 ⟨D, j, f, rfl, hj, o2, b2⟩
        have b3 := stepA hb (b2.mono (by simp; omega))
        have o3 := o2.mono (base' := w.heap.size) (by simp; omega)
        clear o2 b2
        go_wp2
        go_ret
        exact ⟨D, j, f, rfl, hj, o3, b3⟩
    · have hkm : k = m := by omega
      have htk : L.take k = L := by rw [List.take_of_length_le (by have := HM.out; omega)]
      have HF3 := HF.out
      rw [htk] at os HF3 hpl
      have HR := Lib.hid (appIsOk (l := l) HF3)
      have HR1 := HR.out
      rw [HM.out] at HR1
      have hm9 := encLen m 9 (by omega) (by omega)
      have HEN := Lib.hid (iEncSome m (by omega) wr)
      obtain ⟨P, hP⟩ : ∃ P, L.flatMap encS = P := ⟨_, rfl⟩
      obtain ⟨M, hM⟩ : ∃ M, encL m = M := ⟨_, rfl⟩
      have hP9 := flatMapLen L
      rw [HM.out] at hP9
      rw [hP] at os hP9 HR1
      rw [hM] at hm9 HEN HR1
      have HR2 := Lib.hid HR1
      clear HR1
      obtain ⟨AP, cP, rfl, rP, _⟩ := os.rd
      obtain ⟨qP, hqP⟩ : ∃ qP, P.length = qP := ⟨_, rfl⟩
      rw [hqP] at hP9
      have HQP := Lib.hid hqP
      have RP := Lib.hid rP
      have HKM := Lib.hid hkm
      clear hP hM os rP htk HF3 hpl hkm
      rw [hqP]
      clear hqP
      go_wp2_with fail
      refine HEN.out.mono ?_
      rintro e w2 ⟨ad2, q2, c2, rfl, hq2, r2, b2⟩
      have hq9 := hm9
      rw [hq2.out] at hq9
      have HB2 := Lib.hid (belowThen hb b2)
      have hz2 := HB2.out.size
      have R2 := Lib.hid r2
      clear r2 hm9
      go_wp2_with fail
      refine (iJoin3 l M P n q2 qP HN.out hq2.out HQP.out (by omega) A (some ad2) AP c c2 cP w2 (HA.out.below HB2.out) R2.out (RP.out.below b2)).mono ?_
      rintro e w3 ⟨D, j, f, rfl, hj, o3, b3⟩
      have b4 := stepA HB2.out (b3.mono (by simp; omega))
      have o4 := o3.mono (base' := w.heap.size) (by simp; omega)
      clear o3 b3
      go_wp2
      go_ret
      rw [HR2.out]
      exact ⟨D, j, f, rfl, hj, o4, b4⟩
end Go.Proofs.Ytcbipokohjajoaa
