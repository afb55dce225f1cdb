/-
  The law FrameRoundTrip.
-/
import Derived.Test.YtcbipokohjajoaaFLawL
import Derived.Test.YtcbipokohjajoaaFCanM
import Derived.Test.YtcbipokohjajoaaFLawT
namespace Go.Proofs.Ytcbipokohjajoaa
open Go.RowKit

theorem intRound {x : Int} (h : fitS x = true) (r : List UInt8) : errU (encS x ++ r) = 0 ∧ sgn (valU (encS x ++ r)) = x ∧ resU (encS x ++ r) = r := by
  have hz := zigFit h
  have he : encS x = encL (zig x).toNat := by unfold encS; rw [if_pos h]
  obtain ⟨h1, h2, h3⟩ := errEnc (n := (zig x).toNat) (by omega) r
  rw [he]
  exact ⟨h1, by rw [h2]; exact sgnZig, h3⟩
theorem uintRound {k : Nat} (h : k ≤ 4611686018427387904) (r : List UInt8) : errU (encU (k : Int) ++ r) = 0 ∧ valU (encU (k : Int) ++ r) = k ∧ resU (encU (k : Int) ++ r) = r := by
  rw [encUNat h]; exact errEnc h r
theorem strSizeR (S : List UInt8) : encL (ByteArray.size ⟨S.toArray⟩) ++ (ByteArray.data ⟨S.toArray⟩).toList = encL S.length ++ S := by simp [ByteArray.size]
/-- append of bytes onto a row of the call's own, as a step of a region that draws its order: all that lies below the row's base stays. -/
theorem stepBB (w : World) {ops : Array Oper} {o : Oper} {a : Act} {K : Act → World → Prop} {Q : Exit → Act → World → Prop} {E : Prop} (hgd : o.guard = none) (s x : Operand)
    (ho : o.op = .call { callee := .builtin .append, args := #[s, x], argTypes := #[22, 22] })
    (base : Nat) (D : Option Addr) (q f : Nat) (l : List UInt8) (hs : a.eval s = .slice D q f) (hown : OwnB w base (.slice D q f) l)
    (A : Option Addr) (m c : Nat) (news : List UInt8) (hx : a.eval x = .slice A m c) (hm : news.length = m) (hr : Rb w A c news)
    (hb : l.length + news.length ≤ 1000000) (hbase : base ≤ w.heap.size)
    (h : ∀ D' q' f' w', (l ++ news).length = q' → Rb w' D' f' (l ++ news) → Below base w w' → K (a.put o.dst (.slice D' q' f')) w') :
    if Region.wanted o (yielded ops a.tmps) = true then Oper.wp Try.prog o a w K Q else E := by
  refine stepB w hgd s x ho base _ l hs hown A m c news hx hm.symm hr hb hbase fun v' w' h1 h2 => ?_
  obtain ⟨D', f', rfl, hr', _⟩ := h1.rd
  exact h D' _ f' w' rfl hr' h2
set_option maxRecDepth 100000 in
set_option maxHeartbeats 16000000 in
theorem lawRoundTrip (l : List UInt8) (n : Nat) (hn : l.length = n) (most : Int) (L : List Int) (m : Nat) (hm : L.length = m) (hL : ∀ x ∈ L, -9223372036854775808 ≤ x ∧ x ≤ 9223372036854775807) (s : ByteArray) (A B : Option Addr) (c d : Nat) (w : World) (ha : Rb w A c l) (hb : Rd w B d L) :
    Calls Try.prog 6 #[.agg #[.slice A n c, .int .i64 most, .slice B m d, .string s]] w fun e w' => e = .returned (.bool true) ∧ Below w.heap.size w w' := by
  obtain ⟨S, rfl⟩ : ∃ S : List UInt8, s = ⟨S.toArray⟩ := ⟨s.data.toList, by simp⟩
  obtain ⟨V, hV⟩ : ∃ V, w.alloc (.cells #[.slice A n c, .int .i64 most, .slice B m d, .string ⟨S.toArray⟩] 32) = V := ⟨_, rfl⟩
  have BX : Hid (BoxL V w.heap.size A n c most B m d ⟨S.toArray⟩) := by rw [← hV]; exact Lib.hid (BoxL.new w)
  have HBV : Hid (Below w.heap.size w V) := by rw [← hV]; exact Lib.hid (belowAlloc w _)
  obtain ⟨c0, c1, c2, c3⟩ := BX.out.facts
  have HLV := Lib.hid (livesOk V)
  by_cases h1 : n > 100
  · go_enter Try.func6, Try.ntmps6
    go_wp2_with fail
    refine HLV.out.mono ?_
    rintro e w1 ⟨rfl, b1⟩
    go_wp2
    go_ret
    exact ⟨rfl, belowThen HBV.out b1⟩
  have d1 : ¬ (n : Int) > 100 := by omega
  by_cases h2 : m > 100
  · go_enter Try.func6, Try.ntmps6
    go_wp2_with fail
    refine HLV.out.mono ?_
    rintro e w1 ⟨rfl, b1⟩
    go_wp2
    go_ret
    exact ⟨rfl, belowThen HBV.out b1⟩
  have d2 : ¬ (m : Int) > 100 := by omega
  by_cases h3 : S.length > 100
  · go_enter Try.func6, Try.ntmps6
    go_wp2_with fail
    refine HLV.out.mono ?_
    rintro e w1 ⟨rfl, b1⟩
    go_wp2
    go_ret
    exact ⟨rfl, belowThen HBV.out b1⟩
  have d3 : ¬ (S.length : Int) > 100 := by omega
  clear HLV
  have HA := Lib.hid (ha.below HBV.out)
  have HB := Lib.hid (hb.below HBV.out)
  have HN := Lib.hid hn
  have HM := Lib.hid hm
  have hdle := hb.le
  have hdmax := hb.max
  unfold maxLen at hdmax
  rw [hm] at hdle
  have hlt := BX.out.lt
  have HKP := Lib.hid (show ∀ w', Below V.heap.size V w' → w'.cell? ⟨w.heap.size, 0, none⟩ = some (.slice A n c) ∧ w'.cell? ⟨w.heap.size, 2, none⟩ = some (.slice B m d) ∧ w'.cell? ⟨w.heap.size, 3, none⟩ = some (.string ⟨S.toArray⟩) from fun w' b =>
    ⟨(b.cell (by exact hlt)).trans c0, (b.cell (by exact hlt)).trans c2, (b.cell (by exact hlt)).trans c3⟩)
  clear ha hb hn hm c0 c1 c2 c3
  have c0 := (HKP.out V (Below.refl _ _)).1
  have c2 := (HKP.out V (Below.refl _ _)).2.1
  have c3 := (HKP.out V (Below.refl _ _)).2.2
  go_enter Try.func6, Try.ntmps6
  go_wp2
  go_loopw [3] (fun vi wr => ∃ k : Nat, vi = .int .i64 k ∧ k ≤ m ∧ Hid ((L.take k).all fitS = true) ∧ Below V.heap.size V wr) (fun vi _ => m - (intOf vi).toNat)
  case atStart => exact ⟨0, rfl, Nat.zero_le _, Lib.hid (by simp), Below.refl _ _⟩
  case round =>
    clear c0 c2 c3
    obtain ⟨k, rfl, hk, HF, hbr⟩ := hrel
    obtain ⟨c0, c2, c3⟩ := HKP.out wr hbr
    by_cases hlt : k < m
    · have hkl : k < L.length := by have := HM.out; omega
      obtain ⟨ad, hAd, hbl, hcl⟩ := HB.out.one hkl
      have hcx := (hbr.cell (p := ad.add k) (by rw [addBlock]; exact hbl)).trans hcl
      have hxb := hL L[k] (List.getElem_mem hkl)
      have HBR := Lib.hid hbr
      by_cases hf : fitS L[k] = true
      · have HF2 := Lib.hid (allNext hkl HF.out hf)
        have hz := zigFit hf
        have hr1 := intRound hf l
        obtain ⟨x, hx⟩ : ∃ x, L[k] = x := ⟨_, rfl⟩
        rw [hx] at hcx hxb hf hz hr1
        have hff : -2305843009213693952 ≤ x ∧ x ≤ 2305843009213693952 := by unfold fitS at hf; simpa using hf
        obtain ⟨u, hu⟩ : ∃ u : Nat, (if x < 0 then 0 else x) = (u : Int) := ⟨(if x < 0 then 0 else x).toNat, by split <;> omega⟩
        have hu2 : u ≤ 4611686018427387904 := by have h9 := hu; split at h9 <;> omega
        have hr2 := uintRound hu2 l
        have he1 := encSLen x
        have he2 := encULen (u : Int)
        have hx1 : ¬ x < -2305843009213693952 := by omega
        have hx2 : ¬ x > 2305843009213693952 := by omega
        have HR1 := Lib.hid hr1
        have HR2 := Lib.hid hr2
        have HXB := Lib.hid hxb
        have HE1 := Lib.hid he1
        have HE2 := Lib.hid he2
        have HU := Lib.hid hu
        have hs1 : (encS x).length + l.length ≤ 1000000 := by have := HN.out; omega
        have hs2 : (encU (u : Int)).length + l.length ≤ 1000000 := by have := HN.out; omega
        have HS1 := Lib.hid hs1
        have HS2 := Lib.hid hs2
        subst hAd
        clear hcl hx hf hz hr1 hff hu hr2 he1 he2 hbr hs1 hs2 hxb
        go_wp2
        have HKW := Lib.hid (show ∀ w', Below wr.heap.size wr w' → _ ∧ _ ∧ _ ∧ Below wr.heap.size wr w' from fun w' b => ⟨(HKP.out w' (belowThen HBR.out b)).1, (HKP.out w' (belowThen HBR.out b)).2.1, (HKP.out w' (belowThen HBR.out b)).2.2, b⟩)
        have HAW := Lib.hid (HA.out.below HBR.out)
        have HBW := Lib.hid (Rd.below HB.out HBR.out)
        have hbd : Below wr.heap.size wr wr.drew := (Below.refl _ wr).drew
        go_wp2_with fail
        go_region_held3 (fun w' => w'.cell? ⟨w.heap.size, 0, none⟩ = some (.slice A n c) ∧ w'.cell? ⟨w.heap.size, 2, none⟩ = some (.slice (some ad) m d) ∧ w'.cell? ⟨w.heap.size, 3, none⟩ = some (.string ⟨S.toArray⟩) ∧ Below wr.heap.size wr w')
          (first
            | assumption
            | exact HKW.out _ hbd
            | exact HKW.out _ (belowThen (‹_ ∧ _ ∧ _ ∧ Below wr.heap.size wr _›).2.2.2 bz)
            | exact HKW.out _ ((‹_ ∧ _ ∧ _ ∧ Below wr.heap.size wr _›).2.2.2.trans by_)
            | exact HKW.out _ (belowThen (‹_ ∧ _ ∧ _ ∧ Below wr.heap.size wr _›).2.2.2 bx))
          (first
            | (go_at_call 18; refine (iAppI [] 0 rfl (by decide) x HXB.out.1 HXB.out.2 none 0 _ Rb.nil).mono ?_; rintro e w6 ⟨D6, q6, f6, rfl, hq6, o6, bx⟩; rw [List.nil_append] at hq6 o6; have O6 := Lib.hid (o6.mono (base' := wr.heap.size) (by exact (‹_ ∧ _ ∧ _ ∧ Below wr.heap.size wr _›).2.2.2.size)); clear o6)
            | (refine stepBB _ (by rfl) (.tmp 58) (.tmp 60) (by rfl) wr.heap.size _ _ _ (encS x) (by rfl) O6.out A n c (l) (by rfl) HN.out (HAW.out.below (‹_ ∧ _ ∧ _ ∧ Below wr.heap.size wr _›).2.2.2) (HS1.out) (by have := (‹_ ∧ _ ∧ _ ∧ Below wr.heap.size wr _›).2.2.2.size; exact this) ?_; intro D7 q7 f7 w7 hq7 r7 by_; have R7 := Lib.hid r7; have HQ7 := Lib.hid hq7; clear r7 hq7)
            | (go_at_call 13; refine (iInt (encS x ++ l) q7 HQ7.out (by have h9 := HQ7.out; rw [List.length_append] at h9; have := HE1.out; have := HN.out; omega) D7 f7 _ R7.out).mono ?_; rw [HR1.out.1, HR1.out.2.1, HR1.out.2.2]; rintro e w8 ⟨D8, q8, f8, rfl, hq8, r8, bz⟩; have R8 := Lib.hid r8; clear r8))
        have b8 := Lib.hid (belowThen HBR.out (‹_ ∧ _ ∧ _ ∧ Below wr.heap.size wr w8›).2.2.2)
        clear hbd HKW HAW HBW
        obtain ⟨c0, c2, c3⟩ := HKP.out w8 b8.out
        have hyy : (x != x) = false := by simp
        have CS := Lib.hid (rSame l l true (eqLy rfl) q8 n hq8.out HN.out D8 A f8 c w8 R8.out (HA.out.below b8.out))
        go_wp2_with fail
        refine CS.out.mono ?_
        rintro e w' ⟨rfl, rfl⟩
        have hu := HU.out
        clear CS R8
        have HKW := Lib.hid (show ∀ w', Below w8.heap.size w8 w' → _ ∧ _ ∧ _ ∧ Below w8.heap.size w8 w' from fun w' b => ⟨(HKP.out w' (belowThen b8.out b)).1, (HKP.out w' (belowThen b8.out b)).2.1, (HKP.out w' (belowThen b8.out b)).2.2, b⟩)
        have HAW := Lib.hid (HA.out.below b8.out)
        have HBW := Lib.hid (Rd.below HB.out b8.out)
        have hbd : Below w8.heap.size w8 w8.drew := (Below.refl _ w8).drew
        go_wp2_with fail
        go_region_held3 (fun w' => w'.cell? ⟨w.heap.size, 0, none⟩ = some (.slice A n c) ∧ w'.cell? ⟨w.heap.size, 2, none⟩ = some (.slice (some ad) m d) ∧ w'.cell? ⟨w.heap.size, 3, none⟩ = some (.string ⟨S.toArray⟩) ∧ Below w8.heap.size w8 w')
          (first
            | assumption
            | exact HKW.out _ hbd
            | exact HKW.out _ (belowThen (‹_ ∧ _ ∧ _ ∧ Below w8.heap.size w8 _›).2.2.2 bz)
            | exact HKW.out _ ((‹_ ∧ _ ∧ _ ∧ Below w8.heap.size w8 _›).2.2.2.trans by_)
            | exact HKW.out _ (belowThen (‹_ ∧ _ ∧ _ ∧ Below w8.heap.size w8 _›).2.2.2 bx))
          (first
            | (go_at_call 16; refine (iAppU [] 0 rfl (by decide) (u : Int) none 0 _ Rb.nil).mono ?_; rintro e w6 ⟨D6, q6, f6, rfl, hq6, o6, bx⟩; rw [List.nil_append] at hq6 o6; have O6 := Lib.hid (o6.mono (base' := w8.heap.size) (by exact (‹_ ∧ _ ∧ _ ∧ Below w8.heap.size w8 _›).2.2.2.size)); clear o6)
            | (refine stepBB _ (by rfl) (.tmp 83) (.tmp 85) (by rfl) w8.heap.size _ _ _ (encU (u : Int)) (by rfl) O6.out A n c (l) (by rfl) HN.out (HAW.out.below (‹_ ∧ _ ∧ _ ∧ Below w8.heap.size w8 _›).2.2.2) (HS2.out) (by have := (‹_ ∧ _ ∧ _ ∧ Below w8.heap.size w8 _›).2.2.2.size; exact this) ?_; intro D7 q7 f7 w7 hq7 r7 by_; have R7 := Lib.hid r7; have HQ7 := Lib.hid hq7; clear r7 hq7)
            | (go_at_call 11; refine (iUint (encU (u : Int) ++ l) q7 HQ7.out (by have h9 := HQ7.out; rw [List.length_append] at h9; have := HE2.out; have := HN.out; omega) D7 f7 _ R7.out).mono ?_; rw [HR2.out.1, HR2.out.2.1, HR2.out.2.2]; rintro e w9 ⟨D9, q9, f9, rfl, hq9, r9, bz⟩; have R9 := Lib.hid r9; clear r9))
        have b9 := Lib.hid (belowThen b8.out (‹_ ∧ _ ∧ _ ∧ Below w8.heap.size w8 w9›).2.2.2)
        clear hbd HKW HAW HBW c0 c2 c3
        obtain ⟨c0, c2, c3⟩ := HKP.out w9 b9.out
        have hyu : ((u : Int) != (u : Int)) = false := by simp
        have CS := Lib.hid (rSame l l true (eqLy rfl) q9 n hq9.out HN.out D9 A f9 c w9 R9.out (HA.out.below b9.out))
        go_wp2_with fail
        refine CS.out.mono ?_
        rintro e w' ⟨rfl, rfl⟩
        clear CS R9
        go_wp2
        go_roundw
        case rel => exact ⟨k + 1, by go_num, by omega, HF2, b9.out⟩
        case measure => simp [intOf]; omega
      · have HLV := Lib.hid (livesOk wr)
        obtain ⟨x, hx⟩ : ∃ x, L[k] = x := ⟨_, rfl⟩
        rw [hx] at hcx hf
        have hff : ¬ (-2305843009213693952 ≤ x ∧ x ≤ 2305843009213693952) := by unfold fitS at hf; simpa using hf
        subst hAd
        clear hx hf
        by_cases hx1 : x < -2305843009213693952
        · go_wp2_with fail
          refine HLV.out.mono ?_
          rintro e w1 ⟨rfl, b1⟩
          go_wp2
          go_ret
          exact ⟨rfl, belowThen HBV.out (belowThen HBR.out b1)⟩
        · have hx2 : x > 2305843009213693952 := by omega
          go_wp2_with fail
          refine HLV.out.mono ?_
          rintro e w1 ⟨rfl, b1⟩
          go_wp2
          go_ret
          exact ⟨rfl, belowThen HBV.out (belowThen HBR.out b1)⟩
    · have hfl := HF.out
      rw [List.take_of_length_le (by have := HM.out; omega)] at hfl
      have hml : L.length ≤ 100000 := by have := HM.out; omega
      have hir := intsRound L l hfl hml
      rw [HM.out] at hir
      have HIR := Lib.hid hir
      have hpl : (appIs [] L).length ≤ 1000 := by
        rw [appIsOk hfl, List.nil_append, List.length_append]
        have := flatMapLen L
        have := encLen L.length 9 (by omega) (by omega)
        have := HM.out
        omega
      have HPL := Lib.hid hpl
      have hs1 : (appIs [] L).length + l.length ≤ 1000000 := by have := HN.out; omega
      have HS1 := Lib.hid hs1
      have HSR := Lib.hid (strRound S l (by omega))
      have he2 := encLen S.length 9 (by omega) (by omega)
      have hs2 : (encL S.length ++ S).length + l.length ≤ 1000000 := by rw [List.length_append]; have := HN.out; omega
      have HS2 := Lib.hid hs2
      have HE2 := Lib.hid he2
      have HOS := Lib.hid (openSeal (p := S) (by omega) l)
      have hs3 : (sealL S).length + l.length ≤ 1000000 := by rw [sealLen]; have := HN.out; omega
      have HS3 := Lib.hid hs3
      have HSZ := Lib.hid (sealLen S)
      have HBR := Lib.hid hbr
      have hlen2 : S.length ≤ 100 := by omega
      have hm10 : m ≤ 10000 := by omega
      clear hfl hml hir hpl hs1 he2 hs2 hs3 hbr
      go_wp2
      have HKW := Lib.hid (show ∀ w', Below wr.heap.size wr w' → _ ∧ _ ∧ _ ∧ Below wr.heap.size wr w' from fun w' b => ⟨(HKP.out w' (belowThen HBR.out b)).1, (HKP.out w' (belowThen HBR.out b)).2.1, (HKP.out w' (belowThen HBR.out b)).2.2, b⟩)
      have HAW := Lib.hid (HA.out.below HBR.out)
      have HBW := Lib.hid (Rd.below HB.out HBR.out)
      have hbd : Below wr.heap.size wr wr.drew := (Below.refl _ wr).drew
      go_wp2_with fail
      go_region_held3 (fun w' => w'.cell? ⟨w.heap.size, 0, none⟩ = some (.slice A n c) ∧ w'.cell? ⟨w.heap.size, 2, none⟩ = some (.slice B m d) ∧ w'.cell? ⟨w.heap.size, 3, none⟩ = some (.string ⟨S.toArray⟩) ∧ Below wr.heap.size wr w')
        (first
          | assumption
          | exact HKW.out _ hbd
          | exact HKW.out _ (belowThen (‹_ ∧ _ ∧ _ ∧ Below wr.heap.size wr _›).2.2.2 bz)
          | exact HKW.out _ ((‹_ ∧ _ ∧ _ ∧ Below wr.heap.size wr _›).2.2.2.trans by_)
          | exact HKW.out _ (belowThen (‹_ ∧ _ ∧ _ ∧ Below wr.heap.size wr _›).2.2.2 bx))
        (first
          | (go_at_call 25; refine (iAppIs [] L 0 m rfl HM.out (by decide) hm10 hL none B 0 d _ Rb.nil (HBW.out.below (‹_ ∧ _ ∧ _ ∧ Below wr.heap.size wr _›).2.2.2)).mono ?_; rintro e w6 ⟨D6, q6, f6, rfl, hq6, o6, bx⟩; have O6 := Lib.hid (o6.mono (base' := wr.heap.size) (by exact (‹_ ∧ _ ∧ _ ∧ Below wr.heap.size wr _›).2.2.2.size)); clear o6)
          | (refine stepBB _ (by rfl) (.tmp 109) (.tmp 111) (by rfl) wr.heap.size _ _ _ (appIs [] L) (by rfl) O6.out A n c (l) (by rfl) HN.out (HAW.out.below (‹_ ∧ _ ∧ _ ∧ Below wr.heap.size wr _›).2.2.2) (HS1.out) (by have := (‹_ ∧ _ ∧ _ ∧ Below wr.heap.size wr _›).2.2.2.size; exact this) ?_; intro D7 q7 f7 w7 hq7 r7 by_; have R7 := Lib.hid r7; have HQ7 := Lib.hid hq7; clear r7 hq7)
          | (go_at_call 20; refine (iInts (appIs [] L ++ l) (m : Int) q7 HQ7.out (by have h9 := HQ7.out; rw [List.length_append] at h9; have := HPL.out; have := HN.out; omega) D7 f7 _ R7.out).mono ?_; rw [HIR.out]; rintro e w10 ⟨A10, q10, e10, D10, k10, f10, rfl, hq10, hk10, l10, r10, bz⟩; dsimp only at hq10 hk10 l10 r10; have L10 := Lib.hid l10; have R10 := Lib.hid r10; clear l10 r10))
      have b10 := Lib.hid (belowThen HBR.out (‹_ ∧ _ ∧ _ ∧ Below wr.heap.size wr w10›).2.2.2)
      clear hbd HKW HAW HBW c0 c2 c3
      obtain ⟨c0, c2, c3⟩ := HKP.out w10 b10.out
      go_wp2
      have HKW := Lib.hid (show ∀ w', Below w10.heap.size w10 w' → _ ∧ _ ∧ _ ∧ Below w10.heap.size w10 w' from fun w' b => ⟨(HKP.out w' (belowThen b10.out b)).1, (HKP.out w' (belowThen b10.out b)).2.1, (HKP.out w' (belowThen b10.out b)).2.2, b⟩)
      have HAW := Lib.hid (HA.out.below b10.out)
      have HBW := Lib.hid (Rd.below HB.out b10.out)
      have hbd : Below w10.heap.size w10 w10.drew := (Below.refl _ w10).drew
      go_wp2_with fail
      go_region_held3 (fun w' => w'.cell? ⟨w.heap.size, 0, none⟩ = some (.slice A n c) ∧ w'.cell? ⟨w.heap.size, 2, none⟩ = some (.slice B m d) ∧ w'.cell? ⟨w.heap.size, 3, none⟩ = some (.string ⟨S.toArray⟩) ∧ Below w10.heap.size w10 w')
        (first
          | assumption
          | exact HKW.out _ hbd
          | exact HKW.out _ (belowThen (‹_ ∧ _ ∧ _ ∧ Below w10.heap.size w10 _›).2.2.2 bz)
          | exact HKW.out _ ((‹_ ∧ _ ∧ _ ∧ Below w10.heap.size w10 _›).2.2.2.trans by_)
          | exact HKW.out _ (belowThen (‹_ ∧ _ ∧ _ ∧ Below w10.heap.size w10 _›).2.2.2 bx))
        (first
          | (go_at_call 27; refine (iAppS [] 0 rfl (by decide) ⟨S.toArray⟩ (by simpa [ByteArray.size] using (show S.length ≤ 100000 by omega)) none 0 _ Rb.nil).mono ?_; rw [List.nil_append, strSizeR S]; rintro e w6 ⟨D6, q6, f6, rfl, hq6, o6, bx⟩; have O6 := Lib.hid (o6.mono (base' := w10.heap.size) (by exact (‹_ ∧ _ ∧ _ ∧ Below w10.heap.size w10 _›).2.2.2.size)); clear o6)
          | (refine stepBB _ (by rfl) (.tmp 123) (.tmp 125) (by rfl) w10.heap.size _ _ _ (encL S.length ++ S) (by rfl) O6.out A n c (l) (by rfl) HN.out (HAW.out.below (‹_ ∧ _ ∧ _ ∧ Below w10.heap.size w10 _›).2.2.2) (HS2.out) (by have := (‹_ ∧ _ ∧ _ ∧ Below w10.heap.size w10 _›).2.2.2.size; exact this) ?_; intro D7 q7 f7 w7 hq7 r7 by_; have R7 := Lib.hid r7; have HQ7 := Lib.hid hq7; clear r7 hq7)
          | (go_at_call 22; refine (iStr (encL S.length ++ S ++ l) (S.length : Int) q7 HQ7.out (by have h9 := HQ7.out; rw [List.length_append, List.length_append] at h9; have := HE2.out; have := HN.out; omega) D7 f7 _ R7.out).mono ?_; rw [HSR.out.1, HSR.out.2.1, HSR.out.2.2]; rintro e w11 ⟨D11, k11, f11, rfl, hk11, r11, bz⟩; have R11 := Lib.hid r11; clear r11))
      have bb11 := Lib.hid (‹_ ∧ _ ∧ _ ∧ Below w10.heap.size w10 w11›).2.2.2
      have b11 := Lib.hid (belowThen b10.out bb11.out)
      have L11 := Lib.hid (L10.out.below bb11.out)
      have R10 := Lib.hid (R10.out.below bb11.out)
      clear hbd HKW HAW HBW c0 c2 c3 L10 bb11
      obtain ⟨c0, c2, c3⟩ := HKP.out w11 b11.out
      have hss : (ByteArray.mk S.toArray).size ≤ 1000000 := by simpa [ByteArray.size] using (show S.length ≤ 1000000 by omega)
      have hcv := fun w' : World => Lib.run_convert_string_bytes (P := Try.prog) w' 9 22 5 ⟨S.toArray⟩ Try.underlying9 Try.underlying22 Try.underlying5
      have hcv1 := hcv w11.drew
      have HSB := Lib.hid (strB w11.drew ⟨S.toArray⟩ hss)
      obtain ⟨Y, hY⟩ : ∃ Y, Lib.bytesWorld w11.drew 5 ⟨S.toArray⟩ = Y := ⟨_, rfl⟩
      obtain ⟨gc, hgc⟩ : ∃ gc, grownCap w11.drew (ByteArray.mk S.toArray).size 0 5 = gc := ⟨_, rfl⟩
      have hsz9 : (ByteArray.mk S.toArray).size = S.length := by simp [ByteArray.size]
      rw [hY, hgc, hsz9] at hcv1
      rw [hY, hgc] at HSB
      have hbY : Below w11.heap.size w11 Y := belowThen ((Below.refl _ w11).drew) HSB.out.1
      have rY : Rb Y (some ⟨w11.heap.size, 0, none⟩) gc S := by simpa using HSB.out.2
      have HSL := Lib.hid (iSeal S S.length rfl (by omega) (some ⟨w11.heap.size, 0, none⟩) gc Y rY)
      have HBY := Lib.hid hbY
      clear hcv hss hY hgc hsz9 HSB rY hbY
      go_wp2
      have HKW := Lib.hid (show ∀ w', Below w11.heap.size w11 w' → w'.cell? ⟨w.heap.size, 0, none⟩ = some (.slice A n c) from fun w' b => (HKP.out w' (belowThen b11.out b)).1)
      have c0Y := HKW.out Y HBY.out
      go_region_law (first
        | (go_simp; (show Calls _ 33 _ _ _); refine HSL.out.mono ?_; rintro e w6 ⟨D6, q6, f6, rfl, hq6, o6, bx⟩; have O6 := Lib.hid (o6.mono (base' := w11.heap.size) HBY.out.size); have b6 := Lib.hid (belowThen HBY.out bx); have c06 := HKW.out w6 b6.out; clear o6 bx)
        | (refine stepBB _ (by rfl) (.tmp 138) (.tmp 140) (by rfl) w11.heap.size _ _ _ (sealL S) (by rfl) O6.out A n c l (by rfl) HN.out (HA.out.below (belowThen b11.out b6.out)) HS3.out b6.out.size ?_; intro D7 q7 f7 w7 hq7 r7 by_; have R7 := Lib.hid r7; have HQ7 := Lib.hid hq7; have b7 := Lib.hid (b6.out.trans by_); clear r7 hq7 by_)
        | (go_simp; (show Calls _ 29 _ _ _); refine (iOpen (sealL S ++ l) q7 HQ7.out (by have h9 := HQ7.out; rw [List.length_append] at h9; have := HSZ.out; have := HN.out; have := HE2.out; omega) D7 f7 _ R7.out).mono ?_; rw [HOS.out.1, HOS.out.2.1, HOS.out.2.2]; rintro e w12 ⟨A12, q12, e12, D12, k12, f12, rfl, hq12, hk12, p12, r12, bz⟩; have P12 := Lib.hid p12; have R12 := Lib.hid r12; have bb12 := Lib.hid (belowThen b7.out bz); clear p12 r12 bz))
      all_goals
        have b12 := Lib.hid (belowThen b11.out bb12.out)
        have L12 := Lib.hid (Rd.below L11.out bb12.out)
        have R10 := Lib.hid (R10.out.below bb12.out)
        have R11 := Lib.hid (R11.out.below bb12.out)
        clear HKW c0 c2 c3 L11 bb12 HSL HBY hcv1 c0Y
        obtain ⟨c0, c2, c3⟩ := HKP.out w12 b12.out
        have CE := Lib.hid (rEqualT L q10 m hq10.out HM.out A10 B e10 d w12 L12.out (Rd.below HB.out b12.out))
        go_wp2_with fail
        refine CE.out.mono ?_
        rintro e w13 ⟨rfl, bb13⟩
        have b13 := Lib.hid (belowThen b12.out bb13)
        have R10 := Lib.hid (R10.out.below bb13)
        have R11 := Lib.hid (R11.out.below bb13)
        have R12 := Lib.hid (R12.out.below bb13)
        have hcp := convB (P12.out.below bb13) hq12.out
        clear CE bb13 c0 c2 c3 L12
        obtain ⟨c0, c2, c3⟩ := HKP.out w13 b13.out
        have C1 := Lib.hid (rSame l l true (eqLy rfl) k10 n hk10.out HN.out D10 A f10 c w13 R10.out (HA.out.below b13.out))
        go_wp2_with fail
        refine C1.out.mono ?_
        rintro e w' ⟨rfl, rfl⟩
        have C2 := Lib.hid (rSame l l true (eqLy rfl) k11 n hk11.out HN.out D11 A f11 c w13 R11.out (HA.out.below b13.out))
        clear C1
        go_wp2_with fail
        refine C2.out.mono ?_
        rintro e w' ⟨rfl, rfl⟩
        have C3 := Lib.hid (rSame l l true (eqLy rfl) k12 n hk12.out HN.out D12 A f12 c w13 R12.out (HA.out.below b13.out))
        clear C2
        go_wp2_with fail
        refine C3.out.mono ?_
        rintro e w' ⟨rfl, rfl⟩
        have CL := Lib.hid (livesOk w13)
        clear C3
        go_wp2_with fail
        refine CL.out.mono ?_
        rintro e w14 ⟨rfl, b14⟩
        have BL := belowThen HBV.out (belowThen b13.out b14)
        clear b14
        go_wp2
        go_ret
        exact ⟨rfl, BL⟩
end Go.Proofs.Ytcbipokohjajoaa
