/-
  The contracts of AppendUint, AppendInt, AppendString, Uint, Int.
-/
import Derived.Test.YtcbipokohjajoaaFJoin
import Derived.Test.YtcbipokohjajoaaFEnc
import Derived.Test.YtcbipokohjajoaaFDec
import Derived.Lib.ConvBytes
namespace Go.Proofs.Ytcbipokohjajoaa
open Go.RowKit

theorem GivesO.lift {l : List UInt8} {w w1 w2 : World} {e : Ending} (hb : Below w.heap.size w w1) (h : GivesO l w1 e w2) : GivesO l w e w2 := by
  obtain ⟨A, q, c, rfl, hq, h1, h2⟩ := h
  exact ⟨A, q, c, rfl, hq, h1.mono hb.size, belowThen hb h2⟩
/-- join of one, two, three slices just laid. -/
theorem iJoin1 (l : List UInt8) (n : Nat) (hn : l.length = n) (hs : n ≤ 400000) (A : Option Addr) (c : Nat) (w : World) (ha : Rb w A c l) :
    Calls Try.prog 36 #[.slice (some ⟨w.heap.size, 0, none⟩) 1 1] (w.alloc (.cells #[.slice A n c] 22)) (GivesO l (w.alloc (.cells #[.slice A n c] 22))) := by
  subst hn
  have h := iJoin [l] [.slice A l.length c] 1 rfl (by simp; omega) (by omega) (some ⟨w.heap.size, 0, none⟩) 1 (w.alloc (.cells #[.slice A l.length c] 22)) (Rds.lit w [.slice A l.length c] 22 (by simp [maxLen])) ⟨⟨A, c, rfl, ha.alloc _⟩, trivial⟩
  simpa using h
theorem iJoin2 (l m : List UInt8) (n k : Nat) (hn : l.length = n) (hk : m.length = k) (hs : n + k ≤ 400000) (A B : Option Addr) (c d : Nat) (w : World) (ha : Rb w A c l) (hb : Rb w B d m) :
    Calls Try.prog 36 #[.slice (some ⟨w.heap.size, 0, none⟩) 2 2] (w.alloc (.cells #[.slice A n c, .slice B k d] 22)) (GivesO (l ++ m) (w.alloc (.cells #[.slice A n c, .slice B k d] 22))) := by
  subst hn hk
  have h := iJoin [l, m] [.slice A l.length c, .slice B m.length d] 2 rfl (by simp; omega) (by omega) (some ⟨w.heap.size, 0, none⟩) 2 (w.alloc (.cells #[.slice A l.length c, .slice B m.length d] 22)) (Rds.lit w [.slice A l.length c, .slice B m.length d] 22 (by simp [maxLen])) ⟨⟨A, c, rfl, ha.alloc _⟩, ⟨B, d, rfl, hb.alloc _⟩, trivial⟩
  simpa using h
theorem iJoin3 (l m r : List UInt8) (n k j : Nat) (hn : l.length = n) (hk : m.length = k) (hj : r.length = j) (hs : n + k + j ≤ 400000) (A B C : Option Addr) (c d f : Nat) (w : World) (ha : Rb w A c l) (hb : Rb w B d m) (hc : Rb w C f r) :
    Calls Try.prog 36 #[.slice (some ⟨w.heap.size, 0, none⟩) 3 3] (w.alloc (.cells #[.slice A n c, .slice B k d, .slice C j f] 22)) (GivesO (l ++ m ++ r) (w.alloc (.cells #[.slice A n c, .slice B k d, .slice C j f] 22))) := by
  subst hn hk hj
  have h := iJoin [l, m, r] [.slice A l.length c, .slice B m.length d, .slice C r.length f] 3 rfl (by simp; omega) (by omega) (some ⟨w.heap.size, 0, none⟩) 3 (w.alloc (.cells #[.slice A l.length c, .slice B m.length d, .slice C r.length f] 22)) (Rds.lit w [.slice A l.length c, .slice B m.length d, .slice C r.length f] 22 (by simp [maxLen])) ⟨⟨A, c, rfl, ha.alloc _⟩, ⟨B, d, rfl, hb.alloc _⟩, ⟨C, f, rfl, hc.alloc _⟩, trivial⟩
  simpa using h
theorem encULen (n : Int) : (encU n).length ≤ 9 := by
  unfold encU; split
  · exact encLen _ 9 (by omega) (by omega)
  · simp
/-- encode of any integer. -/
theorem iEncA (n : Int) (w : World) : Calls Try.prog 38 #[.int .i64 n] w (GivesO (encU n) w) := by
  by_cases h : 0 ≤ n ∧ n ≤ 4611686018427387904
  · obtain ⟨m, rfl⟩ := Int.eq_ofNat_of_zero_le h.1
    have hm : m ≤ 4611686018427387904 := by omega
    rw [encUNat hm]
    exact iEnc m hm w
  · have e : encU n = [] := by unfold encU; rw [if_neg h]
    rw [e]
    refine (iEncNo n (by omega) w).mono ?_
    rintro e w' ⟨rfl, rfl⟩
    exact GivesO.of (OwnB.nil _ _) (Below.refl _ _)
theorem iUnsA (n : Int) (h1 : -9223372036854775808 ≤ n) (h2 : n ≤ 9223372036854775807) (w : World) : Calls Try.prog 39 #[.int .i64 n] w fun e w' => (∃ u : Int, e = .returned (.int .i64 u) ∧ Hid (encU u = encS n)) ∧ w = w' := by
  refine (iUns n h1 h2 w).mono ?_
  rintro e w' ⟨⟨u, rfl, h3, h4⟩, rfl⟩
  refine ⟨⟨u, rfl, Lib.hid ?_⟩, rfl⟩
  unfold encS
  by_cases hf : fitS n = true
  · have := zigFit hf
    rw [if_pos hf, h3 hf]
    unfold encU
    rw [if_pos this]
  · rw [if_neg hf]
    have := h4 (by simpa using hf)
    unfold encU
    rw [if_neg (by omega)]
theorem iAppU (l : List UInt8) (n : Nat) (hn : l.length = n) (hs : n ≤ 300000) (k : Int) (A : Option Addr) (c : Nat) (w : World) (ha : Rb w A c l) :
    Calls Try.prog 16 #[.slice A n c, .int .i64 k] w (GivesO (l ++ encU k) w) := by
  have HA := Lib.hid ha; clear ha
  have HN := Lib.hid hn; clear hn
  have hq := encULen k
  have HE := Lib.hid (iEncA k w)
  obtain ⟨m, hm⟩ : ∃ m, encU k = m := ⟨_, rfl⟩
  rw [hm] at hq HE ⊢
  clear hm
  go_enter Try.func16, Try.ntmps16
  go_wp2_with fail
  refine HE.out.mono ?_
  rintro e w1 ⟨B, q, d, rfl, hqm, o1, b1⟩
  have r1 := o1.rb.1
  have hqb := hq
  rw [hqm.out] at hqb
  go_wp2_with fail
  refine (iJoin2 l m n _ HN.out hqm.out (by omega) A B c d w1 (HA.out.below b1) r1).mono ?_
  rintro e w2 ⟨D, j, f, rfl, hj, o2, b2⟩
  have b3 := stepA b1 (b2.mono (by simp; have := b1.size; omega))
  have o3 := o2.mono (base' := w.heap.size) (by simp; have := b1.size; omega)
  clear o1 o2 b1 b2 r1
  go_wp2
  go_ret
  exact ⟨D, j, f, rfl, hj, o3, b3⟩
theorem iAppI (l : List UInt8) (n : Nat) (hn : l.length = n) (hs : n ≤ 300000) (k : Int) (h1 : -9223372036854775808 ≤ k) (h2 : k ≤ 9223372036854775807) (A : Option Addr) (c : Nat) (w : World) (ha : Rb w A c l) :
    Calls Try.prog 18 #[.slice A n c, .int .i64 k] w (GivesO (l ++ encS k) w) := by
  have HA := Lib.hid ha; clear ha
  have HN := Lib.hid hn; clear hn
  have HU := Lib.hid (iUnsA k h1 h2 w); clear h1 h2
  go_enter Try.func18, Try.ntmps18
  go_wp2_with fail
  refine HU.out.mono ?_
  rintro e w0 ⟨⟨u, rfl, HX⟩, rfl⟩
  clear HU
  have hq := encULen u
  have HE := Lib.hid (iEncA u w)
  obtain ⟨m, hm⟩ : ∃ m, encU u = m := ⟨_, rfl⟩
  rw [hm] at hq HE HX
  have HX' := Lib.hid HX.out.symm
  clear hm HX
  go_wp2_with fail
  refine HE.out.mono ?_
  rintro e w1 ⟨B, q, d, rfl, hqm, o1, b1⟩
  have r1 := o1.rb.1
  have hqb := hq
  rw [hqm.out] at hqb
  go_wp2_with fail
  refine (iJoin2 l m n _ HN.out hqm.out (by omega) A B c d w1 (HA.out.below b1) r1).mono ?_
  rintro e w2 ⟨D, j, f, rfl, hj, o2, b2⟩
  have b3 := stepA b1 (b2.mono (by simp; have := b1.size; omega))
  have o3 := o2.mono (base' := w.heap.size) (by simp; have := b1.size; omega)
  clear o1 o2 b1 b2 r1
  go_wp2
  go_ret
  rw [HX'.out]
  exact ⟨D, j, f, rfl, hj, o3, b3⟩
/-- What lies behind '[]byte(s)'. -/
theorem strB (w : World) (s : ByteArray) (h : s.size ≤ 1000000) : Below w.heap.size w (Lib.bytesWorld w 5 s) ∧ Rb (Lib.bytesWorld w 5 s) (some ⟨w.heap.size, 0, none⟩) (grownCap w s.size 0 5) s.data.toList := by
  refine ⟨⟨rfl, rfl, rfl, by rw [Lib.bytesWorld_size]; omega, fun k hk => Lib.bytesWorld_at_old w _ s k hk⟩, ?_, grownCap_le_maxLen w _ 0 5 (by unfold maxLen; omega), fun _ => ⟨_, rfl, by show w.heap.size < _; rw [Lib.bytesWorld_size]; omega, fun j u hu => ?_⟩⟩
  · simp only [List.length_map, Array.length_toList]
    exact grownCap_ge w _ 0 5
  · rw [List.getElem?_map] at hu
    obtain ⟨x, hx, rfl⟩ := Option.map_eq_some_iff.1 hu
    have hj : j < s.size := by have := (List.getElem?_eq_some_iff.1 hx).1; simpa using this
    rw [Addr.add_lit, Nat.zero_add, Lib.bytesWorld_cell w _ s j hj, List.getD, hx]
    rfl
theorem iAppS (l : List UInt8) (n : Nat) (hn : l.length = n) (hs : n ≤ 100000) (s : ByteArray) (hss : s.size ≤ 100000) (A : Option Addr) (c : Nat) (w : World) (ha : Rb w A c l) :
    Calls Try.prog 27 #[.slice A n c, .string s] w (GivesO (l ++ encL s.size ++ s.data.toList) w) := by
  have HA := Lib.hid ha; clear ha
  have HN := Lib.hid hn; clear hn
  have hq := encULen (s.size : Int)
  have HE := Lib.hid (iEncA (s.size : Int) w)
  rw [encUNat (by omega)] at hq HE
  obtain ⟨m, hm⟩ : ∃ m, encL s.size = m := ⟨_, rfl⟩
  rw [hm] at hq HE ⊢
  clear hm
  have hcv := fun w' : World => Lib.run_convert_string_bytes (P := Try.prog) w' 9 22 5 s Try.underlying9 Try.underlying22 Try.underlying5
  go_enter Try.func27, Try.ntmps27
  go_wp2_with fail
  refine HE.out.mono ?_
  rintro e w1 ⟨B, q, d, rfl, hqm, o1, b1⟩
  have r1 := o1.rb.1
  have hqb := hq
  rw [hqm.out] at hqb
  obtain ⟨b2, r2⟩ := strB w1 s (by omega)
  have hcv1 := hcv w1
  clear hcv
  obtain ⟨w2, hw2⟩ : ∃ w2, Lib.bytesWorld w1 5 s = w2 := ⟨_, rfl⟩
  rw [hw2] at b2 r2 hcv1
  clear hw2
  have b12 := belowThen b1 b2
  go_wp2_with fail
  refine (iJoin3 l m s.data.toList n _ s.size HN.out hqm.out (by simp) (by omega) A B _ c d _ w2 (HA.out.below b12) (r1.below b2) r2).mono ?_
  rintro e w3 ⟨D, j, f, rfl, hj, o2, b3⟩
  have b4 := stepA b12 (b3.mono (by simp; have := b12.size; omega))
  have o3 := o2.mono (base' := w.heap.size) (by simp; have := b12.size; omega)
  clear o1 o2 b1 b2 r1 b3 r2 hcv1
  go_wp2
  go_ret
  exact ⟨D, j, f, rfl, hj, o3, b4⟩
theorem iUint (l : List UInt8) (n : Nat) (hn : l.length = n) (hs : n ≤ 300000) (A : Option Addr) (c : Nat) (w : World) (ha : Rb w A c l) :
    Calls Try.prog 11 #[.slice A n c] w (GivesT (.int .i64 (valU l)) (resU l) (errU l) w) := by
  have HD := Lib.hid (iDec l n hn A c w ha); clear ha
  have hr := resLenLe l
  rw [hn] at hr
  clear hn
  obtain ⟨V, hV⟩ : ∃ V, valU l = V := ⟨_, rfl⟩
  obtain ⟨R, hR⟩ : ∃ R, resU l = R := ⟨_, rfl⟩
  obtain ⟨E, hE⟩ : ∃ E, errU l = E := ⟨_, rfl⟩
  rw [hV, hR, hE] at HD ⊢
  rw [hR] at hr
  clear hV hR hE
  go_enter Try.func11, Try.ntmps11
  go_wp2_with fail
  refine HD.out.mono ?_
  rintro e w1 ⟨B, q, d, rfl, hqR, r1, _, b1⟩
  have hqb := hr
  rw [hqR.out] at hqb
  go_wp2_with fail
  refine (iJoin1 R _ hqR.out (by omega) B d w1 r1).mono ?_
  rintro e w2 ⟨D, j, f, rfl, hj, o2, b2⟩
  have b3 := stepA b1 (b2.mono (by simp; have := b1.size; omega))
  have r2 := o2.rb.1
  clear o2 b1 b2 r1
  go_wp2
  go_ret3
  exact ⟨D, j, f, rfl, hj, r2, b3⟩
theorem iInt (l : List UInt8) (n : Nat) (hn : l.length = n) (hs : n ≤ 300000) (A : Option Addr) (c : Nat) (w : World) (ha : Rb w A c l) :
    Calls Try.prog 13 #[.slice A n c] w (GivesT (.int .i64 (sgn (valU l))) (resU l) (errU l) w) := by
  have HD := Lib.hid (iDec l n hn A c w ha); clear ha
  have hr := resLenLe l
  rw [hn] at hr
  clear hn
  have hV2 := valLeU l
  obtain ⟨V, hV⟩ : ∃ V, valU l = V := ⟨_, rfl⟩
  obtain ⟨R, hR⟩ : ∃ R, resU l = R := ⟨_, rfl⟩
  obtain ⟨E, hE⟩ : ∃ E, errU l = E := ⟨_, rfl⟩
  rw [hV, hR, hE] at HD ⊢
  rw [hV] at hV2
  rw [hR] at hr
  clear hV hR hE
  have HS := Lib.hid (iSig V hV2)
  clear hV2
  go_enter Try.func13, Try.ntmps13
  go_wp2_with fail
  refine HD.out.mono ?_
  rintro e w1 ⟨B, q, d, rfl, hqR, r1, _, b1⟩
  have hqb := hr
  rw [hqR.out] at hqb
  go_wp2_with fail
  refine (HS.out w1).mono ?_
  rintro e w0 ⟨rfl, rfl⟩
  go_wp2_with fail
  refine (iJoin1 R _ hqR.out (by omega) B d w1 r1).mono ?_
  rintro e w2 ⟨D, j, f, rfl, hj, o2, b2⟩
  have b3 := stepA b1 (b2.mono (by simp; have := b1.size; omega))
  have r2 := o2.rb.1
  clear o2 b1 b2 r1
  go_wp2
  go_ret3
  exact ⟨D, j, f, rfl, hj, r2, b3⟩
end Go.Proofs.Ytcbipokohjajoaa
