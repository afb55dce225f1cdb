/-
  The law LexRoundTrip returns true; nothing that was in memory changes.
-/
import Derived.Test.YtnlhkeobfidjkaaDoorLxL4
import Derived.Test.YtnlhkeobfidjkaaDoorLxF
import Derived.Test.YtnlhkeobfidjkaaDoorLxQ
namespace Go.Proofs.YtnlhkeobfidjkaaDoor
open Go Go.RowKit

/-- What the law knows of the tokens of a text. -/
theorem roundFacts {s : ByteArray} {a : List Tok} (hs : s.size ≤ 400) (h : lexT s.data.toList 0 = .ok a) : ∃ u : List UInt8, joinR a = (u, 0) ∧ u.length ≤ s.size + a.length ∧ u.length ≤ 16384 ∧ a.length ≤ 400 ∧ (∀ t ∈ a, t.text.length ≤ 400) ∧ ∃ b, lexT u 0 = .ok b ∧ alike a b := by
  obtain ⟨h1, h2⟩ := lxOk parE parV s.size s.data.toList 0 a (Nat.le_of_eq rfl) h
  have hl : s.data.toList.length = s.size := rfl
  have h3 : ∀ l : List Tok, (∀ t ∈ l, okT parE parV t = true) → l.length ≤ (l.map fun t => t.text.length).sum := by
    intro l hl
    induction l with
    | nil => simp
    | cons t r ih =>
      have := ih fun x hx => hl x (List.mem_cons_of_mem _ hx)
      obtain ⟨c, r', he, _⟩ := okTParts parE parV (hl t (by simp))
      simp [he]; omega
  have h4 : ∀ l : List Tok, ∀ t ∈ l, t.text.length ≤ (l.map fun t => t.text.length).sum := by
    intro l
    induction l with
    | nil => intro t ht; cases ht
    | cons x r ih =>
      intro t ht
      rcases List.mem_cons.1 ht with rfl | ht
      · simp
      · have := ih t ht; simp; omega
  have h5 := jnLen a none
  have h6 := h3 a h1
  obtain ⟨b, hb, hab⟩ := jnScan parE parV a none 0 h1
  have h7 : ∀ i (_ : i < a.length), okB9 a[i] = true := fun i hi => h1 _ (List.getElem_mem hi)
  refine ⟨jn none a, ?_, by omega, by omega, by omega, fun t ht => by have := h4 a t ht; omega, b, hb, hab.symm⟩
  rw [joinOk h7 (by rw [catAll]; omega), catAll]
/-- What the law knows of a list that Join takes. -/
theorem joinScan {l : List Tok} {u : List UInt8} (h : joinR l = (u, 0)) : u.length ≤ 16384 ∧ ∃ b, lexT u 0 = .ok b ∧ alike b l := by
  unfold joinR at h
  split at h
  · rename_i hall
    split at h
    · injection h with _ h; cases h
    · injection h with h _
      obtain ⟨b, hb, hab⟩ := jnScan parE parV l none 0 (fun t ht => List.all_eq_true.1 hall t ht)
      rw [catAll] at h
      subst h
      refine ⟨?_, b, hb, hab⟩
      rw [← catAll]; omega
  · injection h with _ h; cases h
theorem joinErr {l : List Tok} {u : List UInt8} {E : Int} (h : joinR l = (u, E)) (hE : E ≠ 0) : E = 14 ∨ E = 4 := by
  unfold joinR at h
  split at h
  · split at h
    · injection h with _ h; exact .inr h.symm
    · injection h with _ h; exact absurd h.symm hE
  · injection h with _ h; exact .inl h.symm
theorem alikeLen {a b : List Tok} (h : alike a b) : b.length = a.length := by
  have := congrArg List.length h
  simpa using this.symm
set_option maxRecDepth 100000 in
set_option maxHeartbeats 4000000 in
theorem lawRTA (s : ByteArray) (hs : ¬ 400 < s.size) (l : List Tok) (n : Nat) (hn : l.length = n) (hl : ¬ 100 < n) (hT : ∀ t ∈ l, t.text.length ≤ 140737488351232) (A : Option Addr) (c : Nat) (w : World) (hr : Rk w A c l) (hw : Ev w)
    (u : List UInt8) (hx : joinR l = (u, 0)) (x : Int × Nat) (hA : lexT s.data.toList 0 = .error x) : Calls Tryd.prog 6 #[.string s, .slice A n c] w (LawOk9 w) := by
  have HEV := Lib.hid (fun X (hX : Below w.heap.size w X) => hw.stays hX)
  have HEX := Lib.hid (fun X (hX : Below w.heap.size w X) => exOk9 X (hw.stays hX))
  have HJ := Lib.hid (iJoin l n hn (by omega) hT A c w hw hr)
  obtain ⟨h1, b, h2, h3⟩ := joinScan hx
  obtain ⟨S, hS⟩ : ∃ S, bs u = S := ⟨_, rfl⟩
  have hSz : S.size ≤ 16384 := by rw [← hS, bsSize]; exact h1
  have hSl : lexT S.data.toList 0 = .ok b := by rw [← hS, bsTo]; exact h2
  have H2 := Lib.hid (fun X (hX : Below w.heap.size w X) => iScanIs S hSz _ hSl X (HEV.out X hX))
  have HAL := Lib.hid (fun A' c' X r => rAlike b l n ((alikeLen h3).symm.trans hn) hn h3 A' A c' c X r)
  have HR := Lib.hid (fun X (hX : Below w.heap.size w X) => hr.below hX)
  have HBN := Lib.hid (show b.length = n from (alikeLen h3).symm.trans hn)
  rw [hx] at HJ
  have hxx := lexNz hA
  obtain ⟨x1, x2⟩ := x
  have H3 := Lib.hid (fun X (hX : Below w.heap.size w X) => iScanIs s (by omega) _ hA X (HEV.out X hX))
  clear hA
  clear hn hT hr hw hx h1 h2 h3 hSl
  go_enter Tryd.func6, Tryd.ntmps6
  go_wp2_with fail
  refine HJ.out.mono ?_
  rintro e w1 ⟨he, b1⟩
  have he : e = .returned (.tuple #[.string (bs u), .int .i64 0]) := he
  rw [hS] at he
  subst he
  have B1 := b1
  clear b1
  go_wp2_with fail
  refine (H2.out _ B1).mono ?_
  rintro e w2 ⟨b2', A1, n1, c1, rfl, hn1, r1⟩
  obtain rfl : n1 = n := hn1.out.symm.trans HBN.out
  have R1 := r1.alloc (.cells #[.int .i64 0, .int .i64 0] 26)
  have B2 := belowThen B1 (belowThen b2' (belowAlloc _ (.cells #[.int .i64 0, .int .i64 0] 26)))
  clear b2' r1 hn1 B1
  go_wp2_with fail
  refine (HAL.out _ _ _ R1 (HR.out _ B2)).mono ?_
  rintro e w3 ⟨rfl, b3⟩
  have B1 := belowThen B2 b3
  clear B2 b3 R1
  go_wp2_with fail
  refine (H3.out _ B1).mono ?_
  rintro e w4 ⟨b4, rfl⟩
  have B4 := Lib.hid (belowThen B1 (belowThen b4 (belowAlloc _ (.cells #[.int .i64 x1, .int .i64 (x2 : Int)] 26))))
  clear B1 b4
  go_wp2_with fail
  refine (HEX.out _ B4.out).mono ?_
  rintro e w5 ⟨rfl, b5⟩
  go_wp2
  go_ret
  exact ⟨rfl, belowThen B4.out b5⟩
set_option maxRecDepth 100000 in
set_option maxHeartbeats 4000000 in
theorem lawRTB (s : ByteArray) (hs : ¬ 400 < s.size) (l : List Tok) (n : Nat) (hn : l.length = n) (hl : ¬ 100 < n) (hT : ∀ t ∈ l, t.text.length ≤ 140737488351232) (A : Option Addr) (c : Nat) (w : World) (hr : Rk w A c l) (hw : Ev w)
    (u : List UInt8) (hx : joinR l = (u, 0)) (a : List Tok) (hA : lexT s.data.toList 0 = .ok a) : Calls Tryd.prog 6 #[.string s, .slice A n c] w (LawOk9 w) := by
  have HEV := Lib.hid (fun X (hX : Below w.heap.size w X) => hw.stays hX)
  have HEX := Lib.hid (fun X (hX : Below w.heap.size w X) => exOk9 X (hw.stays hX))
  have HJ := Lib.hid (iJoin l n hn (by omega) hT A c w hw hr)
  obtain ⟨h1, b, h2, h3⟩ := joinScan hx
  obtain ⟨S, hS⟩ : ∃ S, bs u = S := ⟨_, rfl⟩
  have hSz : S.size ≤ 16384 := by rw [← hS, bsSize]; exact h1
  have hSl : lexT S.data.toList 0 = .ok b := by rw [← hS, bsTo]; exact h2
  have H2 := Lib.hid (fun X (hX : Below w.heap.size w X) => iScanIs S hSz _ hSl X (HEV.out X hX))
  have HAL := Lib.hid (fun A' c' X r => rAlike b l n ((alikeLen h3).symm.trans hn) hn h3 A' A c' c X r)
  have HR := Lib.hid (fun X (hX : Below w.heap.size w X) => hr.below hX)
  have HBN := Lib.hid (show b.length = n from (alikeLen h3).symm.trans hn)
  rw [hx] at HJ
  obtain ⟨u2, g1, g2, g3, g4, g5, b2, g6, g7⟩ := roundFacts (by omega) hA
  obtain ⟨m, hm⟩ : ∃ m, a.length = m := ⟨_, rfl⟩
  obtain ⟨S2, hS2⟩ : ∃ S2, bs u2 = S2 := ⟨_, rfl⟩
  have hS2z : S2.size ≤ 16384 := by rw [← hS2, bsSize]; exact g3
  have hS2l : lexT S2.data.toList 0 = .ok b2 := by rw [← hS2, bsTo]; exact g6
  have hS2s : S2.size ≤ s.size + m := by rw [← hS2, bsSize, ← hm]; exact g2
  have hsm : s.size + m ≤ 9223372036854775807 := by omega
  have H3 := Lib.hid (fun X (hX : Below w.heap.size w X) => iScanIs s (by omega) _ hA X (HEV.out X hX))
  have H4 := Lib.hid (fun A' c' X (hX : Below w.heap.size w X) r => iJoin a m hm (by omega) (fun t ht => by have := g5 t ht; omega) A' c' X (HEV.out X hX) r)
  have H5 := Lib.hid (fun X (hX : Below w.heap.size w X) => iScanIs S2 hS2z _ hS2l X (HEV.out X hX))
  have HA2 := Lib.hid (fun A' B' c' d' X r1 r2 => rAlike a b2 m hm ((alikeLen g7).trans hm) g7 A' B' c' d' X r1 r2)
  have HBM := Lib.hid (show b2.length = m from (alikeLen g7).trans hm)
  have HM := Lib.hid hm
  rw [g1] at H4
  clear g1 g2 g4 g5 g6 g7 hm hS2l hA
  clear hn hT hr hw hx h1 h2 h3 hSl
  go_enter Tryd.func6, Tryd.ntmps6
  go_wp2_with fail
  refine HJ.out.mono ?_
  rintro e w1 ⟨he, b1⟩
  have he : e = .returned (.tuple #[.string (bs u), .int .i64 0]) := he
  rw [hS] at he
  subst he
  have B1 := b1
  clear b1
  go_wp2_with fail
  refine (H2.out _ B1).mono ?_
  rintro e w2 ⟨b2', A1, n1, c1, rfl, hn1, r1⟩
  obtain rfl : n1 = n := hn1.out.symm.trans HBN.out
  have R1 := r1.alloc (.cells #[.int .i64 0, .int .i64 0] 26)
  have B2 := belowThen B1 (belowThen b2' (belowAlloc _ (.cells #[.int .i64 0, .int .i64 0] 26)))
  clear b2' r1 hn1 B1
  go_wp2_with fail
  refine (HAL.out _ _ _ R1 (HR.out _ B2)).mono ?_
  rintro e w3 ⟨rfl, b3⟩
  have B1 := belowThen B2 b3
  clear B2 b3 R1
  go_wp2_with fail
  refine (H3.out _ B1).mono ?_
  rintro e w4 ⟨b4, A1, m1, c1, rfl, hm1, r1⟩
  obtain rfl : m1 = m := hm1.out.symm.trans HM.out
  have R1 := r1.alloc (.cells #[.int .i64 0, .int .i64 0] 26)
  have B4 := belowThen B1 (belowThen b4 (belowAlloc _ (.cells #[.int .i64 0, .int .i64 0] 26)))
  clear b4 r1 hm1 B1
  go_wp2_with fail
  refine (H4.out _ _ _ B4 R1).mono ?_
  rintro e w5 ⟨he, b5⟩
  have he : e = .returned (.tuple #[.string (bs u2), .int .i64 0]) := he
  rw [hS2] at he
  subst he
  have R2 := R1.below b5
  have B5 := belowThen B4 b5
  clear R1 B4 b5
  go_wp2_with fail
  refine (H5.out _ B5).mono ?_
  rintro e w6 ⟨b6, A2, m2, c2, rfl, hm2, r2⟩
  obtain rfl : m2 = m1 := hm2.out.symm.trans HBM.out
  have R3 := (R2.below b6).alloc (.cells #[.int .i64 0, .int .i64 0] 26)
  have R4 := r2.alloc (.cells #[.int .i64 0, .int .i64 0] 26)
  have B6 := belowThen B5 (belowThen b6 (belowAlloc _ (.cells #[.int .i64 0, .int .i64 0] 26)))
  clear R2 r2 B5 b6 hm2
  go_wp2_with fail
  refine (HA2.out _ _ _ _ _ R3 R4).mono ?_
  rintro e w7 ⟨rfl, b7⟩
  have B7 := Lib.hid (belowThen B6 b7)
  clear B6 b7 R3 R4
  go_wp2_with fail
  refine (HEX.out _ B7.out).mono ?_
  rintro e w8 ⟨rfl, b8⟩
  go_wp2
  go_ret
  exact ⟨rfl, belowThen B7.out b8⟩
set_option maxRecDepth 100000 in
set_option maxHeartbeats 4000000 in
theorem lawRTC (s : ByteArray) (hs : ¬ 400 < s.size) (l : List Tok) (n : Nat) (hn : l.length = n) (hl : ¬ 100 < n) (hT : ∀ t ∈ l, t.text.length ≤ 140737488351232) (A : Option Addr) (c : Nat) (w : World) (hr : Rk w A c l) (hw : Ev w)
    (u : List UInt8) (E : Int) (hx : joinR l = (u, E)) (hE0 : ¬ E = 0) (x : Int × Nat) (hA : lexT s.data.toList 0 = .error x) : Calls Tryd.prog 6 #[.string s, .slice A n c] w (LawOk9 w) := by
  have HEV := Lib.hid (fun X (hX : Below w.heap.size w X) => hw.stays hX)
  have HEX := Lib.hid (fun X (hX : Below w.heap.size w X) => exOk9 X (hw.stays hX))
  have HJ := Lib.hid (iJoin l n hn (by omega) hT A c w hw hr)
  have hE : (E == 0) = false := by simpa using hE0
  rw [hx] at HJ
  obtain ⟨S, hS⟩ : ∃ S, bs u = S := ⟨_, rfl⟩
  have hxx := lexNz hA
  obtain ⟨x1, x2⟩ := x
  have H3 := Lib.hid (fun X (hX : Below w.heap.size w X) => iScanIs s (by omega) _ hA X (HEV.out X hX))
  clear hA
  clear hn hT hr hw hx hE0
  go_enter Tryd.func6, Tryd.ntmps6
  go_wp2_with fail
  refine HJ.out.mono ?_
  rintro e w1 ⟨he, b1⟩
  have he : e = .returned (.tuple #[.string (bs u), .int .i64 E]) := he
  rw [hS] at he
  subst he
  have B1 := b1
  clear b1
  go_wp2_with fail
  refine (H3.out _ B1).mono ?_
  rintro e w4 ⟨b4, rfl⟩
  have B4 := Lib.hid (belowThen B1 (belowThen b4 (belowAlloc _ (.cells #[.int .i64 x1, .int .i64 (x2 : Int)] 26))))
  clear B1 b4
  go_wp2_with fail
  refine (HEX.out _ B4.out).mono ?_
  rintro e w5 ⟨rfl, b5⟩
  go_wp2
  go_ret
  exact ⟨rfl, belowThen B4.out b5⟩
set_option maxRecDepth 100000 in
set_option maxHeartbeats 4000000 in
theorem lawRTD (s : ByteArray) (hs : ¬ 400 < s.size) (l : List Tok) (n : Nat) (hn : l.length = n) (hl : ¬ 100 < n) (hT : ∀ t ∈ l, t.text.length ≤ 140737488351232) (A : Option Addr) (c : Nat) (w : World) (hr : Rk w A c l) (hw : Ev w)
    (u : List UInt8) (E : Int) (hx : joinR l = (u, E)) (hE0 : ¬ E = 0) (a : List Tok) (hA : lexT s.data.toList 0 = .ok a) : Calls Tryd.prog 6 #[.string s, .slice A n c] w (LawOk9 w) := by
  have HEV := Lib.hid (fun X (hX : Below w.heap.size w X) => hw.stays hX)
  have HEX := Lib.hid (fun X (hX : Below w.heap.size w X) => exOk9 X (hw.stays hX))
  have HJ := Lib.hid (iJoin l n hn (by omega) hT A c w hw hr)
  have hE : (E == 0) = false := by simpa using hE0
  rw [hx] at HJ
  obtain ⟨S, hS⟩ : ∃ S, bs u = S := ⟨_, rfl⟩
  obtain ⟨u2, g1, g2, g3, g4, g5, b2, g6, g7⟩ := roundFacts (by omega) hA
  obtain ⟨m, hm⟩ : ∃ m, a.length = m := ⟨_, rfl⟩
  obtain ⟨S2, hS2⟩ : ∃ S2, bs u2 = S2 := ⟨_, rfl⟩
  have hS2z : S2.size ≤ 16384 := by rw [← hS2, bsSize]; exact g3
  have hS2l : lexT S2.data.toList 0 = .ok b2 := by rw [← hS2, bsTo]; exact g6
  have hS2s : S2.size ≤ s.size + m := by rw [← hS2, bsSize, ← hm]; exact g2
  have hsm : s.size + m ≤ 9223372036854775807 := by omega
  have H3 := Lib.hid (fun X (hX : Below w.heap.size w X) => iScanIs s (by omega) _ hA X (HEV.out X hX))
  have H4 := Lib.hid (fun A' c' X (hX : Below w.heap.size w X) r => iJoin a m hm (by omega) (fun t ht => by have := g5 t ht; omega) A' c' X (HEV.out X hX) r)
  have H5 := Lib.hid (fun X (hX : Below w.heap.size w X) => iScanIs S2 hS2z _ hS2l X (HEV.out X hX))
  have HA2 := Lib.hid (fun A' B' c' d' X r1 r2 => rAlike a b2 m hm ((alikeLen g7).trans hm) g7 A' B' c' d' X r1 r2)
  have HBM := Lib.hid (show b2.length = m from (alikeLen g7).trans hm)
  have HM := Lib.hid hm
  rw [g1] at H4
  clear g1 g2 g4 g5 g6 g7 hm hS2l hA
  clear hn hT hr hw hx hE0
  go_enter Tryd.func6, Tryd.ntmps6
  go_wp2_with fail
  refine HJ.out.mono ?_
  rintro e w1 ⟨he, b1⟩
  have he : e = .returned (.tuple #[.string (bs u), .int .i64 E]) := he
  rw [hS] at he
  subst he
  have B1 := b1
  clear b1
  go_wp2_with fail
  refine (H3.out _ B1).mono ?_
  rintro e w4 ⟨b4, A1, m1, c1, rfl, hm1, r1⟩
  obtain rfl : m1 = m := hm1.out.symm.trans HM.out
  have R1 := r1.alloc (.cells #[.int .i64 0, .int .i64 0] 26)
  have B4 := belowThen B1 (belowThen b4 (belowAlloc _ (.cells #[.int .i64 0, .int .i64 0] 26)))
  clear b4 r1 hm1 B1
  go_wp2_with fail
  refine (H4.out _ _ _ B4 R1).mono ?_
  rintro e w5 ⟨he, b5⟩
  have he : e = .returned (.tuple #[.string (bs u2), .int .i64 0]) := he
  rw [hS2] at he
  subst he
  have R2 := R1.below b5
  have B5 := belowThen B4 b5
  clear R1 B4 b5
  go_wp2_with fail
  refine (H5.out _ B5).mono ?_
  rintro e w6 ⟨b6, A2, m2, c2, rfl, hm2, r2⟩
  obtain rfl : m2 = m1 := hm2.out.symm.trans HBM.out
  have R3 := (R2.below b6).alloc (.cells #[.int .i64 0, .int .i64 0] 26)
  have R4 := r2.alloc (.cells #[.int .i64 0, .int .i64 0] 26)
  have B6 := belowThen B5 (belowThen b6 (belowAlloc _ (.cells #[.int .i64 0, .int .i64 0] 26)))
  clear R2 r2 B5 b6 hm2
  go_wp2_with fail
  refine (HA2.out _ _ _ _ _ R3 R4).mono ?_
  rintro e w7 ⟨rfl, b7⟩
  have B7 := Lib.hid (belowThen B6 b7)
  clear B6 b7 R3 R4
  go_wp2_with fail
  refine (HEX.out _ B7.out).mono ?_
  rintro e w8 ⟨rfl, b8⟩
  go_wp2
  go_ret
  exact ⟨rfl, belowThen B7.out b8⟩
theorem lawRoundTrip (s : ByteArray) (l : List Tok) (n : Nat) (hn : l.length = n) (hT : ∀ t ∈ l, t.text.length ≤ 140737488351232) (A : Option Addr) (c : Nat) (w : World) (hr : Rk w A c l) (hw : Ev w) :
    Calls Tryd.prog 6 #[.string s, .slice A n c] w (LawOk9 w) := by
  have HEX := Lib.hid (fun X (hX : Below w.heap.size w X) => exOk9 X (hw.stays hX))
  by_cases hs : 400 < s.size
  · clear hn hT hr hw
    go_enter Tryd.func6, Tryd.ntmps6
    go_wp2_with fail
    refine (HEX.out _ (Below.refl _ _)).mono ?_
    rintro e w' ⟨rfl, b⟩
    go_wp2
    go_ret
    exact ⟨rfl, b⟩
  by_cases hl : 100 < n
  · have h2 : (100 : Int) < n := by omega
    clear hn hT hr hw
    go_enter Tryd.func6, Tryd.ntmps6
    go_wp2_with fail
    refine (HEX.out _ (Below.refl _ _)).mono ?_
    rintro e w' ⟨rfl, b⟩
    go_wp2
    go_ret
    exact ⟨rfl, b⟩
  clear HEX
  obtain ⟨⟨u, E⟩, hx⟩ : ∃ x, joinR l = x := ⟨_, rfl⟩
  by_cases hE : E = 0
  · subst hE
    rcases hA : lexT s.data.toList 0 with ⟨x⟩ | ⟨a⟩
    · exact lawRTA s hs l n hn hl hT A c w hr hw u hx x hA
    · exact lawRTB s hs l n hn hl hT A c w hr hw u hx a hA
  · rcases hA : lexT s.data.toList 0 with ⟨x⟩ | ⟨a⟩
    · exact lawRTC s hs l n hn hl hT A c w hr hw u E hx hE x hA
    · exact lawRTD s hs l n hn hl hT A c w hr hw u E hx hE a hA
end Go.Proofs.YtnlhkeobfidjkaaDoor
