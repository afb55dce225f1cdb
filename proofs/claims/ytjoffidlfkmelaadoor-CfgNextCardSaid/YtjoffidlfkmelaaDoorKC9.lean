/-
  The statements' own example: exampleHolds returns true.
-/
import Derived.Test.YtjoffidlfkmelaaDoorCfLo
import Derived.Test.YtjoffidlfkmelaaDoorKC8
import Derived.Test.YtjoffidlfkmelaaDoorKR
import Derived.Test.YtjoffidlfkmelaaDoorKC5
import Derived.Test.YtjoffidlfkmelaaDoorKC6
import Derived.Test.YtjoffidlfkmelaaDoorKOp
import Derived.Test.YtjoffidlfkmelaaDoorKC1
namespace Go.Proofs.YtjoffidlfkmelaaDoor
open Go Go.RowKit Go.Shelf

def LawOkC (w : World) (e : Ending) (w' : World) : Prop := e = .returned (.bool true) ∧ Below w.heap.size w w'
theorem sm64c (n : Int) (h1 : -1000 ≤ n) (h2 : n ≤ 1000) : In64 n := ⟨by omega, by omega⟩
theorem wfSmallC (i : I8) (h : (decide (-1000 ≤ i.op ∧ i.op ≤ 1000) && decide (-1000 ≤ i.a ∧ i.a ≤ 1000) && decide (-1000 ≤ i.b ∧ i.b ≤ 1000) && decide (-1000 ≤ i.c ∧ i.c ≤ 1000) && decide (-1000 ≤ i.obj ∧ i.obj ≤ 1000) && decide (-1000 ≤ i.n ∧ i.n ≤ 1000) && decide (-1000 ≤ i.fn ∧ i.fn ≤ 1000) && decide (-1000 ≤ i.ord ∧ i.ord ≤ 1000)) = true) : i.Wf := by
  simp only [Bool.and_eq_true, decide_eq_true_eq] at h
  obtain ⟨⟨⟨⟨⟨⟨⟨h0, h1⟩, h2⟩, h3⟩, h4⟩, h5⟩, h6⟩, h7⟩ := h
  exact ⟨sm64c _ h0.1 h0.2, sm64c _ h1.1 h1.2, sm64c _ h2.1 h2.2, sm64c _ h3.1 h3.2, sm64c _ h4.1 h4.2, sm64c _ h5.1 h5.2, sm64c _ h6.1 h6.2, sm64c _ h7.1 h7.2⟩
theorem two9 (W : World) (o1 o2 : Obj) {Z : World} (hZ : (W.alloc o1).alloc o2 = Z) : Z.heap[W.heap.size]? = some o1 ∧ Z.heap[W.heap.size + 1]? = some o2 ∧ Below W.heap.size W Z := by
  subst hZ
  refine ⟨((belowAlloc (W.alloc o1) o2).block W.heap.size (by simp)).trans (World.alloc_heap_new W o1), ?_, belowThen (belowAlloc _ _) (belowAlloc _ _)⟩
  have h := World.alloc_heap_new (W.alloc o1) o2
  rwa [World.size_alloc] at h
theorem exWf : ∀ i ∈ exC, i.Wf := by
  intro i hi
  unfold exC at hi
  simp only [List.mem_cons, List.not_mem_nil, or_false] at hi
  rcases hi with rfl | rfl | rfl | rfl <;> exact wfSmallC _ (by decide)
set_option maxRecDepth 100000 in
set_option maxHeartbeats 8000000 in
theorem exHolds (w : World) (hL : Laid7 w) : Calls Tryd.prog 8 #[] w (LawOkC w) := by
  obtain ⟨W, hW⟩ : ∃ W, (w.alloc (.cells #[.int .i64 1, .int .i64 0, .int .i64 0, .int .i64 0, .int .i64 0, .int .i64 1, .int .i64 0, .int .i64 0, .int .i64 5, .int .i64 0, .int .i64 0, .int .i64 0, .int .i64 0, .int .i64 3, .int .i64 0, .int .i64 0, .int .i64 4, .int .i64 0, .int .i64 0, .int .i64 0, .int .i64 0, .int .i64 1, .int .i64 0, .int .i64 0, .int .i64 7, .int .i64 0, .int .i64 0, .int .i64 0, .int .i64 0, .int .i64 0, .int .i64 0, .int .i64 0] 46)).alloc (.cells #[.string ⟨#[]⟩, .slice (some ⟨w.heap.size, 0, none⟩) 4 4] 24) = W := ⟨_, rfl⟩
  obtain ⟨h1, h2, hbW⟩ := two9 w _ _ hW
  have b1 : Blk W w.heap.size 46 _ := h1
  have b2 : Blk W (w.heap.size + 1) 24 #[.string ⟨#[]⟩, .slice (some ⟨w.heap.size, 0, none⟩) 4 4] := h2
  have hrd : RdE 8 EI W (some ⟨w.heap.size, 0, none⟩) 4 exC := ⟨Nat.le_refl _, by decide, fun _ => ⟨_, 0, rfl, b1.lt, fun j hj => by
    have hj' : j < 4 := hj
    have hc : j = 0 ∨ j = 1 ∨ j = 2 ∨ j = 3 := by omega
    rcases hc with rfl | rfl | rfl | rfl
    · exact ⟨b1.cell 0, b1.cell 1, b1.cell 2, b1.cell 3, b1.cell 4, b1.cell 5, b1.cell 6, b1.cell 7⟩
    · exact ⟨b1.cell 8, b1.cell 9, b1.cell 10, b1.cell 11, b1.cell 12, b1.cell 13, b1.cell 14, b1.cell 15⟩
    · exact ⟨b1.cell 16, b1.cell 17, b1.cell 18, b1.cell 19, b1.cell 20, b1.cell 21, b1.cell 22, b1.cell 23⟩
    · exact ⟨b1.cell 24, b1.cell 25, b1.cell 26, b1.cell 27, b1.cell 28, b1.cell 29, b1.cell 30, b1.cell 31⟩⟩⟩
  have hcd : CdW W (some ⟨w.heap.size, 0, none⟩) 4 exC := ⟨hrd, exWf, hL.below hbW⟩
  have HCD := Lib.hid (fun X (hX : Below W.heap.size W X) => hcd.below hX)
  have HK := Lib.hid (fun X (hX : Below W.heap.size W X) => (⟨(b2.below' hX).cell 0, (b2.below' hX).cell 1⟩ : X.cell? ⟨w.heap.size + 1, 0, none⟩ = some (.string ⟨#[]⟩) ∧ X.cell? ⟨w.heap.size + 1, 1, none⟩ = some (.slice (some ⟨w.heap.size, 0, none⟩) 4 4)))
  have HW := Lib.hid hW
  have HBW := Lib.hid hbW
  have HN1 := Lib.hid (fun X (hX : Below W.heap.size W X) => iNext ⟨#[]⟩ exC 4 rfl 1 (some ⟨w.heap.size, 0, none⟩) 4 X (hcd.below hX))
  have HN4 := Lib.hid (fun X (hX : Below W.heap.size W X) => iNext ⟨#[]⟩ exC 4 rfl 4 (some ⟨w.heap.size, 0, none⟩) 4 X (hcd.below hX))
  have HLD := Lib.hid (fun X (hX : Below W.heap.size W X) => iLeaders ⟨#[]⟩ exC 4 rfl (some ⟨w.heap.size, 0, none⟩) 4 X (hcd.below hX))
  have HDO := Lib.hid (fun X (hX : Below W.heap.size W X) => iDominators ⟨#[]⟩ exC 4 rfl (some ⟨w.heap.size, 0, none⟩) 4 X (hcd.below hX))
  have HLO := Lib.hid (fun X (hX : Below W.heap.size W X) => iLoops ⟨#[]⟩ exC 4 rfl (some ⟨w.heap.size, 0, none⟩) 4 X (hcd.below hX))
  rw [exNx, exNx0] at HN1
  rw [exNx4] at HN4
  rw [exLd, exE] at HLD
  rw [exDo, exE] at HDO
  rw [exLp, exE] at HLO
  unfold fnV at HN1 HN4 HLD HDO HLO
  have k2 := HK.out W (Below.refl _ _)
  clear h1 h2 b1 b2 hrd hcd hbW hL hW
  obtain ⟨k0, k1⟩ := k2
  go_enter Tryd.func8, Tryd.ntmps8
  go_wp2_with fail
  rw [HW.out]
  refine (HN1.out _ (Below.refl _ _)).mono ?_
  rintro e w1 ⟨Aa, ca, he, ra, b1⟩
  have he : e = .returned (.tuple #[.slice Aa 2 ca, .int .i64 0]) := he
  subst he
  have HB1 := Lib.hid b1
  have HRa := Lib.hid ra
  clear k0 k1 b1 ra
  obtain ⟨k0, k1⟩ := HK.out w1 HB1.out
  go_wp2_with fail
  refine (HLD.out _ HB1.out).mono ?_
  rintro e w2 ⟨Ab, cb, he, rb, b2⟩
  have he : e = .returned (.tuple #[.slice Ab 4 cb, .int .i64 0]) := he
  subst he
  have HB2 := Lib.hid (belowThen HB1.out b2)
  have HRa := Lib.hid (Rd.below HRa.out b2)
  have HRb := Lib.hid rb
  clear k0 k1 b2 rb
  obtain ⟨k0, k1⟩ := HK.out w2 HB2.out
  go_wp2_with fail
  refine (HDO.out _ HB2.out).mono ?_
  rintro e w3 ⟨Ac, cc, he, rc, b3⟩
  have he : e = .returned (.tuple #[.slice Ac 4 cc, .int .i64 0]) := he
  subst he
  have HB3 := Lib.hid (belowThen HB2.out b3)
  have HRa := Lib.hid (Rd.below HRa.out b3)
  have HRb := Lib.hid (Rd.below HRb.out b3)
  have HRc := Lib.hid rc
  clear k0 k1 b3 rc
  obtain ⟨k0, k1⟩ := HK.out w3 HB3.out
  go_wp2_with fail
  refine (HLO.out _ HB3.out).mono ?_
  rintro e w4 ⟨Ad, cd, he, rd, b4⟩
  have he : e = .returned (.tuple #[.slice Ad 1 cd, .int .i64 0]) := he
  subst he
  have HB4 := Lib.hid (belowThen HB3.out b4)
  have HRa := Lib.hid (Rd.below HRa.out b4)
  have HRb := Lib.hid (Rd.below HRb.out b4)
  have HRc := Lib.hid (Rd.below HRc.out b4)
  have HRd := Lib.hid rd
  clear k0 k1 b4 rd
  obtain ⟨k0, k1⟩ := HK.out w4 HB4.out
  go_wp2_with fail
  refine (HN4.out _ HB4.out).mono ?_
  rintro e w5 ⟨Ae, ce, he, _, b5⟩
  obtain ⟨ne, he⟩ : ∃ ne, e = .returned (.tuple #[.slice Ae ne ce, .int .i64 2]) := ⟨_, he⟩
  subst he
  have HB5 := Lib.hid (belowThen HB4.out b5)
  have HRa := Lib.hid (Rd.below HRa.out b5)
  have HRb := Lib.hid (Rd.below HRb.out b5)
  have HRc := Lib.hid (Rd.below HRc.out b5)
  have HRd := Lib.hid (HRd.out.below b5)
  have hld := HRd.out.le
  have hmd := HRd.out.max
  unfold maxLen at hmd
  have hld : 1 ≤ cd := hld
  clear k0 k1 b5
  go_wp2_with fail
  refine (intsEq [2, 3] 2 2 rfl rfl Aa _ ca _ _ (Rd.below HRa.out (belowAlloc _ _)) (Rd.lit _ [2, 3] 3 (by simp))).mono ?_
  rintro e w6 ⟨rfl, b6⟩
  have HB6 := Lib.hid (belowThen HB5.out (belowThen (belowAlloc _ _) b6))
  have HS6 := Lib.hid (belowThen (belowAlloc w5 _) b6)
  have HRb := Lib.hid (Rd.below HRb.out HS6.out)
  have HRc := Lib.hid (Rd.below HRc.out HS6.out)
  have HRd := Lib.hid (HRd.out.below HS6.out)
  clear b6
  go_wp2_with fail
  refine (intsEq [0, 1, 2, 3] 4 4 rfl rfl Ab _ cb _ _ (Rd.below HRb.out (belowAlloc _ _)) (Rd.lit _ [0, 1, 2, 3] 3 (by simp))).mono ?_
  rintro e w7 ⟨rfl, b7⟩
  have HS7 := Lib.hid (belowThen (belowAlloc w6 _) b7)
  have HB7 := Lib.hid (belowThen HB6.out HS7.out)
  have HRc := Lib.hid (Rd.below HRc.out HS7.out)
  have HRd := Lib.hid (HRd.out.below HS7.out)
  clear b7
  go_wp2_with fail
  refine (intsEq [-1, 0, 1, 1] 4 4 rfl rfl Ac _ cc _ _ (Rd.below HRc.out (belowAlloc _ _)) (Rd.lit _ [-1, 0, 1, 1] 3 (by simp))).mono ?_
  rintro e w8 ⟨rfl, b8⟩
  have HS8 := Lib.hid (belowThen (belowAlloc w7 _) b8)
  have HB8 := Lib.hid (belowThen HB7.out HS8.out)
  have hrd8 := HRd.out.below HS8.out
  obtain ⟨add, Ad', cd', rfl, hcd, hrr⟩ := hrd8.one (k := 0) (by decide)
  have hcd : w8.cell? add = some (.slice Ad' 2 cd') := hcd
  have hrr : Rd w8 Ad' cd' [1, 2] := hrr
  have HRR := Lib.hid hrr
  clear b8 hrd8 hrr
  go_wp2_with fail
  refine (intsEq [1, 2] 2 2 rfl rfl Ad' _ cd' _ _ (Rd.below HRR.out (belowAlloc _ _)) (Rd.lit _ [1, 2] 3 (by simp))).mono ?_
  rintro e w9 ⟨rfl, b9⟩
  have HS9 := Lib.hid (belowThen (belowAlloc w8 _) b9)
  have HB9 := Lib.hid (belowThen HB8.out HS9.out)
  clear b9
  go_wp2
  go_ret
  exact ⟨rfl, belowThen HBW.out HB9.out⟩
end Go.Proofs.YtjoffidlfkmelaaDoor

namespace Go.Proofs.YtjoffidlfkmelaaDoor
open Go Go.RowKit Go.Shelf

def GivesEq (l : List Int) (q : Nat) (k : Int) (w : World) (e : Ending) (w' : World) : Prop := ∃ A c, e = .returned (.tuple #[.slice A q c, .int .i64 k]) ∧ Rd w' A c l ∧ Below w.heap.size w w'
def GivesQq (l : List (List Int)) (q : Nat) (k : Int) (w : World) (e : Ending) (w' : World) : Prop := ∃ A c, e = .returned (.tuple #[.slice A q c, .int .i64 k]) ∧ RdL w' A c l ∧ Below w.heap.size w w'
theorem toEq {l : List Int} {q : Nat} {k : Int} {w w' : World} {e : Ending} (hq : l.length = q) (h : GivesE9 l k w e w') : GivesEq l q k w e w' := by
  subst hq; exact h
theorem toQq {l : List (List Int)} {q : Nat} {k : Int} {w w' : World} {e : Ending} (hq : l.length = q) (h : GivesQ9 l k w e w') : GivesQq l q k w e w' := by
  subst hq; exact h
set_option maxRecDepth 100000 in
set_option maxHeartbeats 8000000 in
theorem lawNext (nm : ByteArray) (C : List I8) (n : Nat) (hn : C.length = n) (x : Int) (A : Option Addr) (c : Nat) (w : World) (h : CdW w A c C) :
    Calls Tryd.prog 3 #[fnV nm A n c, .int .i64 x] w (LawOkC w) := by
  obtain ⟨W, hW⟩ : ∃ W, w.alloc (.cells #[.string nm, .slice A n c] 24) = W := ⟨_, rfl⟩
  have hbW : Below w.heap.size w W := by rw [← hW]; exact belowAlloc w _
  have hB : Blk W w.heap.size 24 #[.string nm, .slice A n c] := by rw [← hW]; exact Blk.new w _ _
  have k0 : W.cell? ⟨w.heap.size, 0, none⟩ = some (.string nm) := hB.cell 0
  have k1 : W.cell? ⟨w.heap.size, 1, none⟩ = some (.slice A n c) := hB.cell 1
  have HK := Lib.hid (fun X (hX : Below W.heap.size W X) => (⟨(hB.below' hX).cell 0, (hB.below' hX).cell 1⟩ : X.cell? ⟨w.heap.size, 0, none⟩ = some (.string nm) ∧ X.cell? ⟨w.heap.size, 1, none⟩ = some (.slice A n c)))
  have hcd := h.below hbW
  have HEX := Lib.hid (fun X (hX : Below W.heap.size W X) => exHolds X (hcd.ld.below hX))
  have HI := Lib.hid (fun X (hX : Below W.heap.size W X) => iNext nm C n hn x A c X (hcd.below hX))
  have HR := Lib.hid (fun X (hX : Below W.heap.size W X) => rNx12 nm C n hn x A c X (hcd.below hX))
  have HW := Lib.hid hW
  have HBW := Lib.hid hbW
  have hle := h.rd.le
  have hmx := h.rd.max
  rw [hn] at hle
  unfold maxLen at hmx
  unfold fnV at HI HR ⊢
  obtain ⟨l, hl⟩ : ∃ l, nxR C x = l := ⟨_, rfl⟩
  obtain ⟨E, hE⟩ : ∃ E, nxE C x = E := ⟨_, rfl⟩
  rw [hl, hE] at HI HR
  obtain ⟨q, hq⟩ : ∃ q, l.length = q := ⟨_, rfl⟩
  have HQ := Lib.hid hq
  have HI := Lib.hid (fun X hX => (HI.out X hX).mono fun e w' h => toEq hq h)
  have HR := Lib.hid (fun X hX => (HR.out X hX).mono fun e w' h => toEq hq h)
  have hee : (E == E) = true := by simp
  clear h hB hW hbW hcd hl hE hq
  by_cases hbig : 30 < n ∧ n ≤ 64
  · have d1 : decide ((30 : Int) < (n : Int)) = true := decide_eq_true (by omega)
    have d2 : decide ((n : Int) ≤ 64) = true := decide_eq_true (by omega)
    go_enter Tryd.func3, Tryd.ntmps3
    go_wp2_with fail
    all_goals first
      | (exfalso; omega)
      | skip
    rw [HW.out]
    refine (HEX.out _ (Below.refl _ _)).mono ?_
    rintro e w1 ⟨rfl, b1⟩
    go_wp2
    go_ret
    exact ⟨rfl, belowThen HBW.out b1⟩
  · go_enter Tryd.func3, Tryd.ntmps3
    go_wp2_with fail
    all_goals first
      | (exfalso; omega)
      | skip
    all_goals (
      rw [HW.out]
      refine (HI.out _ (Below.refl _ _)).mono ?_
      rintro e w1 ⟨Aa, ca, rfl, ra, b1⟩
      have HB1 := Lib.hid b1
      have HRa := Lib.hid ra
      clear b1 ra
      obtain ⟨m0, m1⟩ := HK.out w1 HB1.out
      go_wp2_with fail
      refine (HR.out _ HB1.out).mono ?_
      rintro e w2 ⟨Ab, cb, rfl, rb, b2⟩
      have HB2 := Lib.hid (belowThen HB1.out b2)
      have HRa2 := Lib.hid (Rd.below HRa.out b2)
      have HRb := Lib.hid rb
      clear b2 rb
      go_wp2_with fail
      refine (intsEq l q q HQ.out HQ.out Aa Ab ca cb _ HRa2.out HRb.out).mono ?_
      rintro e w3 ⟨rfl, b3⟩
      have HB3 := Lib.hid (belowThen HB2.out b3)
      clear b3
      go_wp2_with fail
      refine (HEX.out _ HB3.out).mono ?_
      rintro e w4 ⟨rfl, b4⟩
      go_wp2
      go_ret
      exact ⟨rfl, belowThen HBW.out (belowThen HB3.out b4)⟩)
set_option maxRecDepth 100000 in
set_option maxHeartbeats 8000000 in
theorem lawLeaders (nm : ByteArray) (C : List I8) (n : Nat) (hn : C.length = n) (A : Option Addr) (c : Nat) (w : World) (h : CdW w A c C) :
    Calls Tryd.prog 4 #[fnV nm A n c] w (LawOkC w) := by
  obtain ⟨W, hW⟩ : ∃ W, w.alloc (.cells #[.string nm, .slice A n c] 24) = W := ⟨_, rfl⟩
  have hbW : Below w.heap.size w W := by rw [← hW]; exact belowAlloc w _
  have hB : Blk W w.heap.size 24 #[.string nm, .slice A n c] := by rw [← hW]; exact Blk.new w _ _
  have k0 : W.cell? ⟨w.heap.size, 0, none⟩ = some (.string nm) := hB.cell 0
  have k1 : W.cell? ⟨w.heap.size, 1, none⟩ = some (.slice A n c) := hB.cell 1
  have HK := Lib.hid (fun X (hX : Below W.heap.size W X) => (⟨(hB.below' hX).cell 0, (hB.below' hX).cell 1⟩ : X.cell? ⟨w.heap.size, 0, none⟩ = some (.string nm) ∧ X.cell? ⟨w.heap.size, 1, none⟩ = some (.slice A n c)))
  have hcd := h.below hbW
  have HEX := Lib.hid (fun X (hX : Below W.heap.size W X) => exHolds X (hcd.ld.below hX))
  have HI := Lib.hid (fun X (hX : Below W.heap.size W X) => iLeaders nm C n hn A c X (hcd.below hX))
  have HR := Lib.hid (fun X (hX : Below W.heap.size W X) => rLeaders nm C n hn A c X (hcd.below hX))
  have HW := Lib.hid hW
  have HBW := Lib.hid hbW
  have hle := h.rd.le
  have hmx := h.rd.max
  rw [hn] at hle
  unfold maxLen at hmx
  unfold fnV at HI HR ⊢
  obtain ⟨l, hl⟩ : ∃ l, ldR C = l := ⟨_, rfl⟩
  obtain ⟨E, hE⟩ : ∃ E, cfE C = E := ⟨_, rfl⟩
  rw [hl, hE] at HI HR
  obtain ⟨q, hq⟩ : ∃ q, l.length = q := ⟨_, rfl⟩
  have HQ := Lib.hid hq
  have HI := Lib.hid (fun X hX => (HI.out X hX).mono fun e w' h => toEq hq h)
  have HR := Lib.hid (fun X hX => (HR.out X hX).mono fun e w' h => toEq hq h)
  have hee : (E == E) = true := by simp
  clear h hB hW hbW hcd hl hE hq
  by_cases hbig : 30 < n
  · have d1 : decide ((30 : Int) < (n : Int)) = true := decide_eq_true (by omega)
    go_enter Tryd.func4, Tryd.ntmps4
    go_wp2_with fail
    all_goals first
      | (exfalso; omega)
      | skip
    rw [HW.out]
    refine (HEX.out _ (Below.refl _ _)).mono ?_
    rintro e w1 ⟨rfl, b1⟩
    go_wp2
    go_ret
    exact ⟨rfl, belowThen HBW.out b1⟩
  · go_enter Tryd.func4, Tryd.ntmps4
    go_wp2_with fail
    all_goals first
      | (exfalso; omega)
      | skip
    all_goals (
      rw [HW.out]
      refine (HI.out _ (Below.refl _ _)).mono ?_
      rintro e w1 ⟨Aa, ca, rfl, ra, b1⟩
      have HB1 := Lib.hid b1
      have HRa := Lib.hid ra
      clear b1 ra
      obtain ⟨m0, m1⟩ := HK.out w1 HB1.out
      go_wp2_with fail
      refine (HR.out _ HB1.out).mono ?_
      rintro e w2 ⟨Ab, cb, rfl, rb, b2⟩
      have HB2 := Lib.hid (belowThen HB1.out b2)
      have HRa2 := Lib.hid (Rd.below HRa.out b2)
      have HRb := Lib.hid rb
      clear b2 rb
      go_wp2_with fail
      refine (intsEq l q q HQ.out HQ.out Aa Ab ca cb _ HRa2.out HRb.out).mono ?_
      rintro e w3 ⟨rfl, b3⟩
      have HB3 := Lib.hid (belowThen HB2.out b3)
      clear b3
      go_wp2_with fail
      refine (HEX.out _ HB3.out).mono ?_
      rintro e w4 ⟨rfl, b4⟩
      go_wp2
      go_ret
      exact ⟨rfl, belowThen HBW.out (belowThen HB3.out b4)⟩)
set_option maxRecDepth 100000 in
set_option maxHeartbeats 8000000 in
theorem lawLoops (nm : ByteArray) (C : List I8) (n : Nat) (hn : C.length = n) (A : Option Addr) (c : Nat) (w : World) (h : CdW w A c C) :
    Calls Tryd.prog 5 #[fnV nm A n c] w (LawOkC w) := by
  obtain ⟨W, hW⟩ : ∃ W, w.alloc (.cells #[.string nm, .slice A n c] 24) = W := ⟨_, rfl⟩
  have hbW : Below w.heap.size w W := by rw [← hW]; exact belowAlloc w _
  have hB : Blk W w.heap.size 24 #[.string nm, .slice A n c] := by rw [← hW]; exact Blk.new w _ _
  have k0 : W.cell? ⟨w.heap.size, 0, none⟩ = some (.string nm) := hB.cell 0
  have k1 : W.cell? ⟨w.heap.size, 1, none⟩ = some (.slice A n c) := hB.cell 1
  have HK := Lib.hid (fun X (hX : Below W.heap.size W X) => (⟨(hB.below' hX).cell 0, (hB.below' hX).cell 1⟩ : X.cell? ⟨w.heap.size, 0, none⟩ = some (.string nm) ∧ X.cell? ⟨w.heap.size, 1, none⟩ = some (.slice A n c)))
  have hcd := h.below hbW
  have HEX := Lib.hid (fun X (hX : Below W.heap.size W X) => exHolds X (hcd.ld.below hX))
  have HI := Lib.hid (fun X (hX : Below W.heap.size W X) => iDominators nm C n hn A c X (hcd.below hX))
  have HR := Lib.hid (fun X (hX : Below W.heap.size W X) => rDominators nm C n hn A c X (hcd.below hX))
  have HI2 := Lib.hid (fun X (hX : Below W.heap.size W X) => iLoops nm C n hn A c X (hcd.below hX))
  have HR2 := Lib.hid (fun X (hX : Below W.heap.size W X) => rLoops nm C n hn A c X (hcd.below hX))
  have HW := Lib.hid hW
  have HBW := Lib.hid hbW
  have hle := h.rd.le
  have hmx := h.rd.max
  rw [hn] at hle
  unfold maxLen at hmx
  unfold fnV at HI HR HI2 HR2 ⊢
  obtain ⟨l, hl⟩ : ∃ l, doR C = l := ⟨_, rfl⟩
  obtain ⟨L, hL⟩ : ∃ L, loR C = L := ⟨_, rfl⟩
  obtain ⟨E, hE⟩ : ∃ E, cfE C = E := ⟨_, rfl⟩
  rw [hl, hE] at HI HR
  rw [hL, hE] at HI2 HR2
  obtain ⟨q, hq⟩ : ∃ q, l.length = q := ⟨_, rfl⟩
  obtain ⟨p, hp⟩ : ∃ p, L.length = p := ⟨_, rfl⟩
  have HQ := Lib.hid hq
  have HP := Lib.hid hp
  have HI := Lib.hid (fun X hX => (HI.out X hX).mono fun e w' h => toEq hq h)
  have HR := Lib.hid (fun X hX => (HR.out X hX).mono fun e w' h => toEq hq h)
  have HI2 := Lib.hid (fun X hX => (HI2.out X hX).mono fun e w' h => toQq hp h)
  have HR2 := Lib.hid (fun X hX => (HR2.out X hX).mono fun e w' h => toQq hp h)
  have hee : (E == E) = true := by simp
  clear h hB hW hbW hcd hl hE hq hp hL
  by_cases hbig : 30 < n
  · have d1 : decide ((30 : Int) < (n : Int)) = true := decide_eq_true (by omega)
    go_enter Tryd.func5, Tryd.ntmps5
    go_wp2_with fail
    all_goals first
      | (exfalso; omega)
      | skip
    rw [HW.out]
    refine (HEX.out _ (Below.refl _ _)).mono ?_
    rintro e w1 ⟨rfl, b1⟩
    go_wp2
    go_ret
    exact ⟨rfl, belowThen HBW.out b1⟩
  · go_enter Tryd.func5, Tryd.ntmps5
    go_wp2_with fail
    all_goals first
      | (exfalso; omega)
      | skip
    rw [HW.out]
    refine (HI.out _ (Below.refl _ _)).mono ?_
    rintro e w1 ⟨Aa, ca, rfl, ra, b1⟩
    have HB1 := Lib.hid b1
    have HRa := Lib.hid ra
    clear b1 ra k0 k1
    obtain ⟨m0, m1⟩ := HK.out w1 HB1.out
    go_wp2_with fail
    refine (HR.out _ HB1.out).mono ?_
    rintro e w2 ⟨Ab, cb, rfl, rb, b2⟩
    have HB2 := Lib.hid (belowThen HB1.out b2)
    have HRa := Lib.hid (Rd.below HRa.out b2)
    have HRb := Lib.hid rb
    clear b2 rb m0 m1
    obtain ⟨m0, m1⟩ := HK.out w2 HB2.out
    go_wp2_with fail
    refine (HI2.out _ HB2.out).mono ?_
    rintro e w3 ⟨Ac, cc, rfl, rc, b3⟩
    have HB3 := Lib.hid (belowThen HB2.out b3)
    have HRa := Lib.hid (Rd.below HRa.out b3)
    have HRb := Lib.hid (Rd.below HRb.out b3)
    have HRc := Lib.hid rc
    clear b3 rc m0 m1
    obtain ⟨m0, m1⟩ := HK.out w3 HB3.out
    go_wp2_with fail
    refine (HR2.out _ HB3.out).mono ?_
    rintro e w4 ⟨Ad, cd, rfl, rd, b4⟩
    have HB4 := Lib.hid (belowThen HB3.out b4)
    have HRa := Lib.hid (Rd.below HRa.out b4)
    have HRb := Lib.hid (Rd.below HRb.out b4)
    have HRc := Lib.hid (HRc.out.below b4)
    have HRd := Lib.hid rd
    clear b4 rd m0 m1
    go_wp2_with fail
    refine (intsEq l q q HQ.out HQ.out Aa Ab ca cb _ HRa.out HRb.out).mono ?_
    rintro e w5 ⟨rfl, b5⟩
    have HB5 := Lib.hid (belowThen HB4.out b5)
    have HRc := Lib.hid (HRc.out.below b5)
    have HRd := Lib.hid (HRd.out.below b5)
    clear b5
    go_wp2_with fail
    refine (rListsI L p HP.out Ac Ad cc cd _ HRc.out HRd.out).mono ?_
    rintro e w6 ⟨rfl, q6, rfl⟩
    have HB6 := Lib.hid (belowDrewN HB5.out q6)
    go_wp2_with fail
    refine (HEX.out _ HB6.out).mono ?_
    rintro e w7 ⟨rfl, b7⟩
    go_wp2
    go_ret
    exact ⟨rfl, belowThen HBW.out (belowThen HB6.out b7)⟩
end Go.Proofs.YtjoffidlfkmelaaDoor

namespace Go.Proofs.YtjoffidlfkmelaaDoor
open Go Go.ChangeShapes Go.WideShapes Go.ChangeAt Go.RowKit Go.Deep Go.Joins

set_option maxRecDepth 100000 in
theorem openFn {H : Type} {enc : TypeId × Value → H} {W : World} {b0 base : Nat} {v : Value} {d : DataW H} {p : List MemPlace} (hv : Value.okWide Tryd.prog W .any base 24 v) (h : DataW.Trod enc Tryd.prog W b0 (fun _ => true) true 24 v d p) :
    ∃ (nm : ByteArray) (A : Option Addr) (n c : Nat) (C : List I8), v = fnV nm A n c ∧ C.length = n ∧ RdE 8 EI W A c C ∧ ∀ i ∈ C, i.Wf := by
  obtain ⟨fs, g1, g2, g3, g4⟩ := funcFs
  obtain ⟨cs, rfl, hsz⟩ := okWide_struct g1 hv
  rw [g4] at hsz
  obtain ⟨fuel, hf⟩ := h
  have hf' : DataW.trod enc Tryd.prog W b0 (fun _ => true) true fuel 24 cs.toList = some (d, p) := hf
  have hl : cs.toList.length = 2 := by simpa using hsz
  obtain ⟨m, hx⟩ := fieldsOf g1 g2 g3 rfl hl hf'
  obtain ⟨l⟩ := cs
  match l, hl with
  | [v1, v2], _ =>
    obtain ⟨_, f1⟩ := hx 0 (by simp) _ rfl
    obtain ⟨_, f2⟩ := hx 1 (by simp) _ rfl
    obtain ⟨s, e1, _, hs⟩ := DataW.trod_string Tryd.underlying9 f1
    injection e1 with e1
    have e1 : v1 = .string s := e1
    obtain ⟨A2, n2, c2, l2, e2, q2, r2, w2⟩ := openE EI I8.Wf Tryd.underlying22 (k := 8) (by kernel_rfl) (by decide) (fun b o cs n x h1 h2 h3 => elI h1 h2 h3) f2
    have e2 : v2 = _ := e2
    subst e1 e2
    exact ⟨s, A2, n2, c2, l2, rfl, q2, r2, w2⟩
end Go.Proofs.YtjoffidlfkmelaaDoor
