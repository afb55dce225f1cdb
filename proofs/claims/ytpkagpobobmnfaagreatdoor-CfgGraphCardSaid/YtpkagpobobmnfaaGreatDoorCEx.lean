/-
  The chapter's example, reckoned: what can be reached, by passes over a table. Without any program.
-/
import Derived.Test.YtpkagpobobmnfaaGreatDoorCJs
import Derived.Test.YtpkagpobobmnfaaGreatDoorCCfLo
import Derived.Test.YtpkagpobobmnfaaGreatDoorCOwn
namespace Go.Proofs.YtpkagpobobmnfaaGreatDoor
open Go Go.RowKit

def stB (n : Nat) (g : Nat → List Nat) (al T : Nat → Bool) (x : Nat) : Bool := al x && (T x || (List.range n).any fun i => al i && T i && decide (x ∈ g i))
def itB (n : Nat) (g : Nat → List Nat) (al S0 : Nat → Bool) : Nat → Nat → Bool
  | 0 => S0
  | p + 1 => stB n g al (itB n g al S0 p)
section
variable {n : Nat} {g : Nat → List Nat} {al S0 : Nat → Bool}
theorem itPs (hal : ∀ x, al x = true → x < n) : ∀ p, PsT n g al S0 p (itB n g al S0 p)
  | 0 => psStart hal fun _ _ => rfl
  | p + 1 => by
    have h := itPs hal p
    refine psNext hal h (fun x ha hT => ?_) (fun x ha hT => ?_) fun i ha hT y hy hay => ?_
    · show stB n g al _ x = true
      unfold stB
      rw [ha, hT]; rfl
    · have hT : stB n g al (itB n g al S0 p) x = true := hT
      unfold stB at hT
      rw [ha, Bool.true_and, Bool.or_eq_true] at hT
      rcases hT with hT | hT
      · exact h.sub x ha hT
      · rw [List.any_eq_true] at hT
        obtain ⟨i, _, hi⟩ := hT
        rw [Bool.and_eq_true, Bool.and_eq_true, decide_eq_true_iff] at hi
        obtain ⟨s, hs, hr⟩ := h.sub i hi.1.1 hi.1.2
        exact ⟨s, hs, hr.snoc hi.2 ha⟩
    · show stB n g al _ y = true
      unfold stB
      rw [hay, Bool.true_and, Bool.or_eq_true, List.any_eq_true]
      exact .inr ⟨i, List.mem_range.2 (hal i ha), by rw [ha, hT, decide_eq_true hy]; rfl⟩
theorem itRc (hal : ∀ x, al x = true → x < n) {x : Nat} (ha : al x = true) : itB n g al S0 n x = true ↔ ∃ s, S0 s = true ∧ Rc g al s x := psEnd (itPs hal n) ha
end
def rcC (n : Nat) (g : Nat → List Nat) (d : Int) (x : Nat) : Bool := avd n d x && itB n g (avd n d) (fun s => decide (s = 0)) n x
theorem rcCEq (n : Nat) (g : Nat → List Nat) (d : Int) (x : Nat) : rcB n g d x = rcC n g d x := by
  rw [Bool.eq_iff_iff, rcIff]
  unfold rcC
  rw [Bool.and_eq_true]
  have hal : ∀ x, avd n d x = true → x < n := fun _ h => (avdIff.1 h).1
  constructor
  · intro h
    exact ⟨h.right, (itRc hal h.right).2 ⟨0, by simp, h⟩⟩
  · rintro ⟨ha, h⟩
    obtain ⟨s, hs, hr⟩ := (itRc hal ha).1 h
    have : s = 0 := of_decide_eq_true hs
    subst this
    exact hr
def bdC (n : Nat) (g : Nat → List Nat) (A0 B0 : Nat → Bool) (x : Nat) : Bool := A0 x && itB n (pvr n g) A0 B0 n x
theorem bdCEq (n : Nat) (g : Nat → List Nat) (h x : Nat) (A0 B0 : Nat → Bool) (hA : alh n g h = A0) (hB : bgB n g h = B0) : bdB n g h x = bdC n g A0 B0 x := by
  subst hA; subst hB
  rw [Bool.eq_iff_iff, bdIff]
  unfold bdC
  rw [Bool.and_eq_true]
  have hal : ∀ x, alh n g h x = true → x < n := fun _ hx => rcLt (alhIff.1 hx).1
  constructor
  · rintro ⟨s, hs, hr⟩
    exact ⟨hr.right, (itRc hal hr.right).2 ⟨s, hs, hr⟩⟩
  · rintro ⟨ha, h⟩
    exact (itRc hal ha).1 h

/-- The example's code. -/
def exC : List I8 := [⟨1, 0, 0, 0, 0, 1, 0, 0⟩, ⟨5, 0, 0, 0, 0, 3, 0, 0⟩, ⟨4, 0, 0, 0, 0, 1, 0, 0⟩, ⟨7, 0, 0, 0, 0, 0, 0, 0⟩]
def exG : Nat → List Nat
  | 0 => [1]
  | 1 => [3, 2]
  | 2 => [1]
  | 3 => [4]
  | _ => []
theorem exSc : sc exC = exG := by
  funext k
  match k with
  | 0 => rfl
  | 1 => rfl
  | 2 => rfl
  | 3 => rfl
  | k + 4 => rfl
theorem exE : cfE exC = 0 := by kernel_rfl
def exOn (x : Nat) : Bool := decide (x < 4)
def exDm (d i : Nat) : Bool := decide (i < 4) && (decide (d = 0) || decide (d = 1 ∧ 1 ≤ i) || decide (d = i))
theorem exRc : rcB 4 exG (-1) = exOn := by
  funext x
  by_cases hx : x < 4
  · rw [rcCEq]
    have h : ∀ x, x < 4 → rcC 4 exG (-1) x = exOn x := by decide
    exact h x hx
  · unfold exOn
    rw [decide_eq_false hx]
    cases e : rcB 4 exG (-1) x
    · rfl
    · exact absurd (rcLt e) hx
theorem exDmEq : dmB 4 exG = exDm := by
  funext d i
  by_cases hd : d < 4
  · by_cases hi : i < 4
    · unfold dmB
      rw [exRc, rcCEq]
      have h : ∀ d : Nat, d < 4 → ∀ i : Nat, i < 4 → (exOn i && !rcC 4 exG d i) = exDm d i := by decide
      exact h d hd i hi
    · unfold dmB exDm
      rw [exRc]
      unfold exOn
      rw [decide_eq_false hi]; rfl
  · cases e : dmB 4 exG d i
    · unfold exDm
      rw [decide_eq_false (show ¬ d = 0 by omega), decide_eq_false (show ¬ (d = 1 ∧ 1 ≤ i) by omega)]
      by_cases hi : i < 4
      · rw [decide_eq_false (show ¬ d = i by omega)]; simp
      · rw [decide_eq_false hi]; simp
    · exact absurd (dmLt e).1 hd
theorem exId : idL 4 exG = [-1, 0, 1, 1] := by
  have hL : ∀ i, dmL 4 exG i = (List.range 4).filter fun d => exDm d i := fun i => by unfold dmL; rw [exDmEq]
  have h0 : idm 4 exG 0 = -1 := idNone fun d hd => by
    rw [exDmEq] at hd
    rw [hL, hL]
    have h : ∀ d, d < 4 → exDm d 0 = true → ((List.range 4).filter fun e => exDm e d).length + 1 ≠ ((List.range 4).filter fun e => exDm e 0).length := by decide
    exact h d (by rw [← exDmEq] at hd; exact (dmLt hd).1) hd
  have h1 : idm 4 exG 1 = 0 := idLen (d := 0) (by rw [exDmEq]; decide) (by rw [hL, hL]; decide)
  have h2 : idm 4 exG 2 = 1 := idLen (d := 1) (by rw [exDmEq]; decide) (by rw [hL, hL]; decide)
  have h3 : idm 4 exG 3 = 1 := idLen (d := 1) (by rw [exDmEq]; decide) (by rw [hL, hL]; decide)
  show [idm 4 exG 0, idm 4 exG 1, idm 4 exG 2, idm 4 exG 3] = _
  rw [h0, h1, h2, h3]
theorem exDo : doR exC = [-1, 0, 1, 1] := by
  unfold doR
  rw [if_pos exE, exSc]
  exact exId
def exAl (x : Nat) : Bool := decide (x < 4) && decide (x ≠ 1)
def exBg (x : Nat) : Bool := decide (x = 2)
theorem exAlEq : alh 4 exG 1 = exAl := by
  funext x
  unfold alh
  rw [exRc]; rfl
theorem exBgEq (h : Nat) : bgB 4 exG h = fun x => decide (h ∈ exG x) && exDm h x := by
  funext x
  unfold bgB
  rw [exDmEq]
theorem exBg1 : bgB 4 exG 1 = exBg := by
  rw [exBgEq]
  funext x
  match x with
  | 0 => rfl
  | 1 => rfl
  | 2 => rfl
  | 3 => rfl
  | x + 4 => rfl
theorem exLp : loR exC = [[1, 2]] := by
  unfold loR
  rw [if_pos exE, exSc]
  show lpP 4 exG 4 = _
  unfold lpP
  have hb : bkB 4 exG = fun h => (List.range 4).any fun x => decide (h ∈ exG x) && exDm h x := by
    funext h
    unfold bkB
    rw [exBgEq]
  have hf : (List.range 4).filter (bkB 4 exG) = [1] := by
    rw [hb]
    decide
  rw [hf]
  show [lpL 4 exG 1] = _
  unfold lpL
  have hd : bdB 4 exG 1 = bdC 4 exG exAl exBg := by
    funext x
    exact bdCEq 4 exG 1 x exAl exBg exAlEq exBg1
  have hg : (List.range 4).filter (bdC 4 exG exAl exBg) = [2] := by decide
  rw [hd, hg]
  rfl
theorem exNx : nxR exC 1 = [2, 3] := by kernel_rfl
theorem exNx0 : nxE exC 1 = 0 := by kernel_rfl
theorem exNx4 : nxE exC 4 = 2 := by kernel_rfl
theorem exLd : ldR exC = [0, 1, 2, 3] := by kernel_rfl
end Go.Proofs.YtpkagpobobmnfaaGreatDoor

namespace Go.Proofs.YtpkagpobobmnfaaGreatDoor
open Go Go.RowKit Go.Shelf

def LawOkC (w : World) (e : Ending) (w' : World) : Prop := e = .returned (.bool true) ∧ Below w.heap.size w w'
theorem sm64c (n : Int) (h1 : -1000 ≤ n) (h2 : n ≤ 1000) : In64 n := ⟨by omega, by omega⟩
theorem wfSmallC (i : I8) (h : (decide (-1000 ≤ i.op ∧ i.op ≤ 1000) && decide (-1000 ≤ i.a ∧ i.a ≤ 1000) && decide (-1000 ≤ i.b ∧ i.b ≤ 1000) && decide (-1000 ≤ i.c ∧ i.c ≤ 1000) && decide (-1000 ≤ i.obj ∧ i.obj ≤ 1000) && decide (-1000 ≤ i.n ∧ i.n ≤ 1000) && decide (-1000 ≤ i.fn ∧ i.fn ≤ 1000) && decide (-1000 ≤ i.ord ∧ i.ord ≤ 1000)) = true) : i.Wf := by
  simp only [Bool.and_eq_true, decide_eq_true_eq] at h
  obtain ⟨⟨⟨⟨⟨⟨⟨h0, h1⟩, h2⟩, h3⟩, h4⟩, h5⟩, h6⟩, h7⟩ := h
  exact ⟨sm64c _ h0.1 h0.2, sm64c _ h1.1 h1.2, sm64c _ h2.1 h2.2, sm64c _ h3.1 h3.2, sm64c _ h4.1 h4.2, sm64c _ h5.1 h5.2, sm64c _ h6.1 h6.2, sm64c _ h7.1 h7.2⟩
theorem two9 (W : World) (o1 o2 : Obj) {Z : World} (hZ : (W.alloc o1).alloc o2 = Z) : Z.heap[W.heap.size]? = some o1 ∧ Z.heap[W.heap.size + 1]? = some o2 ∧ Below W.heap.size W Z := by
  subst hZ
  refine ⟨((belowAlloc (W.alloc o1) o2).block W.heap.size (by simp)).trans (World.alloc_heap_new W o1), ?_, belowThen (belowAlloc _ _) (belowAlloc _ _)⟩
  have h := World.alloc_heap_new (W.alloc o1) o2
  rwa [World.size_alloc] at h
theorem exWf : ∀ i ∈ exC, i.Wf := by
  intro i hi
  unfold exC at hi
  simp only [List.mem_cons, List.not_mem_nil, or_false] at hi
  rcases hi with rfl | rfl | rfl | rfl <;> exact wfSmallC _ (by decide)
set_option maxRecDepth 100000 in
set_option maxHeartbeats 8000000 in
theorem exHolds (w : World) (hL : Laid7 w) : Calls Tryz.prog 6 #[] w (LawOkC w) := by
  obtain ⟨W, hW⟩ : ∃ W, (w.alloc (.cells #[.int .i64 1, .int .i64 0, .int .i64 0, .int .i64 0, .int .i64 0, .int .i64 1, .int .i64 0, .int .i64 0, .int .i64 5, .int .i64 0, .int .i64 0, .int .i64 0, .int .i64 0, .int .i64 3, .int .i64 0, .int .i64 0, .int .i64 4, .int .i64 0, .int .i64 0, .int .i64 0, .int .i64 0, .int .i64 1, .int .i64 0, .int .i64 0, .int .i64 7, .int .i64 0, .int .i64 0, .int .i64 0, .int .i64 0, .int .i64 0, .int .i64 0, .int .i64 0] 55)).alloc (.cells #[.string ⟨#[]⟩, .slice (some ⟨w.heap.size, 0, none⟩) 4 4] 24) = W := ⟨_, rfl⟩
  obtain ⟨h1, h2, hbW⟩ := two9 w _ _ hW
  have b1 : Blk W w.heap.size 55 _ := h1
  have b2 : Blk W (w.heap.size + 1) 24 #[.string ⟨#[]⟩, .slice (some ⟨w.heap.size, 0, none⟩) 4 4] := h2
  have hrd : RdE 8 EI W (some ⟨w.heap.size, 0, none⟩) 4 exC := ⟨Nat.le_refl _, by decide, fun _ => ⟨_, 0, rfl, b1.lt, fun j hj => by
    have hj' : j < 4 := hj
    have hc : j = 0 ∨ j = 1 ∨ j = 2 ∨ j = 3 := by omega
    rcases hc with rfl | rfl | rfl | rfl
    · exact ⟨b1.cell 0, b1.cell 1, b1.cell 2, b1.cell 3, b1.cell 4, b1.cell 5, b1.cell 6, b1.cell 7⟩
    · exact ⟨b1.cell 8, b1.cell 9, b1.cell 10, b1.cell 11, b1.cell 12, b1.cell 13, b1.cell 14, b1.cell 15⟩
    · exact ⟨b1.cell 16, b1.cell 17, b1.cell 18, b1.cell 19, b1.cell 20, b1.cell 21, b1.cell 22, b1.cell 23⟩
    · exact ⟨b1.cell 24, b1.cell 25, b1.cell 26, b1.cell 27, b1.cell 28, b1.cell 29, b1.cell 30, b1.cell 31⟩⟩⟩
  have hcd : CdW W (some ⟨w.heap.size, 0, none⟩) 4 exC := ⟨hrd, exWf, hL.below hbW⟩
  have HCD := Lib.hid (fun X (hX : Below W.heap.size W X) => hcd.below hX)
  have HK := Lib.hid (fun X (hX : Below W.heap.size W X) => (⟨(b2.below' hX).cell 0, (b2.below' hX).cell 1⟩ : X.cell? ⟨w.heap.size + 1, 0, none⟩ = some (.string ⟨#[]⟩) ∧ X.cell? ⟨w.heap.size + 1, 1, none⟩ = some (.slice (some ⟨w.heap.size, 0, none⟩) 4 4)))
  have HW := Lib.hid hW
  have HBW := Lib.hid hbW
  have HN1 := Lib.hid (fun X (hX : Below W.heap.size W X) => iNext ⟨#[]⟩ exC 4 rfl 1 (some ⟨w.heap.size, 0, none⟩) 4 X (hcd.below hX))
  have HN4 := Lib.hid (fun X (hX : Below W.heap.size W X) => iNext ⟨#[]⟩ exC 4 rfl 4 (some ⟨w.heap.size, 0, none⟩) 4 X (hcd.below hX))
  have HLD := Lib.hid (fun X (hX : Below W.heap.size W X) => iLeaders ⟨#[]⟩ exC 4 rfl (some ⟨w.heap.size, 0, none⟩) 4 X (hcd.below hX))
  have HDO := Lib.hid (fun X (hX : Below W.heap.size W X) => iDominators ⟨#[]⟩ exC 4 rfl (some ⟨w.heap.size, 0, none⟩) 4 X (hcd.below hX))
  have HLO := Lib.hid (fun X (hX : Below W.heap.size W X) => iLoops ⟨#[]⟩ exC 4 rfl (some ⟨w.heap.size, 0, none⟩) 4 X (hcd.below hX))
  rw [exNx, exNx0] at HN1
  rw [exNx4] at HN4
  rw [exLd, exE] at HLD
  rw [exDo, exE] at HDO
  rw [exLp, exE] at HLO
  unfold fnV at HN1 HN4 HLD HDO HLO
  have k2 := HK.out W (Below.refl _ _)
  clear h1 h2 b1 b2 hrd hcd hbW hL hW
  obtain ⟨k0, k1⟩ := k2
  go_enter Tryz.func6, Tryz.ntmps6
  go_wp2_with fail
  rw [HW.out]
  refine (HN1.out _ (Below.refl _ _)).mono ?_
  rintro e w1 ⟨Aa, ca, he, ra, b1⟩
  have he : e = .returned (.tuple #[.slice Aa 2 ca, .int .i64 0]) := he
  subst he
  have HB1 := Lib.hid b1
  have HRa := Lib.hid ra
  clear k0 k1 b1 ra
  obtain ⟨k0, k1⟩ := HK.out w1 HB1.out
  go_wp2_with fail
  refine (HLD.out _ HB1.out).mono ?_
  rintro e w2 ⟨Ab, cb, he, rb, b2⟩
  have he : e = .returned (.tuple #[.slice Ab 4 cb, .int .i64 0]) := he
  subst he
  have HB2 := Lib.hid (belowThen HB1.out b2)
  have HRa := Lib.hid (Rd.below HRa.out b2)
  have HRb := Lib.hid rb
  clear k0 k1 b2 rb
  obtain ⟨k0, k1⟩ := HK.out w2 HB2.out
  go_wp2_with fail
  refine (HDO.out _ HB2.out).mono ?_
  rintro e w3 ⟨Ac, cc, he, rc, b3⟩
  have he : e = .returned (.tuple #[.slice Ac 4 cc, .int .i64 0]) := he
  subst he
  have HB3 := Lib.hid (belowThen HB2.out b3)
  have HRa := Lib.hid (Rd.below HRa.out b3)
  have HRb := Lib.hid (Rd.below HRb.out b3)
  have HRc := Lib.hid rc
  clear k0 k1 b3 rc
  obtain ⟨k0, k1⟩ := HK.out w3 HB3.out
  go_wp2_with fail
  refine (HLO.out _ HB3.out).mono ?_
  rintro e w4 ⟨Ad, cd, he, rd, b4⟩
  have he : e = .returned (.tuple #[.slice Ad 1 cd, .int .i64 0]) := he
  subst he
  have HB4 := Lib.hid (belowThen HB3.out b4)
  have HRa := Lib.hid (Rd.below HRa.out b4)
  have HRb := Lib.hid (Rd.below HRb.out b4)
  have HRc := Lib.hid (Rd.below HRc.out b4)
  have HRd := Lib.hid rd
  clear k0 k1 b4 rd
  obtain ⟨k0, k1⟩ := HK.out w4 HB4.out
  go_wp2_with fail
  refine (HN4.out _ HB4.out).mono ?_
  rintro e w5 ⟨Ae, ce, he, _, b5⟩
  obtain ⟨ne, he⟩ : ∃ ne, e = .returned (.tuple #[.slice Ae ne ce, .int .i64 2]) := ⟨_, he⟩
  subst he
  have HB5 := Lib.hid (belowThen HB4.out b5)
  have HRa := Lib.hid (Rd.below HRa.out b5)
  have HRb := Lib.hid (Rd.below HRb.out b5)
  have HRc := Lib.hid (Rd.below HRc.out b5)
  have HRd := Lib.hid (HRd.out.below b5)
  have hld := HRd.out.le
  have hmd := HRd.out.max
  unfold maxLen at hmd
  have hld : 1 ≤ cd := hld
  clear k0 k1 b5
  go_wp2_with fail
  refine (intsEq [2, 3] 2 2 rfl rfl Aa _ ca _ _ (Rd.below HRa.out (belowAlloc _ _)) (Rd.lit _ [2, 3] 3 (by simp))).mono ?_
  rintro e w6 ⟨rfl, b6⟩
  have HB6 := Lib.hid (belowThen HB5.out (belowThen (belowAlloc _ _) b6))
  have HS6 := Lib.hid (belowThen (belowAlloc w5 _) b6)
  have HRb := Lib.hid (Rd.below HRb.out HS6.out)
  have HRc := Lib.hid (Rd.below HRc.out HS6.out)
  have HRd := Lib.hid (HRd.out.below HS6.out)
  clear b6
  go_wp2_with fail
  refine (intsEq [0, 1, 2, 3] 4 4 rfl rfl Ab _ cb _ _ (Rd.below HRb.out (belowAlloc _ _)) (Rd.lit _ [0, 1, 2, 3] 3 (by simp))).mono ?_
  rintro e w7 ⟨rfl, b7⟩
  have HS7 := Lib.hid (belowThen (belowAlloc w6 _) b7)
  have HB7 := Lib.hid (belowThen HB6.out HS7.out)
  have HRc := Lib.hid (Rd.below HRc.out HS7.out)
  have HRd := Lib.hid (HRd.out.below HS7.out)
  clear b7
  go_wp2_with fail
  refine (intsEq [-1, 0, 1, 1] 4 4 rfl rfl Ac _ cc _ _ (Rd.below HRc.out (belowAlloc _ _)) (Rd.lit _ [-1, 0, 1, 1] 3 (by simp))).mono ?_
  rintro e w8 ⟨rfl, b8⟩
  have HS8 := Lib.hid (belowThen (belowAlloc w7 _) b8)
  have HB8 := Lib.hid (belowThen HB7.out HS8.out)
  have hrd8 := HRd.out.below HS8.out
  obtain ⟨add, Ad', cd', rfl, hcd, hrr⟩ := hrd8.one (k := 0) (by decide)
  have hcd : w8.cell? add = some (.slice Ad' 2 cd') := hcd
  have hrr : Rd w8 Ad' cd' [1, 2] := hrr
  have HRR := Lib.hid hrr
  clear b8 hrd8 hrr
  go_wp2_with fail
  refine (intsEq [1, 2] 2 2 rfl rfl Ad' _ cd' _ _ (Rd.below HRR.out (belowAlloc _ _)) (Rd.lit _ [1, 2] 3 (by simp))).mono ?_
  rintro e w9 ⟨rfl, b9⟩
  have HS9 := Lib.hid (belowThen (belowAlloc w8 _) b9)
  have HB9 := Lib.hid (belowThen HB8.out HS9.out)
  clear b9
  go_wp2
  go_ret
  exact ⟨rfl, belowThen HBW.out HB9.out⟩
end Go.Proofs.YtpkagpobobmnfaaGreatDoor
