/-
  What the listed package-level variables give the walks of package disasm: the tables of names, of operations, of orders, of kinds of events and of powers of ten are laid; a program by value as an argument, opened.
-/
import Derived.Test.YtnckpjcfgeajbaaGreatDoorZmF
import Derived.Test.YtnckpjcfgeajbaaGreatDoorZmE
import Derived.Test.YtnckpjcfgeajbaaGreatDoorTie
import Derived.ProofKit
import Derived.LaidMore
import Derived.Stop.LaidErr
import Derived.OpenShut
import Derived.ChangeSame
import Derived.ChangeMaps5
import Derived.Deep.SlicePairs
import Derived.Lib.SmallJoins
import Derived.Lib.LaidTab
import Derived.Below
namespace Go.Proofs.YtnckpjcfgeajbaaGreatDoor
open Go Go.RowKit

theorem five (W : World) (o1 o2 o3 o4 o5 : Obj) {Z : World} (hZ : ((((W.alloc o1).alloc o2).alloc o3).alloc o4).alloc o5 = Z) :
    (Z.heap[W.heap.size]? = some o1 ∧ Z.heap[W.heap.size + 1]? = some o2 ∧ Z.heap[W.heap.size + 1 + 1]? = some o3 ∧ Z.heap[W.heap.size + 1 + 1 + 1]? = some o4 ∧ Z.heap[W.heap.size + 1 + 1 + 1 + 1]? = some o5) ∧ Below W.heap.size W Z := by
  subst hZ
  have new : ∀ (X : World) (o : Obj) (k : Nat), X.heap.size = k → (X.alloc o).heap[k]? = some o := fun X o k h => h ▸ World.alloc_heap_new X o
  have old : ∀ (X : World) (o o' : Obj) (k : Nat), X.heap[k]? = some o' → (X.alloc o).heap[k]? = some o' := fun X o o' k h => ((belowAlloc X o).block k (Array.getElem?_eq_some_iff.1 h).1).trans h
  refine ⟨⟨old _ _ _ _ (old _ _ _ _ (old _ _ _ _ (old _ _ _ _ (new _ _ _ rfl)))), old _ _ _ _ (old _ _ _ _ (old _ _ _ _ (new _ _ _ (by simp)))), old _ _ _ _ (old _ _ _ _ (new _ _ _ (by simp))), old _ _ _ _ (new _ _ _ (by simp)), new _ _ _ (by simp)⟩, ?_⟩
  exact belowThen (belowThen (belowThen (belowThen (belowAlloc _ _) (belowAlloc _ _)) (belowAlloc _ _)) (belowAlloc _ _)) (belowAlloc _ _)
set_option maxRecDepth 100000 in
set_option maxHeartbeats 1000000 in
theorem dExample (w : World) : Calls Tryz.prog 51 #[] w fun e w' => ∃ a : PgA, e = .returned a.val ∧ PgW w' a dsX ∧ Below w.heap.size w w' := by
  obtain ⟨Z, hZ⟩ : ∃ Z, (((((w.alloc (.cells #[.slice (some ⟨w.heap.size + 1 + 1, 0, none⟩) 1 1, .slice none 0 0, .slice none 0 0, .slice (some ⟨w.heap.size + 1 + 1 + 1, 0, none⟩) 1 1, .slice (some ⟨w.heap.size + 1 + 1 + 1 + 1, 0, none⟩) 1 1] 28)).alloc (.cells #[.int .i64 8, .int .i64 1, .int .i64 0, .int .i64 0, .int .i64 0, .int .i64 0, .int .i64 0, .int .i64 2, .int .i64 5, .int .i64 0, .int .i64 1, .int .i64 0, .int .i64 0, .int .i64 0, .int .i64 0, .int .i64 0] 41)).alloc (.cells #[.string ⟨#[120]⟩, .int .i64 0] 56)).alloc (.cells #[.string ⟨#[102]⟩, .slice (some ⟨w.heap.size + 1, 0, none⟩) 2 2] 59)).alloc (.cells #[.int .i64 0, .int .i64 3] 61)) = Z := ⟨_, rfl⟩
  obtain ⟨⟨h0, h1, h2, h3, h4⟩, hb⟩ := five w _ _ _ _ _ hZ
  have b0 : Blk Z w.heap.size 28 _ := h0
  have b1 : Blk Z (w.heap.size + 1) 41 _ := h1
  have b2 : Blk Z (w.heap.size + 1 + 1) 56 _ := h2
  have b3 : Blk Z (w.heap.size + 1 + 1 + 1) 59 _ := h3
  have b4 : Blk Z (w.heap.size + 1 + 1 + 1 + 1) 61 _ := h4
  have HZ := Lib.hid hZ
  have H0 := Lib.hid b0
  have hc1 : RdE 8 EI Z (some ⟨w.heap.size + 1, 0, none⟩) 2 [⟨8, 1, 0, 0, 0, 0, 0, 2⟩, ⟨5, 0, 1, 0, 0, 0, 0, 0⟩] := ⟨Nat.le_refl _, by decide, fun _ => ⟨_, 0, rfl, b1.lt, fun j hj => by
    have hj' : j < 2 := hj
    have hc : j = 0 ∨ j = 1 := by omega
    rcases hc with rfl | rfl
    · exact ⟨b1.cell 0, b1.cell 1, b1.cell 2, b1.cell 3, b1.cell 4, b1.cell 5, b1.cell 6, b1.cell 7⟩
    · exact ⟨b1.cell 8, b1.cell 9, b1.cell 10, b1.cell 11, b1.cell 12, b1.cell 13, b1.cell 14, b1.cell 15⟩⟩⟩
  have HP := Lib.hid (show PgW Z ⟨some ⟨w.heap.size + 1 + 1, 0, none⟩, 1, 1, none, 0, 0, none, 0, 0, some ⟨w.heap.size + 1 + 1 + 1, 0, none⟩, 1, 1, some ⟨w.heap.size + 1 + 1 + 1 + 1, 0, none⟩, 1, 1⟩ dsX from
    ⟨rfl, rfl, rfl, rfl, rfl, ⟨Nat.le_refl _, by show 1 ≤ maxLen; decide, fun _ => ⟨_, 0, rfl, b2.lt, fun j hj => by
        have hj' : j < 1 := hj
        obtain rfl : j = 0 := by omega
        exact ⟨b2.cell 0, b2.cell 1⟩⟩⟩, RdE.nil, RdE.nil, ⟨Nat.le_refl _, by show 1 ≤ maxLen; decide, fun _ => ⟨_, 0, rfl, b3.lt, fun j hj => by
        have hj' : j < 1 := hj
        obtain rfl : j = 0 := by omega
        exact ⟨b3.cell 0, _, b3.cell 1, _, _, _, rfl, rfl, hc1⟩⟩⟩,
      ⟨Nat.le_refl _, by show 1 ≤ maxLen; decide, fun _ => ⟨_, 0, rfl, b4.lt, fun j hj => by
        have hj' : j < 1 := hj
        obtain rfl : j = 0 := by omega
        exact ⟨b4.cell 0, b4.cell 1⟩⟩⟩⟩)
  have HB := Lib.hid hb
  clear h0 h1 h2 h3 h4 b0 b1 b2 b3 b4 hc1 hb hZ
  go_enter Tryz.func51, Tryz.ntmps51
  go_wp2
  rw [HZ.out]
  exact bodyPost_ret (H0.out.res rfl _ rfl Tryz.underlying28 rfl (by kernel_rfl)) rfl ⟨_, rfl, HP.out, HB.out⟩
theorem fld3 (v1 v2 v3 v4 v5 : Value) (w : World) : (Instr.field 28 (.agg #[v1, v2, v3, v4, v5]) 3).run Tryz.prog w = .ok v4 w := by
  kernel_rfl
theorem sm64d (n : Int) (h1 : -1000 ≤ n) (h2 : n ≤ 1000) : In64 n := ⟨by omega, by omega⟩
theorem wfSmall (i : I8) (h : (decide (-1000 ≤ i.op ∧ i.op ≤ 1000) && decide (-1000 ≤ i.a ∧ i.a ≤ 1000) && decide (-1000 ≤ i.b ∧ i.b ≤ 1000) && decide (-1000 ≤ i.c ∧ i.c ≤ 1000) && decide (-1000 ≤ i.obj ∧ i.obj ≤ 1000) && decide (-1000 ≤ i.n ∧ i.n ≤ 1000) && decide (-1000 ≤ i.fn ∧ i.fn ≤ 1000) && decide (-1000 ≤ i.ord ∧ i.ord ≤ 1000)) = true) : i.Wf := by
  simp only [Bool.and_eq_true, decide_eq_true_eq] at h
  obtain ⟨⟨⟨⟨⟨⟨⟨h0, h1⟩, h2⟩, h3⟩, h4⟩, h5⟩, h6⟩, h7⟩ := h
  exact ⟨sm64d _ h0.1 h0.2, sm64d _ h1.1 h1.2, sm64d _ h2.1 h2.2, sm64d _ h3.1 h3.2, sm64d _ h4.1 h4.2, sm64d _ h5.1 h5.2, sm64d _ h6.1 h6.2, sm64d _ h7.1 h7.2⟩
theorem dsWf : dsX.Wf := by
  refine ⟨fun f hf i hi => ?_, fun v hv => ?_, fun s hs => ?_, fun s hs => ?_, fun f hf => ?_⟩
  · obtain rfl := List.mem_singleton.1 hf
    have hi : i ∈ ([⟨8, 1, 0, 0, 0, 0, 0, 2⟩, ⟨5, 0, 1, 0, 0, 0, 0, 0⟩] : List I8) := hi
    rcases List.mem_cons.1 hi with rfl | hi
    · exact wfSmall _ (by decide)
    · obtain rfl := List.mem_singleton.1 hi
      exact wfSmall _ (by decide)
  · obtain rfl := List.mem_singleton.1 hv
    exact (by decide : (1 : Nat) ≤ maxLen)
  · cases hs
  · cases hs
  · obtain rfl := List.mem_singleton.1 hf
    exact (by decide : (1 : Nat) ≤ maxLen)
theorem e9Small (x : E9) (h : (decide (-1000 ≤ x.ag ∧ x.ag ≤ 1000) && decide (-1000 ≤ x.ix ∧ x.ix ≤ 1000) && decide (-1000 ≤ x.kd ∧ x.kd ≤ 1000) && decide (-1000 ≤ x.ob ∧ x.ob ≤ 1000) && decide (-1000 ≤ x.mu ∧ x.mu ≤ 1000) && decide (-1000 ≤ x.en ∧ x.en ≤ 1000) && decide (-1000 ≤ x.od ∧ x.od ≤ 1000) && decide (-1000 ≤ x.rd ∧ x.rd ≤ 1000) && decide (-1000 ≤ x.wr ∧ x.wr ≤ 1000)) = true) : x.Wf := by
  simp only [Bool.and_eq_true, decide_eq_true_eq] at h
  obtain ⟨⟨⟨⟨⟨⟨⟨⟨h0, h1⟩, h2⟩, h3⟩, h4⟩, h5⟩, h6⟩, h7⟩, h8⟩ := h
  exact ⟨sm64d _ h0.1 h0.2, sm64d _ h1.1 h1.2, sm64d _ h2.1 h2.2, sm64d _ h3.1 h3.2, sm64d _ h4.1 h4.2, sm64d _ h5.1 h5.2, sm64d _ h6.1 h6.2, sm64d _ h7.1 h7.2, sm64d _ h8.1 h8.2⟩
/-- The tables are laid, that of the kinds of events too. -/
structure LaidE (w : World) : Prop where
  d : LaidD w
  ev : EvT w
theorem LaidE.below {w w' : World} (h : LaidE w) (hb : Below w.heap.size w w') : LaidE w' := ⟨h.d.below hb, h.ev.below hb⟩
def LawOkD (w : World) (e : Ending) (w' : World) : Prop := e = .returned (.bool true) ∧ Below w.heap.size w w'
set_option maxRecDepth 100000 in
set_option maxHeartbeats 8000000 in
theorem dLives (w : World) (hL : LaidE w) : Calls Tryz.prog 21 #[] w fun e w' => e = .returned (.bool true) ∧ Below w.heap.size w w' := by
  have HL := Lib.hid (fun X (hX : Below w.heap.size w X) => hL.below hX)
  have HB0 := Lib.hid (Below.refl w.heap.size w)
  clear hL
  go_enter Tryz.func21, Tryz.ntmps21
  go_wp2_with fail
  refine (dExample _).mono ?_
  rintro e w1 ⟨a1, rfl, p1, b1⟩
  have P1 := Lib.hid p1
  have B1 := Lib.hid b1
  clear p1 b1
  go_wp2_with fail
  refine (dProg _ P1.out dsWf (HL.out _ B1.out).d).mono ?_
  rintro e w2 ⟨he, b2⟩
  rw [dsDis] at he
  have he : e = .returned (.tuple #[.string ⟨dsT.toArray⟩, .int .i64 0]) := he
  subst he
  have B2 := Lib.hid (belowThen B1.out b2)
  clear b2
  go_wp2_with fail
  refine (dExample _).mono ?_
  rintro e w3 ⟨a3, rfl, p3, b3⟩
  have P3 := Lib.hid p3
  have B3 := Lib.hid (belowThen B2.out b3)
  clear p3 b3
  go_wp2_with fail
  refine (dEvent dsE1 (e9Small _ (by decide)) _ P3.out dsWf (HL.out _ B3.out).d (HL.out _ B3.out).ev).mono ?_
  rintro e w4 ⟨he, b4⟩
  rw [dsEv1] at he
  have he : e = .returned (.tuple #[.string ⟨#[48, 46, 50, 32, 98, 117, 102, 102, 101, 114, 32, 120, 32, 112, 108, 97, 105, 110, 32, 53, 32, 49]⟩, .int .i64 0]) := he
  subst he
  have B4 := Lib.hid (belowThen B3.out b4)
  clear b4
  go_wp2_with fail
  refine (dExample _).mono ?_
  rintro e w5 ⟨a5, rfl, p5, b5⟩
  have P5 := Lib.hid p5
  have B5 := Lib.hid (belowThen B4.out b5)
  clear p5 b5
  go_wp2_with fail
  refine (dEvent dsE2 (e9Small _ (by decide)) _ P5.out dsWf (HL.out _ B5.out).d (HL.out _ B5.out).ev).mono ?_
  rintro e w6 ⟨he, b6⟩
  rw [dsEv2] at he
  have he : e = .returned (.tuple #[.string ⟨#[48, 98, 46, 48, 32, 102, 108, 117, 115, 104, 32, 120, 32, 53, 32, 49]⟩, .int .i64 0]) := he
  subst he
  have B6 := Lib.hid (belowThen B5.out b6)
  clear b6
  go_wp2_with fail
  refine (dExample _).mono ?_
  rintro e w7 ⟨a7, rfl, p7, b7⟩
  have P7 := Lib.hid p7
  have B7 := Lib.hid (belowThen B6.out b7)
  clear p7 b7
  go_wp2_with fail
  refine (dExample _).mono ?_
  rintro e w8 ⟨a8, rfl, p8, b8⟩
  have P7 := Lib.hid (P7.out.below b8)
  have B8 := Lib.hid (belowThen B7.out b8)
  obtain ⟨q, off, hA, _, _, v, h2, Ac, nc, cc, rfl, hnc, hrd⟩ := p8.funcs.one (j := 0) (by decide)
  obtain ⟨q2, off2, hA2, _, hEI⟩ := hrd.one (j := 0) (by decide)
  have hEI : EI w8 q2 (off2 + 0 * 8) ⟨8, 1, 0, 0, 0, 0, 0, 2⟩ := hEI
  obtain ⟨c0, c1, c2, c3, c4, c5, c6, c7⟩ := hEI
  have hl4 := p8.l4
  have hnc : 2 = nc := hnc
  subst hnc
  have hl4 : 1 = a8.n4 := hl4
  simp only [Nat.zero_mul, Nat.add_zero] at h2 c0 c1 c2 c3 c4 c5 c6 c7
  clear p8 b8 hrd
  obtain ⟨A1, n1, d1, A2, n2, d2, A3, n3, d3, A4, n4, d4, A5, n5, d5⟩ := a8
  simp only [PgA.val, PgA.fs] at *
  subst hA
  subst hA2
  subst hl4
  have hfld := fld3
  go_wp2_with fail
  refine (dInstr ⟨8, 1, 0, 0, 0, 0, 0, 2⟩ (wfSmall _ (by decide)) _ P7.out dsWf (HL.out _ B8.out).d).mono ?_
  rintro e w9 ⟨he, b9⟩
  rw [dsIns] at he
  have he : e = .returned (.tuple #[.string ⟨#[108, 111, 97, 100, 32, 114, 49, 32, 120, 32, 114, 101, 108, 97, 99, 113]⟩, .int .i64 0]) := he
  subst he
  have B9 := Lib.hid (belowThen B8.out b9)
  clear hfld b9 h2 c0 c1 c2 c3 c4 c5 c6 c7
  go_wp2
  go_ret
  exact ⟨by first | rfl | simp [dsT], B9.out⟩
end Go.Proofs.YtnckpjcfgeajbaaGreatDoor

namespace Go.Proofs.YtnckpjcfgeajbaaGreatDoor
open Go Go.ChangeShapes Go.WideShapes Go.ChangeAt Go.WideMaps Go.WideElems Go.RowKit Go.Deep Go.Joins

theorem ownKnob0 : ownKnob Tryz.prog.godebug = none := by kernel_rfl
theorem laidOut0 : laidOutB Tryz.prog = true := by kernel_rfl

section
variable {H : Type} {enc : TypeId × Value → H} {P : Program} {w : World} {base : Nat} {sp : Nat → Bool} {held : Bool} {fuel : Nat}
theorem intOfTrod {t : TypeId} {v : Value} {y : DataW H × List MemPlace} (ht : P.underlying t = some (.int .i64)) (h : DataW.trod enc P w base sp held fuel t [v] = some y) : ∃ n, v = .int .i64 n ∧ In64 n := by
  obtain ⟨n, e, _, hw⟩ := DataW.trod_int ht h
  refine ⟨n, by simpa using e, ?_⟩
  have hw' : (decide (IntKind.i64.min ≤ n) && decide (n ≤ IntKind.i64.max)) = true := hw
  rw [Bool.and_eq_true, decide_eq_true_iff, decide_eq_true_iff] at hw'
  exact hw'
end


theorem cellsStr : Tryz.prog.cellsOf 9 = 1 := by kernel_rfl
theorem cellsBool : Tryz.prog.cellsOf 4 = 1 := by kernel_rfl
theorem cells7b : Tryz.prog.cellsOf 179 = 7 := by kernel_rfl
theorem cellsRow : Tryz.prog.cellsOf 181 = 8 := by kernel_rfl
theorem cellsRows : Tryz.prog.cellsOf 182 = 184 := by kernel_rfl
theorem byteArrayEq {a b : ByteArray} (h : a.data.toList = b.data.toList) : a = b := by
  cases a with | mk x => cases b with | mk y => simp only [ByteArray.mk.injEq]; exact Array.toList_inj.1 h

/-- An array of strings that reads as the list holds the list's strings, cell for cell. -/
theorem cellsOfStrs {H : Type} {enc : TypeId × Value → H} {P : Program} {w : World} {base : Nat} {sp : Nat → Bool} {held : Bool} {fuel : Nat} {t e : TypeId} {n : Nat} {cs : List Value} {ss : List ByteArray} {p : List MemPlace}
    (ht : P.underlying t = some (.array n e)) (he : P.underlying e = some .string) (hce : P.cellsOf e = 1) (hct : P.cellsOf t = n)
    (h : DataW.trod enc P w base sp held fuel t cs = some (.agg (ss.map fun s => .lit (.string s.data.toList)), p)) : cs = ss.map Value.string := by
  obtain ⟨xs, m, _, hx, hl, hn, hel⟩ := DataW.trod_array ht h
  rw [hct] at hl
  have hxs : ss.map (fun s => (DataW.lit (.string s.data.toList) : DataW H)) = xs.map (·.1) := by
    have := congrArg Prod.fst hx
    simpa using this
  have hzl : ss.length = n := by
    have := congrArg List.length hxs
    simp at this
    omega
  apply List.ext_getElem?
  intro i
  by_cases hi : i < n
  · have hE := hel i hi
    rw [hce, Nat.mul_one] at hE
    have hxi : i < xs.length := by omega
    rw [List.getElem?_eq_getElem hxi] at hE
    obtain ⟨s', hc, hd, _⟩ := DataW.trod_string he hE
    have h1 : cs[i]? = some (.string s') := by
      have := congrArg (·[0]?) hc
      simpa [List.getElem?_take, List.getElem?_drop] using this
    have h2 := congrArg (·[i]?) hxs
    have hsi : i < ss.length := by omega
    simp only [List.getElem?_map, List.getElem?_eq_getElem hxi, List.getElem?_eq_getElem hsi, Option.map_some, hd, Option.some.injEq, DataW.lit.injEq, Lit.string.injEq] at h2
    rw [h1, List.getElem?_map, List.getElem?_eq_getElem hsi, Option.map_some, byteArrayEq h2]
  · rw [List.getElem?_eq_none (by omega), List.getElem?_eq_none (by simp; omega)]

/-- An array of Booleans that reads as the list holds the list's Booleans, cell for cell. -/
theorem cellsOfBools {H : Type} {enc : TypeId × Value → H} {P : Program} {w : World} {base : Nat} {sp : Nat → Bool} {held : Bool} {fuel : Nat} {t e : TypeId} {n : Nat} {cs : List Value} {ss : List Bool} {p : List MemPlace}
    (ht : P.underlying t = some (.array n e)) (he : P.underlying e = some .bool) (hce : P.cellsOf e = 1) (hct : P.cellsOf t = n)
    (h : DataW.trod enc P w base sp held fuel t cs = some (.agg (ss.map fun s => .lit (.bool s)), p)) : cs = ss.map Value.bool := by
  obtain ⟨xs, m, _, hx, hl, hn, hel⟩ := DataW.trod_array ht h
  rw [hct] at hl
  have hxs : ss.map (fun s => (DataW.lit (.bool s) : DataW H)) = xs.map (·.1) := by
    have := congrArg Prod.fst hx
    simpa using this
  have hzl : ss.length = n := by
    have := congrArg List.length hxs
    simp at this
    omega
  apply List.ext_getElem?
  intro i
  by_cases hi : i < n
  · have hE := hel i hi
    rw [hce, Nat.mul_one] at hE
    have hxi : i < xs.length := by omega
    rw [List.getElem?_eq_getElem hxi] at hE
    obtain ⟨s', hc, hd⟩ := DataW.trod_bool he hE
    have h1 : cs[i]? = some (.bool s') := by
      have := congrArg (·[0]?) hc
      simpa [List.getElem?_take, List.getElem?_drop] using this
    have h2 := congrArg (·[i]?) hxs
    have hsi : i < ss.length := by omega
    simp only [List.getElem?_map, List.getElem?_eq_getElem hxi, List.getElem?_eq_getElem hsi, Option.map_some, hd, Option.some.injEq, DataW.lit.injEq, Lit.bool.injEq] at h2
    rw [h1, List.getElem?_map, List.getElem?_eq_getElem hsi, Option.map_some, h2]
  · rw [List.getElem?_eq_none (by omega), List.getElem?_eq_none (by simp; omega)]

theorem gNames : Tryz.prog.globalNamed "modelcheck/value.names" = some 3 := by kernel_rfl
theorem gNamesT : (Tryz.prog.globals[3]?).map (·.type) = some 220 := by kernel_rfl
theorem cellsNames : Tryz.prog.cellsOf 220 = 11 := by kernel_rfl

theorem nm_of_laid {r : List (String × DataW Unit)} {W : World} (h : laidMet Tryz.prog (("modelcheck/value.names", Rows.laid_modelcheck_value_names) :: r) W) : Nm W := by
  obtain ⟨ps, ⟨g', t', cs, fuel, p, q, hg', ht', hvar, hd, _, _⟩, _⟩ := h
  obtain rfl := Option.some.inj (gNames.symm.trans hg')
  obtain rfl := Option.some.inj (gNamesT.symm.trans ht')
  have hcs : cs.toList = nmTab.map Value.string := cellsOfStrs Tryz.underlying220 Tryz.underlying9 cellsStr cellsNames hd
  intro k hk
  rw [World.var?_cell gNames hvar k, ← Array.getElem?_toList, hcs, List.getElem?_map]
  unfold nm
  rw [List.getD_eq_getElem?_getD, List.getElem?_eq_getElem (show k < nmTab.length from hk)]
  rfl

theorem gOr : Tryz.prog.globalNamed "modelcheck/inst.orderNames" = some 4 := by kernel_rfl
theorem gOrT : (Tryz.prog.globals[4]?).map (·.type) = some 222 := by kernel_rfl
theorem cellsOr : Tryz.prog.cellsOf 222 = 3 := by kernel_rfl

theorem or_of_laid {r : List (String × DataW Unit)} {W : World} (h : laidMet Tryz.prog (("modelcheck/inst.orderNames", Rows.laid_modelcheck_inst_orderNames) :: r) W) : OrT W := by
  obtain ⟨ps, ⟨g', t', cs, fuel, p, q, hg', ht', hvar, hd, _, _⟩, _⟩ := h
  obtain rfl := Option.some.inj (gOr.symm.trans hg')
  obtain rfl := Option.some.inj (gOrT.symm.trans ht')
  have hcs : cs.toList = orTab.map Value.string := cellsOfStrs Tryz.underlying222 Tryz.underlying9 cellsStr cellsOr hd
  intro k hk
  rw [World.var?_cell gOr hvar k, ← Array.getElem?_toList, hcs, List.getElem?_map]
  unfold orn
  rw [List.getD_eq_getElem?_getD, List.getElem?_eq_getElem (show k < orTab.length from hk)]
  rfl


/-- The rows of the table of operations. -/
def rowTab : List (ByteArray × List Bool) := mnTab.zip usTab
def rowD {H : Type} (a : ByteArray × List Bool) : DataW H := .agg [.lit (.string a.1.data.toList), .agg (a.2.map fun b => .lit (.bool b))]
def rowC (a : ByteArray × List Bool) : List Value := .string a.1 :: a.2.map Value.bool
theorem rowCells {H : Type} {enc : TypeId × Value → H} {w : World} {base : Nat} {sp : Nat → Bool} {held : Bool} {fuel : Nat} {cs : List Value} {a : ByteArray × List Bool} {p : List MemPlace}
    (h : DataW.trod enc Tryz.prog w base sp held fuel 181 cs = some (rowD a, p)) : cs = rowC a := by
  obtain ⟨y0, y1, n, hx, hl, h0, h1⟩ := trod_struct2 Tryz.underlying181 h
  rw [cellsRow] at hl
  simp only [cellsStr, cells7b, List.drop_zero] at h0 h1
  simp only [rowD, Prod.mk.injEq, DataW.agg.injEq, List.cons.injEq, and_true] at hx
  obtain ⟨⟨e0, e1⟩, _⟩ := hx
  obtain ⟨s', hc, hd, _⟩ := DataW.trod_string Tryz.underlying9 h0
  have hs : s' = a.1 := by
    rw [hd] at e0
    simp only [DataW.lit.injEq, Lit.string.injEq] at e0
    exact byteArrayEq e0.symm
  obtain ⟨d1, p1⟩ := y1
  simp only at e1
  subst e1
  have hb := cellsOfBools Tryz.underlying179 Tryz.underlying4 cellsBool cells7b h1
  rw [List.take_of_length_le (by rw [List.length_drop]; omega)] at hb
  unfold rowC
  rw [← hb, ← hs]
  have := List.take_append_drop 1 cs
  rw [hc] at this
  exact this.symm
theorem gRows : Tryz.prog.globalNamed "modelcheck/inst.rows" = some 2 := by kernel_rfl
theorem gRowsT : (Tryz.prog.globals[2]?).map (·.type) = some 182 := by kernel_rfl
theorem rowTabIs : (Rows.laid_modelcheck_inst_rows : DataW Unit) = .agg (rowTab.map rowD) := by rfl
theorem rowTabAt : ∀ k, k < 23 → ∃ l, rowTab[k]? = some (mn k, l) ∧ ∀ f, f < 7 → l[f]? = some (us k f) := by
  intro k hk
  have h : ∀ k, k < 23 → (rowTab[k]?.map fun a => (a.1.data.toList, a.2)) = some ((mn k).data.toList, (List.range 7).map (us k)) := by decide
  have := h k hk
  cases e : rowTab[k]? with
  | none => rw [e] at this; cases this
  | some a =>
    rw [e] at this
    simp only [Option.map_some, Option.some.injEq, Prod.mk.injEq] at this
    refine ⟨a.2, by rw [← byteArrayEq this.1], fun f hf => ?_⟩
    rw [this.2, List.getElem?_map, List.getElem?_range hf]
    rfl
theorem ins_of_laid {r : List (String × DataW Unit)} {W : World} (h : laidMet Tryz.prog (("modelcheck/inst.rows", Rows.laid_modelcheck_inst_rows) :: r) W) : InsT W := by
  obtain ⟨ps, ⟨g', t', cs, fuel, p, q, hg', ht', hvar, hd, _, _⟩, _⟩ := h
  obtain rfl := Option.some.inj (gRows.symm.trans hg')
  obtain rfl := Option.some.inj (gRowsT.symm.trans ht')
  rw [rowTabIs] at hd
  obtain ⟨xs, m, _, hx, hl, hn, hel⟩ := DataW.trod_array Tryz.underlying182 hd
  rw [cellsRows] at hl
  have hxs : rowTab.map (rowD (H := Unit)) = xs.map (·.1) := by
    have := congrArg Prod.fst hx
    simpa using this
  have key : ∀ k a, k < 23 → rowTab[k]? = some a → ∀ j, j < 8 → cs.toList[k * 8 + j]? = (rowC a)[j]? := by
    intro k a hk ha j hj
    have hE := hel k hk
    rw [cellsRow] at hE
    have hxk : xs[k]?.map (·.1) = some (rowD a) := by
      rw [← List.getElem?_map, ← hxs, List.getElem?_map, ha]; rfl
    cases e : xs[k]? with
    | none => rw [e] at hxk; cases hxk
    | some y =>
      rw [e] at hxk hE
      obtain ⟨d, pl⟩ := y
      simp only [Option.map_some, Option.some.injEq] at hxk
      subst hxk
      have hc := rowCells hE
      rw [← hc, List.getElem?_take_of_lt hj, List.getElem?_drop]
  refine ⟨fun k hk => ?_, fun k f hk hf => ?_⟩
  · obtain ⟨l, hl1, _⟩ := rowTabAt k hk
    rw [World.var?_cell gRows hvar, ← Array.getElem?_toList]
    exact key k _ hk hl1 0 (by omega)
  · obtain ⟨l, hl1, hl2⟩ := rowTabAt k hk
    rw [World.var?_cell gRows hvar, ← Array.getElem?_toList, Nat.add_assoc, key k _ hk hl1 (1 + f) (by omega)]
    unfold rowC
    rw [Nat.add_comm 1 f, List.getElem?_cons_succ, List.getElem?_map, hl2 f hf]
    rfl


theorem listOf {α : Type} {R : Nat → α → Prop} : ∀ (n : Nat), (∀ i, i < n → ∃ x, R i x) → ∃ l : List α, l.length = n ∧ ∀ i (hi : i < l.length), R i l[i]
  | 0, _ => ⟨[], rfl, fun i hi => absurd hi (by simp)⟩
  | n + 1, h => by
    obtain ⟨l, hl, hR⟩ := listOf n fun i hi => h i (by omega)
    obtain ⟨x, hx⟩ := h n (by omega)
    refine ⟨l ++ [x], by simp [hl], fun i hi => ?_⟩
    rw [List.length_append, List.length_singleton] at hi
    by_cases e : i < l.length
    · rw [List.getElem_append_left e]
      exact hR i e
    · have e2 : i = l.length := by omega
      subst e2
      rw [List.getElem_append_right (Nat.le_refl _)]
      simpa [hl] using hx
section
variable {H : Type} {enc : TypeId × Value → H} {W : World} {b0 : Nat}
/-- A slice as an argument, whatever its elements. -/
theorem openE {α : Type} {t e : TypeId} {k fuel : Nat} {v : Value} {y : DataW H × List MemPlace} (E : World → Nat → Nat → α → Prop) (Q : α → Prop) (ht : Tryz.prog.underlying t = some (.slice e)) (hk : Tryz.prog.cellsOf e = k) (hk0 : 0 < k)
    (hel : ∀ (b o : Nat) (cs : List Value) (n : Nat) (x : DataW H × List MemPlace), cs.length = k → (∀ j (h : j < cs.length), W.cell? ⟨b, o + j, none⟩ = some cs[j]) → DataW.trod enc Tryz.prog W b0 (fun _ => true) true n e cs = some x → ∃ z, E W b o z ∧ Q z)
    (h : DataW.trod enc Tryz.prog W b0 (fun _ => true) true fuel t [v] = some y) : ∃ (A : Option Addr) (n c : Nat) (l : List α), v = .slice A n c ∧ l.length = n ∧ RdE k E W A c l ∧ ∀ x ∈ l, Q x := by
  rcases open_slice ht h with ⟨hcs, hx⟩ | ⟨a, len, cap, m, n, D, Pl, hcs, hb, hl, hmx, hmm, hx, hcell⟩
  · injection hcs with hcs
    exact ⟨none, 0, 0, [], hcs, rfl, RdE.nil, fun _ h => by cases h⟩
  · injection hcs with hcs
    simp only [if_true] at hmm
    subst hmm
    rcases Nat.eq_zero_or_pos len with h0 | h0
    · subst h0
      exact ⟨some a, 0, m, [], hcs, rfl, ⟨by simp, hmx, fun h => absurd h (by simp)⟩, fun _ h => by cases h⟩
    obtain ⟨cs0, h1, _⟩ := hcell 0 (by omega)
    rw [hk] at h1
    obtain ⟨_, hlen0, hc0⟩ := World.cells?_some h1
    have e0 := (hc0 0 (by omega)).trans (List.getElem?_eq_getElem (by omega))
    obtain ⟨b, off, spot⟩ := a
    have hspot : spot = none := by simpa [Addr.add] using World.cell?_spot e0
    subst hspot
    have hbl : b < W.heap.size := by
      have := World.block_lt_of_cell? W _ e0
      simpa [Addr.add] using this
    obtain ⟨l, hll, hR⟩ := listOf (R := fun i z => E W b (off + i * k) z ∧ Q z) len fun i hi => by
      obtain ⟨cs', h1, h2⟩ := hcell i (by omega)
      rw [hk] at h1
      obtain ⟨_, hlen, hc⟩ := World.cells?_some h1
      refine hel b (off + i * k) cs' _ _ hlen (fun j hj => ?_) h2
      have := hc j (by omega)
      rw [Addr.add_lit, Addr.add_lit] at this
      exact this.trans (List.getElem?_eq_getElem hj)
    refine ⟨_, len, m, l, hcs, hll, ⟨by omega, hmx, fun _ => ⟨b, off, rfl, hbl, fun j hj => (hR j hj).1⟩⟩, fun x hx => ?_⟩
    obtain ⟨i, hi, rfl⟩ := List.getElem_of_mem hx
    exact (hR i hi).2
theorem elS {b o n : Nat} {cs : List Value} {x : DataW H × List MemPlace} (hl : cs.length = 1) (hc : ∀ j (h : j < cs.length), W.cell? ⟨b, o + j, none⟩ = some cs[j]) (h : DataW.trod enc Tryz.prog W b0 (fun _ => true) true n 9 cs = some x) : ∃ z, ES W b o z ∧ z.size ≤ maxLen := by
  obtain ⟨s, e, _, hs⟩ := DataW.trod_string Tryz.underlying9 h
  subst e
  exact ⟨s, hc 0 (by simp), hs⟩
theorem varFs : ∃ fs, Tryz.prog.underlying 56 = some (.struct fs) ∧ oneCellFields Tryz.prog fs = true ∧ fs.map (·.type) = #[9, 3] ∧ Tryz.prog.cellsOf 56 = 2 := ⟨_, Tryz.underlying56, by kernel_rfl, by kernel_rfl, by kernel_rfl⟩
theorem startFs : ∃ fs, Tryz.prog.underlying 61 = some (.struct fs) ∧ oneCellFields Tryz.prog fs = true ∧ fs.map (·.type) = #[3, 3] ∧ Tryz.prog.cellsOf 61 = 2 := ⟨_, Tryz.underlying61, by kernel_rfl, by kernel_rfl, by kernel_rfl⟩
theorem funcFs : ∃ fs, Tryz.prog.underlying 59 = some (.struct fs) ∧ oneCellFields Tryz.prog fs = true ∧ fs.map (·.type) = #[9, 57] ∧ Tryz.prog.cellsOf 59 = 2 := ⟨_, Tryz.underlying59, by kernel_rfl, by kernel_rfl, by kernel_rfl⟩
theorem instFs2 : ∃ fs, Tryz.prog.underlying 41 = some (.struct fs) ∧ oneCellFields Tryz.prog fs = true ∧ fs.map (·.type) = #[37, 3, 3, 3, 3, 3, 38, 39] ∧ Tryz.prog.cellsOf 41 = 8 := ⟨_, Tryz.underlying41, by kernel_rfl, by kernel_rfl, by kernel_rfl⟩
theorem progFs : ∃ fs, Tryz.prog.underlying 28 = some (.struct fs) ∧ oneCellFields Tryz.prog fs = true ∧ fs.map (·.type) = #[23, 24, 24, 25, 26] ∧ Tryz.prog.cellsOf 28 = 5 := ⟨_, Tryz.underlying28, by kernel_rfl, by kernel_rfl, by kernel_rfl⟩
theorem elV {b o n : Nat} {cs : List Value} {x : DataW H × List MemPlace} (hl : cs.length = 2) (hc : ∀ j (h : j < cs.length), W.cell? ⟨b, o + j, none⟩ = some cs[j]) (h : DataW.trod enc Tryz.prog W b0 (fun _ => true) true n 56 cs = some x) : ∃ z, EV W b o z ∧ z.1.size ≤ maxLen := by
  obtain ⟨fs, g1, g2, g3, g4⟩ := varFs
  obtain ⟨m, hf⟩ := fieldsOf g1 g2 g3 rfl hl h
  obtain ⟨_, f0⟩ := hf 0 (by omega) _ rfl
  obtain ⟨_, f1⟩ := hf 1 (by omega) _ rfl
  obtain ⟨s, e0, _, hs⟩ := DataW.trod_string Tryz.underlying9 f0
  obtain ⟨z, e1, _⟩ := DataW.trod_int Tryz.underlying3 f1
  injection e0 with e0
  injection e1 with e1
  exact ⟨(s, z), ⟨(hc 0 (by omega)).trans (by rw [e0]), (hc 1 (by omega)).trans (by rw [e1])⟩, hs⟩
theorem elT {b o n : Nat} {cs : List Value} {x : DataW H × List MemPlace} (hl : cs.length = 2) (hc : ∀ j (h : j < cs.length), W.cell? ⟨b, o + j, none⟩ = some cs[j]) (h : DataW.trod enc Tryz.prog W b0 (fun _ => true) true n 61 cs = some x) : ∃ z, ET W b o z ∧ True := by
  obtain ⟨fs, g1, g2, g3, g4⟩ := startFs
  obtain ⟨m, hf⟩ := fieldsOf g1 g2 g3 rfl hl h
  obtain ⟨_, f0⟩ := hf 0 (by omega) _ rfl
  obtain ⟨_, f1⟩ := hf 1 (by omega) _ rfl
  obtain ⟨s, e0, _⟩ := DataW.trod_int Tryz.underlying3 f0
  obtain ⟨z, e1, _⟩ := DataW.trod_int Tryz.underlying3 f1
  injection e0 with e0
  injection e1 with e1
  exact ⟨(s, z), ⟨(hc 0 (by omega)).trans (by rw [e0]), (hc 1 (by omega)).trans (by rw [e1])⟩, trivial⟩
theorem elI {b o n : Nat} {cs : List Value} {x : DataW H × List MemPlace} (hl : cs.length = 8) (hc : ∀ j (h : j < cs.length), W.cell? ⟨b, o + j, none⟩ = some cs[j]) (h : DataW.trod enc Tryz.prog W b0 (fun _ => true) true n 41 cs = some x) : ∃ z, EI W b o z ∧ z.Wf := by
  obtain ⟨fs, g1, g2, g3, g4⟩ := instFs2
  obtain ⟨m, hf⟩ := fieldsOf g1 g2 g3 rfl hl h
  have key : ∀ (i : Nat) (hi : i < cs.length) (u : TypeId), Tryz.prog.underlying u = some (.int .i64) → (#[37, 3, 3, 3, 3, 3, 38, 39] : Array TypeId)[i]? = some u → ∃ z, W.cell? ⟨b, o + i, none⟩ = some (.int .i64 z) ∧ In64 z := fun i hi u hu ht => by
    obtain ⟨_, f0⟩ := hf i hi u ht
    obtain ⟨z, e, hz⟩ := intOfTrod hu f0
    exact ⟨z, (hc i hi).trans (by rw [e]), hz⟩
  obtain ⟨z0, k0, w0⟩ := key 0 (by omega) _ Tryz.underlying37 rfl
  obtain ⟨z1, k1, w1⟩ := key 1 (by omega) _ Tryz.underlying3 rfl
  obtain ⟨z2, k2, w2⟩ := key 2 (by omega) _ Tryz.underlying3 rfl
  obtain ⟨z3, k3, w3⟩ := key 3 (by omega) _ Tryz.underlying3 rfl
  obtain ⟨z4, k4, w4⟩ := key 4 (by omega) _ Tryz.underlying3 rfl
  obtain ⟨z5, k5, w5⟩ := key 5 (by omega) _ Tryz.underlying3 rfl
  obtain ⟨z6, k6, w6⟩ := key 6 (by omega) _ Tryz.underlying38 rfl
  obtain ⟨z7, k7, w7⟩ := key 7 (by omega) _ Tryz.underlying39 rfl
  exact ⟨⟨z0, z1, z2, z3, z4, z5, z6, z7⟩, ⟨k0, k1, k2, k3, k4, k5, k6, k7⟩, ⟨w0, w1, w2, w3, w4, w5, w6, w7⟩⟩
theorem elF {b o n : Nat} {cs : List Value} {x : DataW H × List MemPlace} (hl : cs.length = 2) (hc : ∀ j (h : j < cs.length), W.cell? ⟨b, o + j, none⟩ = some cs[j]) (h : DataW.trod enc Tryz.prog W b0 (fun _ => true) true n 59 cs = some x) : ∃ z, EF W b o z ∧ (z.1.size ≤ maxLen ∧ ∀ i ∈ z.2, i.Wf) := by
  obtain ⟨fs, g1, g2, g3, g4⟩ := funcFs
  obtain ⟨m, hf⟩ := fieldsOf g1 g2 g3 rfl hl h
  obtain ⟨_, f0⟩ := hf 0 (by omega) _ rfl
  obtain ⟨_, f1⟩ := hf 1 (by omega) _ rfl
  obtain ⟨s, e0, _, hs⟩ := DataW.trod_string Tryz.underlying9 f0
  injection e0 with e0
  obtain ⟨A, q, c, l, e1, hq, hr, hw⟩ := openE EI I8.Wf Tryz.underlying57 (k := 8) (by kernel_rfl) (by decide) (fun b o cs n x h1 h2 h3 => elI h1 h2 h3) f1
  exact ⟨(s, l), ⟨(hc 0 (by omega)).trans (by rw [e0]), _, hc 1 (by omega), A, q, c, e1, hq, hr⟩, hs, hw⟩
set_option maxRecDepth 100000 in
/-- A program as an argument. -/
theorem openPg {base : Nat} {v : Value} {d : DataW H} {p : List MemPlace} (hv : Value.okWide Tryz.prog W .any base 28 v) (h : DataW.Trod enc Tryz.prog W b0 (fun _ => true) true 28 v d p) :
    ∃ (a : PgA) (g : Prg), v = a.val ∧ PgW W a g ∧ g.Wf := by
  obtain ⟨fs, g1, g2, g3, g4⟩ := progFs
  obtain ⟨cs, rfl, hsz⟩ := okWide_struct g1 hv
  rw [g4] at hsz
  obtain ⟨fuel, hf⟩ := h
  have hf' : DataW.trod enc Tryz.prog W b0 (fun _ => true) true fuel 28 cs.toList = some (d, p) := hf
  have hl : cs.toList.length = 5 := by simpa using hsz
  obtain ⟨m, hx⟩ := fieldsOf g1 g2 g3 rfl hl hf'
  obtain ⟨l⟩ := cs
  match l, hl with
  | [v1, v2, v3, v4, v5], _ =>
    obtain ⟨_, f1⟩ := hx 0 (by simp) _ rfl
    obtain ⟨_, f2⟩ := hx 1 (by simp) _ rfl
    obtain ⟨_, f3⟩ := hx 2 (by simp) _ rfl
    obtain ⟨_, f4⟩ := hx 3 (by simp) _ rfl
    obtain ⟨_, f5⟩ := hx 4 (by simp) _ rfl
    obtain ⟨A1, n1, c1, l1, e1, q1, r1, w1⟩ := openE EV (fun z => z.1.size ≤ maxLen) Tryz.underlying23 (k := 2) (by kernel_rfl) (by decide) (fun b o cs n x h1 h2 h3 => elV h1 h2 h3) f1
    obtain ⟨A2, n2, c2, l2, e2, q2, r2, w2⟩ := openE ES (fun z => z.size ≤ maxLen) Tryz.underlying24 (k := 1) (by kernel_rfl) (by decide) (fun b o cs n x h1 h2 h3 => elS h1 h2 h3) f2
    obtain ⟨A3, n3, c3, l3, e3, q3, r3, w3⟩ := openE ES (fun z => z.size ≤ maxLen) Tryz.underlying24 (k := 1) (by kernel_rfl) (by decide) (fun b o cs n x h1 h2 h3 => elS h1 h2 h3) f3
    obtain ⟨A4, n4, c4, l4, e4, q4, r4, w4⟩ := openE EF (fun z => z.1.size ≤ maxLen ∧ ∀ i ∈ z.2, i.Wf) Tryz.underlying25 (k := 2) (by kernel_rfl) (by decide) (fun b o cs n x h1 h2 h3 => elF h1 h2 h3) f4
    obtain ⟨A5, n5, c5, l5, e5, q5, r5, w5⟩ := openE ET (fun _ => True) Tryz.underlying26 (k := 2) (by kernel_rfl) (by decide) (fun b o cs n x h1 h2 h3 => elT h1 h2 h3) f5
    have e1 : v1 = _ := e1
    have e2 : v2 = _ := e2
    have e3 : v3 = _ := e3
    have e4 : v4 = _ := e4
    have e5 : v5 = _ := e5
    subst e1 e2 e3 e4 e5
    exact ⟨⟨A1, n1, c1, A2, n2, c2, A3, n3, c3, A4, n4, c4, A5, n5, c5⟩, ⟨l1, l2, l3, l4, l5⟩, rfl, ⟨q1, q2, q3, q4, q5, r1, r2, r3, r4, r5⟩, ⟨fun f hf => (w4 f hf).2, w1, w2, w3, fun f hf => (w4 f hf).1⟩⟩
end

theorem gEv : Tryz.prog.globalNamed "modelcheck/disasm.eventNames" = some 0 := by kernel_rfl
theorem gEvT : (Tryz.prog.globals[0]?).map (·.type) = some 122 := by kernel_rfl
theorem cellsEv : Tryz.prog.cellsOf 122 = 18 := by kernel_rfl
theorem ev_of_laidD {r : List (String × DataW Unit)} {W : World} (h : laidMet Tryz.prog (("modelcheck/disasm.eventNames", Rows.laid_modelcheck_disasm_eventNames) :: r) W) : EvT W := by
  obtain ⟨ps, ⟨g', t', cs, fuel, p, q, hg', ht', hvar, hd, _, _⟩, _⟩ := h
  obtain rfl := Option.some.inj (gEv.symm.trans hg')
  obtain rfl := Option.some.inj (gEvT.symm.trans ht')
  have hcs : cs.toList = evTab.map Value.string := cellsOfStrs Tryz.underlying122 Tryz.underlying9 cellsStr cellsEv hd
  intro k hk
  rw [World.var?_cell gEv hvar k, ← Array.getElem?_toList, hcs, List.getElem?_map]
  unfold evn
  rw [List.getD_eq_getElem?_getD, List.getElem?_eq_getElem (show k < evTab.length from hk)]
  rfl
theorem gPowT : (Tryz.prog.globals[6]?).map (·.type) = some 251 := by kernel_rfl
theorem cellsPow : Tryz.prog.cellsOf 251 = 20 := by kernel_rfl
theorem cellsU64 : Tryz.prog.cellsOf 243 = 1 := by kernel_rfl
abbrev laidE : List (String × DataW Unit) := Rows.disasmProgramsRow.laid
theorem metE {W : World} (h : laidMetH Tryz.prog laidE W) : LaidE W := by
  have h1 : laidMet Tryz.prog laidE W := by rwa [MakeChecks.laidMetH_plain _ _ _ (by kernel_rfl)] at h
  have h3 := laidMet.tail (laidMet.tail h1)
  have h4 := laidMet.tail h3
  have h5 := laidMet.tail h4
  have h6 := laidMet.tail h5
  have h7 := laidMet.tail h6
  exact ⟨⟨ins_of_laid h5, or_of_laid h6, nm_of_laid h4, Lib.tabIs_of_head gTab gPowT Tryz.underlying251 Tryz.underlying243 cellsU64 cellsPow h3⟩, ev_of_laidD h7⟩
theorem doorE (os : Os) (args : Array Value) : laidMetH Tryz.prog laidE ((World.doorLaid Tryz.prog 400 os).forCall (fun _ _ => 0) ⟨#[], args, []⟩).memory := by
  rw [MakeChecks.laidMetH_plain _ _ _ (by kernel_rfl)]
  exact laidMet_of_run' 8 (by kernel_rfl) (by kernel_rfl)
/-! An instruction as an argument. -/
section
variable {H : Type} {enc : TypeId × Value → H} {P : Program} {w : World} {base : Nat} {sp : Nat → Bool} {held : Bool} {fuel : Nat}
theorem array8 {α : Type} {cs : Array α} (h : cs.size = 8) : ∃ c0 c1 c2 c3 c4 c5 c6 c7, cs = #[c0, c1, c2, c3, c4, c5, c6, c7] := by
  obtain ⟨l⟩ := cs
  match l, h with
  | [c0, c1, c2, c3, c4, c5, c6, c7], _ => exact ⟨c0, c1, c2, c3, c4, c5, c6, c7, rfl⟩
end

set_option maxRecDepth 100000 in
theorem instFs : ∃ fs, Tryz.prog.underlying 41 = some (.struct fs) ∧ Deep.oneCellFields Tryz.prog fs = true ∧ fs.size = 8 ∧ (fs.toList.all fun f => [37, 3, 38, 39].contains f.type) = true :=
  ⟨_, Tryz.underlying41, by kernel_rfl, by kernel_rfl, by kernel_rfl⟩
theorem underI {u : TypeId} (h : ([37, 3, 38, 39] : List TypeId).contains u = true) : Tryz.prog.underlying u = some (.int .i64) := by
  simp only [List.contains_cons, List.contains_nil, Bool.or_false, Bool.or_eq_true, beq_iff_eq] at h
  rcases h with rfl | rfl | rfl | rfl
  · exact Tryz.underlying37
  · exact Tryz.underlying3
  · exact Tryz.underlying38
  · exact Tryz.underlying39
theorem cellsInst : Tryz.prog.cellsOf 41 = 8 := by kernel_rfl

set_option maxRecDepth 100000 in
theorem openI8 {H : Type} {enc : TypeId × Value → H} {W : World} {base b0 : Nat} {v : Value} {d : DataW H} {p : List MemPlace} (hv : Value.okWide Tryz.prog W .any base 41 v) (h : DataW.Trod enc Tryz.prog W b0 (fun _ => true) true 41 v d p) :
    ∃ i : I8, v = i.val ∧ i.Wf := by
  obtain ⟨fs, hfs, h1, h2, h3⟩ := instFs
  obtain ⟨cs, rfl, hsz⟩ := okWide_struct hfs hv
  obtain ⟨c0, c1, c2, c3, c4, c5, c6, c7, rfl⟩ := array8 (hsz.trans cellsInst)
  obtain ⟨fuel, hf⟩ := h
  obtain ⟨xs, n, _, _, _, hxl, hx⟩ := DataW.trod_struct hfs hf
  have key : ∀ k, k < 8 → ∀ c, [c0, c1, c2, c3, c4, c5, c6, c7][k]? = some c → ∃ z, c = .int .i64 z ∧ In64 z := by
    intro k hk c hc
    have hk' : k < fs.size := by omega
    have hkf : fs[k]? = some fs[k] := Array.getElem?_eq_getElem hk'
    obtain ⟨o, ce⟩ := Deep.hone_of h1 k fs[k] hkf
    have hu : Tryz.prog.underlying fs[k].type = some (.int .i64) := underI (List.all_eq_true.1 h3 fs[k] (by simp))
    have := hx k fs[k] hkf
    rw [o, ce, List.getElem?_eq_getElem (by omega)] at this
    refine intOfTrod (enc := enc) (w := W) (base := b0) (sp := fun _ => true) (held := true) (fuel := n) hu (y := xs[k]) ?_
    rw [← this]
    congr 1
    simp only [Value.cells]
    rcases k with _ | _ | _ | _ | _ | _ | _ | _ | k
    all_goals first | omega | (simp at hc ⊢; exact hc.symm)
  obtain ⟨z0, rfl, g0⟩ := key 0 (by omega) _ rfl
  obtain ⟨z1, rfl, g1⟩ := key 1 (by omega) _ rfl
  obtain ⟨z2, rfl, g2⟩ := key 2 (by omega) _ rfl
  obtain ⟨z3, rfl, g3⟩ := key 3 (by omega) _ rfl
  obtain ⟨z4, rfl, g4⟩ := key 4 (by omega) _ rfl
  obtain ⟨z5, rfl, g5⟩ := key 5 (by omega) _ rfl
  obtain ⟨z6, rfl, g6⟩ := key 6 (by omega) _ rfl
  obtain ⟨z7, rfl, g7⟩ := key 7 (by omega) _ rfl
  exact ⟨⟨z0, z1, z2, z3, z4, z5, z6, z7⟩, rfl, ⟨g0, g1, g2, g3, g4, g5, g6, g7⟩⟩



end Go.Proofs.YtnckpjcfgeajbaaGreatDoor
