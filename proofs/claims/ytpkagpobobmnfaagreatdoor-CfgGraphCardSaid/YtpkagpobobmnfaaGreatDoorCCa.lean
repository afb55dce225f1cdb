/-
  A map from numbers to Booleans as a set: which numbers are in it, a look-up, an entry; steps of a region inside a fence.
-/
import Derived.Test.YtpkagpobobmnfaaGreatDoorCIU
import Derived.Test.YtpkagpobobmnfaaGreatDoorCG3
import Derived.Test.YtpkagpobobmnfaaGreatDoorCOp
import Derived.Test.YtpkagpobobmnfaaGreatDoorCMk
import Derived.Test.YtpkagpobobmnfaaGreatDoorCOwn
import Derived.Test.YtpkagpobobmnfaaGreatDoorCAr
import Derived.Test.YtpkagpobobmnfaaGreatDoorCRow
import Derived.Laws.EntriesVeiled
import Derived.Deep.QuietTactic
import Derived.BigQuiet
import Derived.Test.YtpkagpobobmnfaaGreatDoorCPure
import Derived.Maps.OwnSet
import Derived.Shelf.RegionOpenPlain
import Derived.WalkKit
import Derived.OwnWalkIn
import Derived.TacticsInMore
import Derived.LoopNIn
import Derived.LoopIn
namespace Go.Proofs.YtpkagpobobmnfaaGreatDoor
open Go Go.RowKit Go.Maps

section
variable {F : Fence} {n : Nat} {P : Program} {ops : Array Oper} {rest : List Oper} {o : Oper} {a : Act}
end

theorem wfSmall9 {x : Int} (h : 0 ≤ x) (h' : x ≤ 1000000) : (Lit.int .i64 x).wf = true := by
  have h1 : IntKind.i64.min = -9223372036854775808 := rfl
  have h2 : IntKind.i64.max = 9223372036854775807 := by decide
  rw [Lit.wf, h1, h2, Bool.and_eq_true, decide_eq_true_iff, decide_eq_true_iff]
  omega
/-- Each value reads as itself. -/
def RW9 (v : Value) : Option (DataW Value × List MemPlace) := some (.held v, [])
theorem keyedInt : Keyed Tryz.prog 3 := int_keyed Tryz.underlying3
theorem zeroB9 (w : World) : (zeroValue 4).run Tryz.prog w = .ok (.bool false) w := by kernel_rfl
theorem natLit {x : Nat} (hx : x ≤ 1000000) : (Lit.int .i64 (x : Int)).wf = true := wfSmall9 (by omega) (by omega)
theorem natLitInj {x y : Nat} (h : Lit.int .i64 (x : Int) = Lit.int .i64 (y : Int)) : x = y := Int.ofNat_inj.1 (Lit.int.inj h).2
/-- Block b is the set of the numbers D. -/
def MapSc (w : World) (b : Nat) (D : List Nat) : Prop := ∃ T : DataW Value, w.ownsMap Tryz.prog 3 RW9 b D.length T ∧ Maps.size T = D.length ∧
  (∀ x : Int, Maps.has T (.int .i64 x) = decide (x ∈ D.map Int.ofNat)) ∧ ∀ x : Nat, T.atKey (.int .i64 (x : Int)) (.held (.bool false)) = .held (.bool (decide (x ∈ D)))
section
variable {w w' : World} {b : Nat} {D : List Nat} {F : Nat → Prop}
theorem MapSc.made (w : World) : MapSc (w.alloc (.map #[] 0)) w.heap.size [] := ⟨.map [], World.ownsMap_made _ _ _ _, rfl, fun _ => rfl, fun _ => rfl⟩
theorem MapSc.lt (h : MapSc w b D) : b < w.heap.size := by obtain ⟨T, h, _⟩ := h; exact h.lt
theorem MapSc.chg (h : MapSc w b D) (hc : Chg w w' F) (hF : F b) : MapSc w' b D := by
  have hlt := h.lt
  obtain ⟨T, ⟨es, clock, hb, r⟩, hat⟩ := h
  exact ⟨T, ⟨es, clock, (hc.block b hlt hF).trans hb, r⟩, hat⟩
theorem MapSc.look (h : MapSc w b D) {x : Nat} (hx : x ≤ 1000000) : (Instr.lookup 71 (.map (some b)) (.int .i64 x) false).run Tryz.prog w = .ok (.bool (decide (x ∈ D))) w := by
  obtain ⟨T, h, _, hh, hat⟩ := h
  obtain ⟨v, ps, hr, hv⟩ := h.lookup (t := 71) keyedInt Tryz.underlying71 (zeroB9 w) (zd := .held (.bool false)) (zp := []) rfl (keyOf_int_mk Tryz.underlying3 (natLit hx))
  rw [hat x] at hv
  simp only [RW9, Option.some.injEq, Prod.mk.injEq, DataW.held.injEq] at hv
  rw [hr, hv.1]
theorem MapSc.put (h : MapSc w b D) (hn : D.length < maxLen) {s : Nat} (hs : s ∉ D) (hx : s ≤ 1000000) :
    ∃ w', (Instr.mapUpdate 71 (.map (some b)) (.int .i64 s) (.bool true)).run Tryz.prog w = .ok () w' ∧ MapSc w' b (D ++ [s]) ∧ w.mapTurned w' b := by
  obtain ⟨T, h, hsz, hh, hat⟩ := h
  have hk := keyOf_int_mk (P := Tryz.prog) Tryz.underlying3 (natLit hx)
  obtain ⟨w', hr, ho, hg⟩ := h.store (t := 71) keyedInt Tryz.underlying71 hn hk (val := .bool true) (d := .held (.bool true)) (ps := []) rfl
  have hlen : (D ++ [s]).length = D.length + 1 := by simp
  have hns : ((s : Int) ∈ D.map Int.ofNat) = False := by
    refine eq_false fun h => ?_
    obtain ⟨y, hy, e⟩ := List.mem_map.1 h
    have : y = s := Int.ofNat_inj.1 e
    exact hs (this ▸ hy)
  refine ⟨w', hr, ⟨_, by rw [hlen]; exact ho, ?_, fun y => ?_, fun y => ?_⟩, hg⟩
  · rw [size_put (h.tidy keyedInt), hh s, decide_eq_false (by rw [hns]; exact id), hsz, hlen]
    rfl
  · by_cases e : y = (s : Int)
    · subst e
      rw [has_put_same h.isMap (keyedInt.key hk)]
      symm
      rw [decide_eq_true_iff, List.map_append, List.mem_append]
      exact .inr (by simp)
    · rw [has_put_other (fun e' => e (Lit.int.inj e').2), hh y, decide_eq_decide, List.map_append, List.mem_append]
      simp [e]
  · by_cases e : y = s
    · subst e
      rw [atKey_put_same h.isMap (keyedInt.key hk)]
      simp
    · rw [atKey_put_other (fun e' => e (natLitInj e')), hat y]
      simp [e]
end
end Go.Proofs.YtpkagpobobmnfaaGreatDoor

namespace Go.Proofs.YtpkagpobobmnfaaGreatDoor
open Go Go.RowKit

/-- A function by value. -/
def fnV (nm : ByteArray) (A : Option Addr) (n c : Nat) : Value := .agg #[.string nm, .slice A n c]
/-- What codeOf gives of the code. -/
def cdV (C : List I8) (A : Option Addr) (n c : Nat) : Value := if cfE C = 0 then .slice A n c else .slice none 0 0
theorem ret2V {u v : Value} {x y : Int} (h : u = v) (h' : x = y) : Ending.returned (.tuple #[u, .int .i64 x]) = .returned (.tuple #[v, .int .i64 y]) := by rw [h, h']
/-- The code in memory, and what the checks read. -/
structure CdW (w : World) (A : Option Addr) (c : Nat) (C : List I8) : Prop where
  rd : RdE 8 EI w A c C
  wf : ∀ i ∈ C, i.Wf
  ld : Laid7 w
theorem CdW.below {w w' : World} {A : Option Addr} {c : Nat} {C : List I8} (h : CdW w A c C) (hb : Below w.heap.size w w') : CdW w' A c C := ⟨h.rd.below stabI hb, h.wf, h.ld.below hb⟩
set_option maxRecDepth 100000 in
set_option maxHeartbeats 4000000 in
theorem iCodeOf (nm : ByteArray) (C : List I8) (n : Nat) (hn : C.length = n) (A : Option Addr) (c : Nat) (w : World) (h : CdW w A c C) :
    Calls Tryz.prog 27 #[fnV nm A n c] w fun e w' => e = .returned (.tuple #[cdV C A n c, .int .i64 (cfE C)]) ∧ Below w.heap.size w w' := by
  obtain ⟨r, hrr⟩ : ∃ r, cfE C = r := ⟨_, rfl⟩
  obtain ⟨v, hv⟩ : ∃ v, cdV C A n c = v := ⟨_, rfl⟩
  have HV0 : Hid (r = 0 → v = .slice A n c) := Lib.hid fun h => by rw [← hv]; unfold cdV; rw [if_pos (by rw [hrr, h])]
  have HV1 : Hid (r ≠ 0 → v = .slice none 0 0) := Lib.hid fun h => by rw [← hv]; unfold cdV; rw [if_neg (by rw [hrr]; exact h)]
  rw [hrr, hv]
  clear hv
  obtain ⟨W, hWE⟩ : ∃ W, w.alloc (.cells #[.string nm, .slice A n c] 24) = W := ⟨_, rfl⟩
  have hbW : Below w.heap.size w W := by rw [← hWE]; exact belowAlloc w _
  have hBF : Blk W w.heap.size 24 #[.string nm, .slice A n c] := by rw [← hWE]; exact Blk.new w _ _
  have HKF : Hid (∀ Y, Below W.heap.size W Y → Y.cell? ⟨w.heap.size, 1, none⟩ = some (.slice A n c)) := Lib.hid (fun Y hY => (hBF.below' hY).cell 1)
  have hr := h.rd
  have HI := Lib.hid (fun Y (hY : Below W.heap.size W Y) k (hk : k < C.length) => ((hr.below stabI hbW).below stabI hY).one hk)
  have HLD := Lib.hid (fun Y (hY : Below W.heap.size W Y) => (h.ld.below hbW).below hY)
  have HWF := Lib.hid h.wf
  have hle := hr.le
  have hmx := hr.max
  rw [hn] at hle
  unfold maxLen at hmx
  have HN := Lib.hid hn
  have HW := Lib.hid hWE
  have HBW := Lib.hid hbW
  have hb0 := Below.refl W.heap.size W
  have f1 := HKF.out W hb0
  clear hbW hBF hWE hn hr h
  unfold fnV
  by_cases h64 : 64 < n
  · have HX : Hid (4 = r) := Lib.hid (by rw [← hrr]; unfold cfE; rw [if_pos (by rw [HN.out]; exact h64)])
    clear hrr
    go_enter Tryz.func27, Tryz.ntmps27
    go_wp2
    go_ret2
    exact ⟨ret2V (HV1.out (by rw [← HX.out]; decide)).symm HX.out, by rw [HW.out]; exact HBW.out⟩
  have HR : Hid (cfF n (C.drop 0) = r) := Lib.hid (by rw [← hrr]; unfold cfE; rw [if_neg (by rw [HN.out]; exact h64), HN.out]; rfl)
  clear hrr
  go_enter Tryz.func27, Tryz.ntmps27
  go_wp2
  rw [HW.out]
  go_loopw [15] (fun i wr => ∃ k : Nat, k ≤ n ∧ i = .int .i64 k ∧ Below W.heap.size W wr ∧ Hid (cfF n (C.drop k) = r)) (fun i _ => n - (intOf i).toNat)
  case atStart => exact ⟨0, Nat.zero_le _, rfl, hb0, HR⟩
  case round =>
    obtain ⟨k, hk, rfl, hb, HE⟩ := hrel
    have f1 := HKF.out wr hb
    by_cases hlt : k < n
    · have hkl : k < C.length := by rw [HN.out]; exact hlt
      obtain ⟨q, off, hA, _, i0, i1, i2, i3, i4, i5, i6, i7⟩ := HI.out wr hb k hkl
      have hA : A = _ := hA
      subst hA
      obtain ⟨ii, hii⟩ : ∃ x, C[k] = x := ⟨_, rfl⟩
      rw [hii] at i0 i1 i2 i3 i4 i5 i6 i7
      have HII := Lib.hid hii
      have hwf : ii.Wf := hii ▸ HWF.out C[k] (List.getElem_mem hkl)
      clear hii
      obtain ⟨op, ra, rb, rc, obj, m, fn, ord⟩ := ii
      simp only at i0 i1 i2 i3 i4 i5 i6 i7
      have hk0 : (0 : Int) ≤ k := by omega
      have hk1 : (k : Int) < n := by omega
      obtain ⟨wb, hwb⟩ : ∃ x, wr.alloc (.cells #[.int .i64 op, .int .i64 ra, .int .i64 rb, .int .i64 rc, .int .i64 obj, .int .i64 m, .int .i64 fn, .int .i64 ord] 55) = x := ⟨_, rfl⟩
      have hbb : Below wr.heap.size wr wb := by rw [← hwb]; exact belowAlloc wr _
      have hbi : Blk wb wr.heap.size 55 #[.int .i64 op, .int .i64 ra, .int .i64 rb, .int .i64 rc, .int .i64 obj, .int .i64 m, .int .i64 fn, .int .i64 ord] := by rw [← hwb]; exact Blk.new wr _ _
      have hBB := belowThen hb hbb
      have HBB := Lib.hid hBB
      have HCK := Lib.hid (fun e he => iCheckA op ra rb rc obj m fn ord e he hwf wb (HLD.out wb hBB).ins (HLD.out wb hBB).nm)
      have HBI := Lib.hid (fun Y (hY : Below wb.heap.size wb Y) => boxFactsW (hbi.below' hY))
      obtain ⟨j0, j1, j2, j3, j4, j5, j6, j7⟩ := HBI.out wb (Below.refl _ _)
      have HWB := Lib.hid hwb
      clear hwb hbb hbi hb hBB hwf
      obtain ⟨e, he⟩ : ∃ e, (I8.mk8 op ra rb rc obj m fn ord).chk = e := ⟨_, rfl⟩
      have HC := Lib.hid (HCK.out e he)
      by_cases hck : e = 0
      rotate_left
      · have HX : Hid (e = r) := Lib.hid (by
          rw [← HE.out, cfBad1 hkl (by rw [HII.out, he]; exact hck), HII.out, he])
        have hne : (e != 0) = true := by simpa using hck
        have HV2 := Lib.hid (HV1.out (by rw [← HX.out]; exact hck))
        clear hck he
        go_wp2_with fail
        rw [HWB.out]
        go_wp2_with fail
        refine HC.out.mono ?_
        rintro e1 w2 ⟨rfl, b2⟩
        go_wp2
        go_ret2
        exact ⟨ret2V HV2.out.symm HX.out, belowThen HBW.out (belowThen HBB.out b2)⟩
      subst hck
      have fin12 : ((op = 4 ∨ op = 5) ∧ (m < 0 ∨ (n : Int) < m)) → 12 = r := fun hc => by
        rw [← HE.out, cfBad2 hkl (by rw [HII.out, he]) ?_]
        rw [HII.out]
        unfold I8.jmp belB
        rcases hc.1 with h1 | h1 <;> rcases hc.2 with h2 | h2
        · simp [h1]; omega
        · simp [h1]; omega
        · simp [h1]; omega
        · simp [h1]; omega
      have fin0 : ¬ ((op = 4 ∨ op = 5) ∧ (m < 0 ∨ (n : Int) < m)) → cfF n (C.drop (k + 1)) = r := fun hc => by
        rw [← HE.out, cfGo hkl (by rw [HII.out, he]) ?_]
        rw [HII.out]
        unfold I8.jmp belB
        by_cases h1 : op = 4 ∨ op = 5
        · have h2 : 0 ≤ m ∧ m ≤ n := by
            refine ⟨?_, ?_⟩
            · exact Int.not_lt.1 fun h => hc ⟨h1, .inl h⟩
            · exact Int.not_lt.1 fun h => hc ⟨h1, .inr h⟩
          rw [decide_eq_true h2.1, decide_eq_true (show m < ((n + 1 : Nat) : Int) by omega)]
          simp
        · rw [not_or] at h1
          simp [h1.1, h1.2]
      have F12 := Lib.hid fin12
      have F0 := Lib.hid fin0
      have HVV := Lib.hid (fun (h : 12 = r) => HV1.out (by rw [← h]; decide))
      clear fin12 fin0 he
      go_wp2_with fail
      rw [HWB.out]
      go_wp2_with fail
      refine HC.out.mono ?_
      rintro e1 w2 ⟨rfl, b2⟩
      have B2 := belowThen HBB.out b2
      clear j0 j1 j2 j3 j4 j5 j6 j7
      obtain ⟨j0, j1, j2, j3, j4, j5, j6, j7⟩ := HBI.out w2 b2
      have f2 := HKF.out w2 B2
      have HB3 := Lib.hid B2
      clear j1 j2 j3 j4 j6 j7 B2
      by_cases h4 : op = 4
      · subst h4
        by_cases hn0 : m < 0
        · have HX := Lib.hid (F12.out ⟨.inl rfl, .inl hn0⟩)
          go_wp2
          all_goals first
            | (exfalso; omega)
            | (go_ret2; exact ⟨ret2V (HVV.out HX.out).symm HX.out, belowThen HBW.out HB3.out⟩)
        by_cases hn1 : (n : Int) < m
        · have HX := Lib.hid (F12.out ⟨.inl rfl, .inr hn1⟩)
          go_wp2
          all_goals first
            | (exfalso; omega)
            | (go_ret2; exact ⟨ret2V (HVV.out HX.out).symm HX.out, belowThen HBW.out HB3.out⟩)
        have HX := Lib.hid (F0.out (by omega))
        go_wp2
        all_goals first
          | (exfalso; omega)
          | exact ⟨⟨k + 1, by omega, by go_num, HB3.out, HX⟩, by simp [intOf]; omega⟩
      by_cases h5 : op = 5
      · subst h5
        by_cases hn0 : m < 0
        · have HX := Lib.hid (F12.out ⟨.inr rfl, .inl hn0⟩)
          go_wp2
          all_goals first
            | (exfalso; omega)
            | (go_ret2; exact ⟨ret2V (HVV.out HX.out).symm HX.out, belowThen HBW.out HB3.out⟩)
        by_cases hn1 : (n : Int) < m
        · have HX := Lib.hid (F12.out ⟨.inr rfl, .inr hn1⟩)
          go_wp2
          all_goals first
            | (exfalso; omega)
            | (go_ret2; exact ⟨ret2V (HVV.out HX.out).symm HX.out, belowThen HBW.out HB3.out⟩)
        have HX := Lib.hid (F0.out (by omega))
        go_wp2
        all_goals first
          | (exfalso; omega)
          | exact ⟨⟨k + 1, by omega, by go_num, HB3.out, HX⟩, by simp [intOf]; omega⟩
      have z4 : (op == 4) = false := by simpa using h4
      have z5 : (op == 5) = false := by simpa using h5
      have HX := Lib.hid (F0.out (by omega))
      clear h4 h5
      go_wp2
      go_roundw
      case rel => exact ⟨k + 1, by omega, by go_num, HB3.out, HX⟩
      case measure => simp [intOf]; omega
    · have HX := Lib.hid ((cfEnd (len := n) (C := C) (k := k) (by rw [HN.out]; omega)).symm.trans HE.out)
      go_wp2
      go_ret2
      exact ⟨ret2V (HV0.out HX.out.symm).symm HX.out, belowThen HBW.out hb⟩
end Go.Proofs.YtpkagpobobmnfaaGreatDoor

namespace Go.Proofs.YtpkagpobobmnfaaGreatDoor
open Go Go.ChangeShapes Go.WideShapes Go.ChangeAt Go.RowKit Go.Deep Go.Joins

set_option maxRecDepth 100000 in
theorem openFn {H : Type} {enc : TypeId × Value → H} {W : World} {b0 base : Nat} {v : Value} {d : DataW H} {p : List MemPlace} (hv : Value.okWide Tryz.prog W .any base 24 v) (h : DataW.Trod enc Tryz.prog W b0 (fun _ => true) true 24 v d p) :
    ∃ (nm : ByteArray) (A : Option Addr) (n c : Nat) (C : List I8), v = fnV nm A n c ∧ C.length = n ∧ RdE 8 EI W A c C ∧ ∀ i ∈ C, i.Wf := by
  obtain ⟨fs, g1, g2, g3, g4⟩ := funcFs
  obtain ⟨cs, rfl, hsz⟩ := okWide_struct g1 hv
  rw [g4] at hsz
  obtain ⟨fuel, hf⟩ := h
  have hf' : DataW.trod enc Tryz.prog W b0 (fun _ => true) true fuel 24 cs.toList = some (d, p) := hf
  have hl : cs.toList.length = 2 := by simpa using hsz
  obtain ⟨m, hx⟩ := fieldsOf g1 g2 g3 rfl hl hf'
  obtain ⟨l⟩ := cs
  match l, hl with
  | [v1, v2], _ =>
    obtain ⟨_, f1⟩ := hx 0 (by simp) _ rfl
    obtain ⟨_, f2⟩ := hx 1 (by simp) _ rfl
    obtain ⟨s, e1, _, hs⟩ := DataW.trod_string Tryz.underlying9 f1
    injection e1 with e1
    have e1 : v1 = .string s := e1
    obtain ⟨A2, n2, c2, l2, e2, q2, r2, w2⟩ := openE EI I8.Wf Tryz.underlying22 (k := 8) (by kernel_rfl) (by decide) (fun b o cs n x h1 h2 h3 => elI h1 h2 h3) f2
    have e2 : v2 = _ := e2
    subst e1 e2
    exact ⟨s, A2, n2, c2, l2, rfl, q2, r2, w2⟩
end Go.Proofs.YtpkagpobobmnfaaGreatDoor
