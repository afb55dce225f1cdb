/-
  A map from numbers to numbers as what is known of registers.
-/
import Derived.Test.YtpkagpobobmnfaaGreatDoorPSa
import Derived.Test.YtpkagpobobmnfaaGreatDoorPCa
import Derived.MapFrom
import Derived.Test.YtpkagpobobmnfaaGreatDoorPLf
import Derived.Test.YtpkagpobobmnfaaGreatDoorPIU
import Derived.Test.YtpkagpobobmnfaaGreatDoorPG3
import Derived.Test.YtpkagpobobmnfaaGreatDoorPOp
import Derived.Test.YtpkagpobobmnfaaGreatDoorPNum
import Derived.Deep.QuietTactic
import Derived.BigQuiet
namespace Go.Proofs.YtpkagpobobmnfaaGreatDoor
open Go Go.RowKit Go.Maps Go.ChangeMaps

/-- Block b holds what K knows; at most n entries. -/
def MapK (w : World) (b n : Nat) (K : Kn) : Prop := ∃ T : DataW Value, w.ownsMap Tryz.prog 3 RW9 b n T ∧ (∀ x : Int, Maps.has T (.int .i64 x) = (K x).isSome) ∧ ∀ x : Int, T.atKey (.int .i64 x) (.held (.int .i64 0)) = .held (.int .i64 ((K x).getD 0))
theorem zeroIK (w : World) : (zeroValue 3).run Tryz.prog w = .ok (.int .i64 0) w := by kernel_rfl
section
variable {w w' : World} {b n : Nat} {K : Kn} {F : Nat → Prop}
theorem MapK.made (w : World) : MapK (w.alloc (.map #[] 0)) w.heap.size 0 knNo := ⟨.map [], World.ownsMap_made _ _ _ _, fun _ => rfl, fun _ => rfl⟩
theorem MapK.lt (h : MapK w b n K) : b < w.heap.size := by obtain ⟨T, h, _⟩ := h; exact h.lt
theorem MapK.mono {n' : Nat} (h : MapK w b n K) (hn : n ≤ n') : MapK w b n' K := by
  obtain ⟨T, h, r⟩ := h
  exact ⟨T, h.mono hn, r⟩
theorem MapK.chg (h : MapK w b n K) (hc : Chg w w' F) (hF : F b) : MapK w' b n K := by
  have hlt := h.lt
  obtain ⟨T, ⟨es, clock, hb, r⟩, hat⟩ := h
  exact ⟨T, ⟨es, clock, (hc.block b hlt hF).trans hb, r⟩, hat⟩
theorem MapK.below (h : MapK w b n K) (hb : Below w.heap.size w w') : MapK w' b n K := h.chg (Chg.ofBelow hb fun _ => True) trivial
theorem MapK.notCells (h : MapK w b n K) : ∃ o, w.heap[b]? = some o ∧ o.isCells = false := by
  obtain ⟨T, ⟨es, clock, hb, r⟩, hat⟩ := h
  exact ⟨_, hb, rfl⟩
theorem MapK.look (h : MapK w b n K) {r : Int} (h0 : 0 ≤ r) (h8 : r < 8) : (Instr.lookup 86 (.map (some b)) (.int .i64 r) false).run Tryz.prog w = .ok (.int .i64 ((K r).getD 0)) w := by
  obtain ⟨T, h, hh, hat⟩ := h
  obtain ⟨v, ps, hrun, hv⟩ := h.lookup (t := 86) keyedInt Tryz.underlying86 (zeroIK w) (zd := .held (.int .i64 0)) (zp := []) rfl (keyOf_int_mk Tryz.underlying3 (wfSmall9 h0 (by omega)))
  rw [hat r] at hv
  simp only [RW9, Option.some.injEq, Prod.mk.injEq, DataW.held.injEq] at hv
  rw [hrun, hv.1]
theorem MapK.lookOk (h : MapK w b n K) {r : Int} (h0 : 0 ≤ r) (h8 : r < 8) : (Instr.lookup 86 (.map (some b)) (.int .i64 r) true).run Tryz.prog w = .ok (.tuple #[.int .i64 ((K r).getD 0), .bool (K r).isSome]) w := by
  obtain ⟨T, h, hh, hat⟩ := h
  obtain ⟨v, ps, hrun, hv⟩ := h.look_ok (t := 86) keyedInt Tryz.underlying86 (zeroIK w) (zd := .held (.int .i64 0)) (zp := []) rfl (keyOf_int_mk Tryz.underlying3 (wfSmall9 h0 (by omega)))
  rw [hat r] at hv
  simp only [RW9, Option.some.injEq, Prod.mk.injEq, DataW.held.injEq] at hv
  rw [hrun, hv.1, hh r]
theorem MapK.store (h : MapK w b n K) (hn : n < 1000000) {r : Int} (h0 : 0 ≤ r) (h8 : r < 8) (v : Int) :
    ∃ w', (Instr.mapUpdate 86 (.map (some b)) (.int .i64 r) (.int .i64 v)).run Tryz.prog w = .ok () w' ∧ MapK w' b (n + 1) (knUp K r (some v)) ∧ w.mapTurned w' b := by
  obtain ⟨T, h, hh, hat⟩ := h
  have hk := keyOf_int_mk (P := Tryz.prog) Tryz.underlying3 (wfSmall9 h0 (by omega))
  obtain ⟨w', hrun, ho, hg⟩ := h.store (t := 86) keyedInt Tryz.underlying86 (by unfold maxLen; omega) hk (val := .int .i64 v) (d := .held (.int .i64 v)) (ps := []) rfl
  refine ⟨w', hrun, ⟨_, ho, fun x => ?_, fun x => ?_⟩, hg⟩
  · unfold knUp
    by_cases e : x = r
    · subst e
      rw [has_put_same h.isMap (keyedInt.key hk), if_pos rfl]; rfl
    · rw [has_put_other (fun e' => e (Lit.int.inj e').2), hh x, if_neg e]
  · unfold knUp
    by_cases e : x = r
    · subst e
      rw [atKey_put_same h.isMap (keyedInt.key hk), if_pos rfl]; rfl
    · rw [atKey_put_other (fun e' => e (Lit.int.inj e').2), hat x, if_neg e]
theorem MapK.drop (h : MapK w b n K) {r : Int} (h0 : 0 ≤ r) (h8 : r < 8) (ty : TypeId) :
    ∃ w', (Builtin.delete_ #[86, 3] ty #[.map (some b), .int .i64 r]).run Tryz.prog w = .ok (.tuple #[]) w' ∧ MapK w' b n (knUp K r none) ∧ w.mapTurned w' b := by
  obtain ⟨T, h, hh, hat⟩ := h
  have hk := keyOf_int_mk (P := Tryz.prog) Tryz.underlying3 (wfSmall9 h0 (by omega))
  obtain ⟨w', hrun, ho, hg⟩ := h.drop (t := 86) keyedInt Tryz.underlying86 hk ty
  refine ⟨w', hrun, ⟨_, ho, fun x => ?_, fun x => ?_⟩, hg⟩
  · unfold knUp
    by_cases e : x = r
    · subst e
      rw [has_del_same, if_pos rfl]; rfl
    · rw [has_del_other (fun e' => e (Lit.int.inj e').2), hh x, if_neg e]
  · unfold knUp
    by_cases e : x = r
    · subst e
      rw [atKey_del_same, if_pos rfl]; rfl
    · rw [atKey_del_other (fun e' => e (Lit.int.inj e').2), hat x, if_neg e]
theorem MapK.clear (h : MapK w b n K) (ty : TypeId) :
    ∃ w', (Builtin.clear_ #[86] ty #[.map (some b)]).run Tryz.prog w = .ok (.tuple #[]) w' ∧ MapK w' b 0 knNo ∧ w.mapTurned w' b := by
  obtain ⟨T, ⟨es, clock, hb, r⟩, hat⟩ := h
  refine ⟨setBlock w b (.map #[] clock), ?_, ⟨.map [], ⟨#[], clock, heap_setBlock_same hb _, ⟨by simp, MapKept.stamped_empty clock, by simp⟩, Nat.le_refl _, rfl⟩, fun _ => rfl, fun _ => rfl⟩, ⟨es, clock, #[], clock, hb, rfl⟩⟩
  simp [Builtin.clear_, run_underlying Tryz.underlying86, MapKept.run_getObj_map hb, MapKept.run_setObj_map _ hb, Result.andThen]
  rfl
end
end Go.Proofs.YtpkagpobobmnfaaGreatDoor

namespace Go.Proofs.YtpkagpobobmnfaaGreatDoor
open Go Go.RowKit Go.Maps

theorem wrap32U9 (a : Int) : wrap32 ((U a : Nat) : Int) = wrap32 a := by unfold U; simp only [wrap32]; omega
theorem lenMk9 : ∀ {l : List Int}, l.length ≤ 2 → (mk l).length ≤ 2 := fun {l} h => Nat.le_trans (lenMk l) h
theorem usesLen9 (i : I8) : i.uses.length ≤ 2 := by
  unfold I8.uses
  split
  · refine lenMk9 ?_
    unfold I8.rdL
    cases i.u 1 <;> cases i.u 2 <;> simp
  · simp
theorem opI5Self {v : Int} (h : wrap32 v = v) : opI 5 v v = v := by rw [opI5, Nat.or_self, wrap32U9, h]
theorem usesMem {i : I8} (hc : i.chk = 0) {r : Int} : r ∈ i.uses ↔ (i.u 1 = true ∧ r = i.b) ∨ (i.u 2 = true ∧ r = i.c) := by
  unfold I8.uses
  rw [if_pos hc, memMk]
  unfold I8.rdL
  rw [List.mem_append]
  cases i.u 1 <;> cases i.u 2 <;> simp
theorem usesReg9 {i : I8} (hc : i.chk = 0) : ∀ x ∈ i.uses, 0 ≤ x ∧ x < 8 := by
  intro x hx
  have hg := I8.good hc
  rcases (usesMem hc).1 hx with ⟨_, rfl⟩ | ⟨_, rfl⟩
  · exact hg.b
  · exact hg.c
theorem u12 {i : I8} : (i.op = 2 → i.u 1 = true ∧ i.u 2 = false) ∧ (i.op = 3 → i.u 1 = true ∧ i.u 2 = true) ∧ (i.op = 5 → i.u 1 = true ∧ i.u 2 = false) ∧ (i.op = 6 → i.u 1 = true ∧ i.u 2 = false) := by
  refine ⟨fun h => ?_, fun h => ?_, fun h => ?_, fun h => ?_⟩ <;> (unfold I8.u; rw [h]; exact ⟨rfl, rfl⟩)
/-- Where a register is not known the instruction stays. -/
theorem fdNoneF {K : Kn} {nx : Int} {i : I8} (hc : i.chk = 0) {r : Int} (hr : r ∈ i.uses) (h : K r = none) : fdI K nx i = i := by
  rw [usesMem hc] at hr
  obtain ⟨e2, e3, e5, e6⟩ := u12 (i := i)
  unfold fdI
  split
  · rename_i ho
    obtain ⟨h1, h2⟩ := e2 ho
    rcases hr with ⟨_, rfl⟩ | ⟨hh, _⟩
    · rw [h]
    · rw [h2] at hh; cases hh
  split
  · rename_i ho
    split
    · rename_i h1 h2
      rcases hr with ⟨_, rfl⟩ | ⟨_, rfl⟩
      · rw [h] at h1; cases h1
      · rw [h] at h2; cases h2
    · rfl
  split
  · rename_i ho
    obtain ⟨h1, h2⟩ := e5 ho
    rcases hr with ⟨_, rfl⟩ | ⟨hh, _⟩
    · rw [h]
    · rw [h2] at hh; cases hh
  split
  · rename_i ho
    obtain ⟨h1, h2⟩ := e6 ho
    rcases hr with ⟨_, rfl⟩ | ⟨hh, _⟩
    · rw [h]
    · rw [h2] at hh; cases hh
  · rfl
/-- What is in its place where all registers are known. -/
theorem fdAll {K : Kn} {nx : Int} {i : I8} (hc : i.chk = 0) (h : ∀ r ∈ i.uses, (K r).isSome = true) :
    (i.op = 2 → fdI K nx i = cst i.a ((K i.b).getD 0) ∧ (K i.b).isSome = true) ∧ (i.op = 3 → fdI K nx i = cst i.a (opI i.fn ((K i.b).getD 0) ((K i.c).getD 0))) ∧
    (i.op = 5 → fdI K nx i = if (K i.b).getD 0 = 0 then jmpTo nx else jmpTo i.n) ∧ (i.op = 6 → fdI K nx i = if (K i.b).getD 0 = 0 then i else jmpTo nx) ∧
    (i.op ≠ 2 → i.op ≠ 3 → i.op ≠ 5 → i.op ≠ 6 → fdI K nx i = i) := by
  obtain ⟨e2, e3, e5, e6⟩ := u12 (i := i)
  have hb : i.u 1 = true → ∃ v, K i.b = some v := fun h1 => by
    have := h i.b ((usesMem hc).2 (.inl ⟨h1, rfl⟩))
    exact Option.isSome_iff_exists.1 this
  have hcc : i.u 2 = true → ∃ v, K i.c = some v := fun h1 => by
    have := h i.c ((usesMem hc).2 (.inr ⟨h1, rfl⟩))
    exact Option.isSome_iff_exists.1 this
  refine ⟨fun ho => ?_, fun ho => ?_, fun ho => ?_, fun ho => ?_, fun h2 h3 h5 h6 => ?_⟩
  · obtain ⟨v, hv⟩ := hb (e2 ho).1
    unfold fdI
    rw [if_pos ho, hv]
    exact ⟨rfl, rfl⟩
  · obtain ⟨v, hv⟩ := hb (e3 ho).1
    obtain ⟨u, hu⟩ := hcc (e3 ho).2
    unfold fdI
    rw [if_neg (by omega), if_pos ho, hv, hu]
    rfl
  · obtain ⟨v, hv⟩ := hb (e5 ho).1
    unfold fdI
    rw [if_neg (by omega), if_neg (by omega), if_pos ho, hv]
    rfl
  · obtain ⟨v, hv⟩ := hb (e6 ho).1
    unfold fdI
    rw [if_neg (by omega), if_neg (by omega), if_neg (by omega), if_pos ho, hv]
    rfl
  · unfold fdI
    rw [if_neg h2, if_neg h3, if_neg h5, if_neg h6]
theorem two8 (w : World) (o1 o2 : Obj) {Z : World} (hZ : (w.alloc o1).alloc o2 = Z) : Z.heap[w.heap.size]? = some o1 ∧ Z.heap[w.heap.size + 1]? = some o2 ∧ Below w.heap.size w Z ∧ Z.heap.size = w.heap.size + 1 + 1 := by
  subst hZ
  refine ⟨((belowAlloc (w.alloc o1) o2).block _ (by simp)).trans (World.alloc_heap_new w o1), ?_, belowThen (belowAlloc _ _) (belowAlloc _ _), by simp⟩
  have := World.alloc_heap_new (w.alloc o1) o2
  rwa [World.size_alloc] at this
theorem chgSetF (W : World) (b k : Nat) (v : Value) : Chg W (W.setCell ⟨b, k, none⟩ v) (fun q => q ≠ b) := ⟨rfl, rfl, rfl, by simp, fun q _ hq => heap_setCell_other W ⟨b, k, none⟩ q v hq⟩
/-- What the call leaves: its result, its own boxes written. -/
def GivesI (i : I8) (w : World) (e : Ending) (w' : World) : Prop := e = .returned i.val ∧ Below w.heap.size w w'
theorem givesI {i : I8} {w : World} {e : Ending} {w' : World} {x0 x1 x2 x3 x4 x5 x6 x7 : Value} (h : e = .returned (.agg #[x0, x1, x2, x3, x4, x5, x6, x7])) (hx : i.val = .agg #[x0, x1, x2, x3, x4, x5, x6, x7]) (hb : Below w.heap.size w w') : GivesI i w e w' := ⟨by rw [h, hx], hb⟩
set_option maxRecDepth 100000 in
set_option maxHeartbeats 4000000 in
theorem iFold1 (K : Kn) (hK : KnOk K) (b n : Nat) (i : I8) (hi : i.Wf) (hc : i.chk = 0) (nx : Int) (w : World) (hM : MapK w b n K) (hT : InsT w) (hN : Nm w) :
    Calls Tryz.prog 45 #[.map (some b), i.val, .int .i64 nx] w (GivesI (fdI K nx i) w) := by
  obtain ⟨l, hl⟩ : ∃ l, i.uses = l := ⟨_, rfl⟩
  have hlen : l.length ≤ 2 := by rw [← hl]; exact usesLen9 i
  have hreg := usesReg9 hc
  have hgd := I8.good hc
  rw [hl] at hreg
  obtain ⟨R, hR⟩ : ∃ R, fdI K nx i = R := ⟨_, rfl⟩
  have HNO := Lib.hid (fun r (hr : r ∈ l) (h : K r = none) => (hR.symm.trans (fdNoneF (nx := nx) hc (hl ▸ hr) h) : R = i))
  have HAL := Lib.hid (fun (h : ∀ r ∈ l, (K r).isSome = true) => hR ▸ fdAll (K := K) (nx := nx) hc (hl ▸ h))
  rw [hR]
  obtain ⟨W, hW⟩ : ∃ W, (w.alloc (.cells #[.int .i64 i.op, .int .i64 i.a, .int .i64 i.b, .int .i64 i.c, .int .i64 i.obj, .int .i64 i.n, .int .i64 i.fn, .int .i64 i.ord] 55)).alloc (.cells #[.int .i64 0, .int .i64 0, .int .i64 0, .int .i64 0, .int .i64 0, .int .i64 0, .int .i64 0, .int .i64 0] 55) = W := ⟨_, rfl⟩
  obtain ⟨h1, h2, hbW, hsz⟩ := two8 w _ _ hW
  have HB1 := Lib.hid (show Blk W w.heap.size 55 _ from h1)
  have HB2 := Lib.hid (show Blk W (w.heap.size + 1) 55 _ from h2)
  have HBW := Lib.hid hbW
  have HW := Lib.hid hW
  have HSZ := Lib.hid hsz
  have HU := Lib.hid (iUses i l hl hi W (hT.below hbW) (hN.below hbW))
  have HMK := Lib.hid (fun X (hX : Below W.heap.size W X) => (hM.below hbW).below hX)
  have HREG := Lib.hid hreg
  have HC := Lib.hid hc
  have hKa : ∀ v, K i.b = some v → wrap32 v = v := fun v h => hK.v _ _ h
  have HKA := Lib.hid hKa
  have HGB := Lib.hid hgd.b
  have HGC := Lib.hid hgd.c
  clear h1 h2 hbW hW hsz hM hT hN hreg hK hc hKa hgd hR hi
  obtain ⟨op, ra, rb, rc, obj, m, fn, ord⟩ := i
  simp only at HB1 HAL HKA HGB HGC HW
  unfold I8.val at HU ⊢
  simp only at HU ⊢
  obtain ⟨q, hq⟩ : ∃ q, l.length = q := ⟨_, rfl⟩
  have HQ := Lib.hid hq
  rw [hq] at hlen
  clear hl
  obtain ⟨⟨a0, a1, a2, a3, a4, a5, a6, a7⟩, -⟩ := blkFacts HB1.out
  go_enter Tryz.func45, Tryz.ntmps45
  go_wp2_with fail
  rw [HW.out]
  go_wp2_with fail
  refine HU.out.mono ?_
  rintro e w1 ⟨A1, c1, rfl, r1, b1⟩
  rw [hq]
  have HR1 := Lib.hid r1
  have HBB := Lib.hid b1
  clear hq a0 a1 a2 a3 a4 a5 a6 a7 r1
  go_wp2
  go_loopw [16] (fun i16 X => ∃ k : Nat, k ≤ q ∧ i16 = .int .i64 k ∧ Hid (Below W.heap.size W X) ∧ Hid (Below w1.heap.size w1 X) ∧ Hid (∀ j (h : j < l.length), j < k → (K l[j]).isSome = true)) (fun i16 _ => q - (intOf i16).toNat)
  case atStart => exact ⟨0, Nat.zero_le _, rfl, HBB, Lib.hid (Below.refl _ _), Lib.hid fun _ _ h => absurd h (Nat.not_lt_zero _)⟩
  case round =>
    obtain ⟨k, hk, rfl, hb, hbb, hall⟩ := hrel
    have HB1' := Lib.hid (HB1.out.below' hb.out)
    have HB2' := Lib.hid (HB2.out.below' hb.out)
    obtain ⟨⟨a0, a1, a2, a3, a4, a5, a6, a7⟩, fa0, fa1, fa2, fa3, fa4, fa5, fa6, fa7⟩ := blkFacts HB1'.out
    obtain ⟨⟨r0, r1, r2, r3, r4, r5, r6, r7⟩, fr0, fr1, fr2, fr3, fr4, fr5, fr6, fr7⟩ := blkFacts HB2'.out
    by_cases hlt : k < q
    · have hkl : k < l.length := by rw [HQ.out]; exact hlt
      have rr := (HR1.out.chg (Chg.ofBelow hbb.out fun _ => True) fun _ _ _ => trivial)
      obtain ⟨bb, off, eA, _, hcell⟩ := rdPlain9 rr (by omega)
      have hce := hcell k hkl
      have eg : l.getD k 0 = l[k] := by simp [List.getD, hkl]
      rw [eg] at hce
      have hrg := HREG.out l[k] (List.getElem_mem hkl)
      obtain ⟨z, hz⟩ : ∃ z, l[k] = z := ⟨_, rfl⟩
      have hlook := (HMK.out wr hb.out).lookOk hrg.1 hrg.2
      rw [hz] at hce hlook
      subst eA
      have hk0 : (0 : Int) ≤ k := by omega
      have hk1 : (k : Int) < q := by omega
      have hle := rr.le
      have hmx := rr.max
      rw [HQ.out] at hle
      unfold maxLen at hmx
      cases hs : (K z).isSome
      · have HE := Lib.hid (HNO.out z (hz ▸ List.getElem_mem hkl) (by simpa using hs))
        rw [hs] at hlook
        clear rr hcell eg hrg hz hs
        go_wp2_with fail
        refine bodyPost_ret ((stored8 HB2'.out).res rfl _ rfl Tryz.underlying55 rfl infoInst) rfl ?_
        exact givesI rfl (by rw [HE.out]; rfl) (below8 (belowThen HBW.out hb.out) (by omega))
      · have HA2 : Hid (∀ j (h : j < l.length), j < k + 1 → (K l[j]).isSome = true) := Lib.hid fun j h hj => by
          rcases (by omega : j < k ∨ j = k) with g | g
          · exact hall.out j h g
          · subst g; rw [hz]; exact hs
        rw [hs] at hlook
        clear rr hcell eg hrg hz hs
        go_wp2
        go_roundw
        case rel => exact ⟨k + 1, by omega, by go_num, hb, hbb, HA2⟩
        case measure => simp only [intOf]; omega
    · have hall2 := HAL.out fun r hr => by
        obtain ⟨j, hj, rfl⟩ := List.mem_iff_getElem.1 hr
        exact hall.out j hj (by rw [HQ.out] at hj; omega)
      have HA2 := Lib.hid hall2
      have hMw := HMK.out wr hb.out
      have HMW := Lib.hid hMw
      have HBO := Lib.hid (belowThen HBW.out hb.out)
      have hsb : w.heap.size < W.heap.size := by have := HSZ.out; omega
      obtain ⟨v0, hv0⟩ : ∃ v, (K rb).getD 0 = v := ⟨_, rfl⟩
      obtain ⟨u0, hu0⟩ : ∃ v, (K rc).getD 0 = v := ⟨_, rfl⟩
      obtain ⟨q2, q3, q5, q6, q7⟩ := hall2
      rw [hv0] at q2 q3 q5 q6
      rw [hu0] at q3
      have hne : b ≠ w.heap.size := fun e => by
        have h0 : Blk wr w.heap.size 55 _ := HB1'.out
        obtain ⟨o, ho, hno⟩ := hMw.notCells
        rw [e, h0] at ho
        injection ho with ho
        rw [← ho] at hno
        cases hno
      have HLB : Hid (∀ X, Chg wr X (fun k => k ≠ w.heap.size) → (Instr.lookup 86 (.map (some b)) (.int .i64 rb) false).run Tryz.prog X = .ok (.int .i64 v0) X) := Lib.hid fun X hX => by
        have := (HMW.out.chg hX hne).look HGB.out.1 HGB.out.2
        rw [hv0] at this
        exact this
      have HLC : Hid ((Instr.lookup 86 (.map (some b)) (.int .i64 rc) false).run Tryz.prog wr = .ok (.int .i64 u0) wr) := Lib.hid (by
        have := HMW.out.look HGC.out.1 HGC.out.2
        rw [hu0] at this
        exact this)
      have hlb := HLB.out wr (Chg.refl _ _)
      have hlc := HLC.out
      have HOT : Hid (∀ k v, Blk (wr.setCell ⟨w.heap.size, k, none⟩ v) (w.heap.size + 1) 55 #[.int .i64 0, .int .i64 0, .int .i64 0, .int .i64 0, .int .i64 0, .int .i64 0, .int .i64 0, .int .i64 0]) := Lib.hid fun k v => HB2'.out.other (by omega) k v
      clear hMw hne
      by_cases h2 : op = 2
      · have HR := Lib.hid (q2 h2).1
        have hw0 : wrap32 v0 = v0 := by
          obtain ⟨v, hv⟩ := Option.isSome_iff_exists.1 (q2 h2).2
          rw [hv] at hv0
          have hv0 : v = v0 := hv0
          rw [← hv0]
          exact HKA.out v hv
        have HAP := Lib.hid (fun X => vApply 5 v0 v0 X)
        rw [opI5Self hw0] at HAP
        have hl3 := HLB.out ((wr.setCell ⟨w.heap.size, 6, none⟩ (.int .i64 5)).setCell ⟨w.heap.size, 3, none⟩ (.int .i64 rb)) ((chgSetF _ _ _ _).trans (chgSetF _ _ _ _) fun _ _ h => h)
        have HB4 := Lib.hid ((HOT.out 6 (.int .i64 5)).other (show w.heap.size + 1 ≠ w.heap.size by omega) 3 (.int .i64 rb))
        have HG4 := Lib.hid ((HBO.out.setCell (p := ⟨w.heap.size, 6, none⟩) (Nat.le_refl _) (.int .i64 5)).setCell (p := ⟨w.heap.size, 3, none⟩) (Nat.le_refl _) (.int .i64 rb))
        subst h2
        clear q2 q3 q5 q6 q7 hv0 hu0 hw0 hlb hlc
        go_wp2_with (go_at_call 93; refine (HAP.out _).mono ?_; rintro e w' ⟨rfl, rfl⟩)
        refine bodyPost_ret ((stored8 HB4.out).res rfl _ rfl Tryz.underlying55 rfl infoInst) rfl ?_
        exact givesI rfl (by rw [HR.out]; rfl) (below8 HG4.out (by omega))
      have z2 : (op == 2) = false := by simpa using h2
      by_cases h3 : op = 3
      · have HR := Lib.hid (q3 h3)
        have HAP := Lib.hid (fun X => vApply fn v0 u0 X)
        obtain ⟨o0, ho0⟩ : ∃ o, opI fn v0 u0 = o := ⟨_, rfl⟩
        obtain ⟨o1, ho1⟩ : ∃ o, opE fn = o := ⟨_, rfl⟩
        rw [ho0, ho1] at HAP
        rw [ho0] at HR
        subst h3
        clear q2 q3 q5 q6 q7 hv0 hu0 h2 ho0 ho1
        go_wp2_with (go_at_call 93; refine (HAP.out _).mono ?_; rintro e w' ⟨rfl, rfl⟩)
        refine bodyPost_ret ((stored8 HB2'.out).res rfl _ rfl Tryz.underlying55 rfl infoInst) rfl ?_
        exact givesI rfl (by rw [HR.out]; rfl) (below8 HBO.out (by omega))
      have z3 : (op == 3) = false := by simpa using h3
      by_cases h6 : op = 6
      · have HR := Lib.hid (q6 h6)
        have hl5 := HLB.out (wr.setCell ⟨w.heap.size, 5, none⟩ (.int .i64 nx)) (chgSetF _ _ _ _)
        have HB4 := Lib.hid (HOT.out 5 (.int .i64 nx))
        have HG4 := Lib.hid (HBO.out.setCell (p := ⟨w.heap.size, 5, none⟩) (Nat.le_refl _) (.int .i64 nx))
        subst h6
        by_cases hz : v0 = 0
        · have HR2 := Lib.hid (HR.out.trans (if_pos hz))
          subst hz
          clear q2 q3 q5 q6 q7 hv0 hu0 h2 h3 hlc
          go_wp2_with fail
          refine bodyPost_ret ((stored8 HB2'.out).res rfl _ rfl Tryz.underlying55 rfl infoInst) rfl ?_
          exact givesI rfl (by rw [HR2.out]; rfl) (below8 HBO.out (by omega))
        · have HR2 := Lib.hid (HR.out.trans (if_neg hz))
          have zz : (v0 == 0) = false := by simpa using hz
          clear q2 q3 q5 q6 q7 hv0 hu0 h2 h3 hlc hz
          go_wp2_with fail
          refine bodyPost_ret ((stored8 HB4.out).res rfl _ rfl Tryz.underlying55 rfl infoInst) rfl ?_
          exact givesI rfl (by rw [HR2.out]; rfl) (below8 HG4.out (by omega))
      have z6 : (op == 6) = false := by simpa using h6
      by_cases h5 : op = 5
      · have HR := Lib.hid (q5 h5)
        have HB4 := Lib.hid (HOT.out 5 (.int .i64 nx))
        have HG4 := Lib.hid (HBO.out.setCell (p := ⟨w.heap.size, 5, none⟩) (Nat.le_refl _) (.int .i64 nx))
        subst h5
        by_cases hz : v0 = 0
        · have HR2 := Lib.hid (HR.out.trans (if_pos hz))
          subst hz
          clear q2 q3 q5 q6 q7 hv0 hu0 h2 h3 h6 hlc
          go_wp2_with fail
          refine bodyPost_ret ((stored8 HB4.out).res rfl _ rfl Tryz.underlying55 rfl infoInst) rfl ?_
          exact givesI rfl (by rw [HR2.out]; rfl) (below8 HG4.out (by omega))
        · have HR2 := Lib.hid (HR.out.trans (if_neg hz))
          have zz : (v0 == 0) = false := by simpa using hz
          clear q2 q3 q5 q6 q7 hv0 hu0 h2 h3 h6 hlc hz
          go_wp2_with fail
          refine bodyPost_ret ((stored8 HB2'.out).res rfl _ rfl Tryz.underlying55 rfl infoInst) rfl ?_
          exact givesI rfl (by rw [HR2.out]; rfl) (below8 HBO.out (by omega))
      have z5 : (op == 5) = false := by simpa using h5
      have HR2 := Lib.hid (q7 h2 h3 h5 h6)
      clear q2 q3 q5 q6 q7 hv0 hu0 h2 h3 h6 h5 hlc hlb
      go_wp2_with fail
      refine bodyPost_ret ((stored8 HB2'.out).res rfl _ rfl Tryz.underlying55 rfl infoInst) rfl ?_
      exact givesI rfl (by rw [HR2.out]; rfl) (below8 HBO.out (by omega))
end Go.Proofs.YtpkagpobobmnfaaGreatDoor

namespace Go.Proofs.YtpkagpobobmnfaaGreatDoor
open Go Go.RowKit Go.Maps

theorem chgTurn {w w1 w2 : World} {b : Nat} (h : Below w.heap.size w w1) (ht : w1.mapTurned w2 b) : Chg w w2 (fun k => k ≠ b) :=
  (Chg.ofBelow h (fun k => k ≠ b)).trans (Chg.ofGrown (F := fun k => k ≠ b) ht.grown fun k hk e => hk (by injection e with e; exact e.symm)) fun _ _ h => h
set_option maxRecDepth 100000 in
set_option maxHeartbeats 4000000 in
theorem iExec (K : Kn) (b n : Nat) (hn : n ≤ 1000) (i : I8) (hi : i.Wf) (hc : i.chk = 0) (w : World) (hM : MapK w b n K) (hT : InsT w) (hN : Nm w) :
    Calls Tryz.prog 46 #[.map (some b), i.val] w fun e w' => e = .returned (.tuple #[]) ∧ MapK w' b (n + 1) (knI K i) ∧ Chg w w' (fun k => k ≠ b) := by
  obtain ⟨W, hW⟩ : ∃ W, w.alloc (.cells #[.int .i64 i.op, .int .i64 i.a, .int .i64 i.b, .int .i64 i.c, .int .i64 i.obj, .int .i64 i.n, .int .i64 i.fn, .int .i64 i.ord] 55) = W := ⟨_, rfl⟩
  have hbW : Below w.heap.size w W := by rw [← hW]; exact belowAlloc w _
  have HB1 := Lib.hid (show Blk W w.heap.size 55 _ by rw [← hW]; exact Blk.new w _ _)
  have HD := Lib.hid (iDefs i i.dfR i.dfB rfl rfl hi W (hT.below hbW) (hN.below hbW))
  have HMK := Lib.hid (fun X (hX : Below W.heap.size W X) => (hM.below hbW).below hX)
  have hra : i.dfB = true → i.dfR = i.a := fun h => by
    have h := of_decide_eq_true h
    unfold I8.dfR
    rw [if_pos h]
  have hdb : i.dfB = i.u 0 := by unfold I8.dfB; rw [hc]; simp
  have hd1 : i.op = 1 → i.dfB = true := fun h => by rw [hdb]; unfold I8.u; rw [h]; rfl
  have HKI : Hid (knI K i = if i.dfB = true then knUp K i.a (if i.op = 1 then some i.n else none) else K) := Lib.hid (by unfold knI; rw [hdb])
  obtain ⟨p, hp⟩ : ∃ p, i.dfB = p := ⟨_, rfl⟩
  obtain ⟨r, hr⟩ : ∃ r, i.dfR = r := ⟨_, rfl⟩
  rw [hp] at HD hra HKI hd1
  rw [hr] at HD hra
  have HBW := Lib.hid hbW
  have HW := Lib.hid hW
  have HGA := Lib.hid (I8.good hc).a
  obtain ⟨K', hK'⟩ : ∃ K', knI K i = K' := ⟨_, rfl⟩
  rw [hK'] at HKI ⊢
  have HR := Lib.hid hra
  have HD1 := Lib.hid hd1
  clear hbW hW hM hT hN hp hr hK' hra hd1 hdb hc hi
  obtain ⟨op, ra, rb, rc, obj, m, fn, ord⟩ := i
  unfold I8.val at HD ⊢
  simp only at HB1 HD HW HGA HKI HR HD1 ⊢
  obtain ⟨⟨a0, a1, a2, a3, a4, a5, a6, a7⟩, -⟩ := blkFacts HB1.out
  go_enter Tryz.func46, Tryz.ntmps46
  go_wp2_with fail
  rw [HW.out]
  go_wp2_with fail
  refine HD.out.mono ?_
  rintro e w1 ⟨rfl, b1⟩
  have HB1' := Lib.hid (HB1.out.below' b1)
  have hM1 := HMK.out w1 b1
  have HM1 := Lib.hid hM1
  have HG1 := Lib.hid (belowThen HBW.out b1)
  clear b1 a0 a1 a2 a3 a4 a5 a6 a7
  obtain ⟨⟨a0, a1, a2, a3, a4, a5, a6, a7⟩, -⟩ := blkFacts HB1'.out
  by_cases h1 : op = 1
  · have hp := HD1.out h1
    have hr := HR.out hp
    subst hp hr
    obtain ⟨w2, hrun, hm2, ht2⟩ := hM1.store (by omega) HGA.out.1 HGA.out.2 m
    have HF := Lib.hid (show MapK w2 b (n + 1) K' by rw [HKI.out, if_pos rfl, if_pos h1]; exact hm2)
    have HG := Lib.hid (chgTurn HG1.out ht2)
    subst h1
    clear hm2 ht2 hM1
    go_wp2
    go_end0
    exact ⟨rfl, HF.out, HG.out⟩
  · have z1 : (op == 1) = false := by simpa using h1
    cases p
    · have HF := Lib.hid (show MapK w1 b (n + 1) K' by rw [HKI.out, if_neg (by simp)]; exact hM1.mono (by omega))
      clear hM1 h1
      go_wp2
      go_end0
      exact ⟨rfl, HF.out, Chg.ofBelow HG1.out _⟩
    · have hr := HR.out rfl
      subst hr
      obtain ⟨w2, hrun, hm2, ht2⟩ := hM1.drop HGA.out.1 HGA.out.2 33
      have hrun : ∀ ty, (Builtin.delete_ #[86, 3] ty #[.map (some b), .int .i64 r]).run Tryz.prog w1 = .ok (.tuple #[]) w2 := fun ty => hrun
      have HF := Lib.hid (show MapK w2 b (n + 1) K' by rw [HKI.out, if_pos rfl, if_neg h1]; exact hm2.mono (by omega))
      have HG := Lib.hid (chgTurn HG1.out ht2)
      clear hm2 ht2 hM1 h1
      go_wp2
      go_end0
      exact ⟨rfl, HF.out, HG.out⟩
end Go.Proofs.YtpkagpobobmnfaaGreatDoor
