/-
  sameStatement: two statements' own fields and their expressions.
-/
import Derived.Test.YtiaendggmamnkaaGreatDoorETx
import Derived.Test.YtiaendggmamnkaaGreatDoorECs
namespace Go.Proofs.YtiaendggmamnkaaGreatDoor
open Go Go.RowKit

set_option maxRecDepth 100000 in
set_option maxHeartbeats 4000000 in
theorem iSameM (dx : Nat) (s t : Sm) (A6 A7 A8 B6 B7 B8 : Option Addr) (c6 c7 c8 d6 d7 d8 : Nat) (w : World) (hs : RdE 5 (EX dx) w A6 c6 s.val.exprs) (ht : RdE 5 (EX dx) w B6 d6 t.val.exprs) (hsa : Tr.szL s.val.exprs ≤ 4000000) (hsb : Tr.szL t.val.exprs ≤ 4000000) :
    Calls Tryz.prog 73 #[smV s A6 A7 A8 c6 c7 c8, smV t B6 B7 B8 d6 d7 d8] w (SaysP (s.val = t.val) w) := by
  obtain ⟨W, hW⟩ : ∃ W, (w.alloc (.cells (smC s.val.kind s.val.name s.val.obj s.val.other s.val.fn s.val.ord (.slice A6 s.val.exprs.length c6) (.slice A7 s.fst.length c7) (.slice A8 s.snd.length c8)) 54)).alloc (.cells (smC t.val.kind t.val.name t.val.obj t.val.other t.val.fn t.val.ord (.slice B6 t.val.exprs.length d6) (.slice B7 t.fst.length d7) (.slice B8 t.snd.length d8)) 54) = W := ⟨_, rfl⟩
  obtain ⟨h1, h2, hb⟩ := two16 w _ _ hW
  have B : Blk W w.heap.size 54 (smC s.val.kind s.val.name s.val.obj s.val.other s.val.fn s.val.ord (.slice A6 s.val.exprs.length c6) (.slice A7 s.fst.length c7) (.slice A8 s.snd.length c8)) := h1
  have C : Blk W (w.heap.size + 1) 54 (smC t.val.kind t.val.name t.val.obj t.val.other t.val.fn t.val.ord (.slice B6 t.val.exprs.length d6) (.slice B7 t.fst.length d7) (.slice B8 t.snd.length d8)) := h2
  have a0 : W.cell? ⟨w.heap.size, 0, none⟩ = some (.int .i64 s.val.kind) := B.cell 0
  have b0 : W.cell? ⟨w.heap.size + 1, 0, none⟩ = some (.int .i64 t.val.kind) := C.cell 0
  have a1 : W.cell? ⟨w.heap.size, 1, none⟩ = some (.string s.val.name) := B.cell 1
  have b1 : W.cell? ⟨w.heap.size + 1, 1, none⟩ = some (.string t.val.name) := C.cell 1
  have a2 : W.cell? ⟨w.heap.size, 2, none⟩ = some (.string s.val.obj) := B.cell 2
  have b2 : W.cell? ⟨w.heap.size + 1, 2, none⟩ = some (.string t.val.obj) := C.cell 2
  have a3 : W.cell? ⟨w.heap.size, 3, none⟩ = some (.string s.val.other) := B.cell 3
  have b3 : W.cell? ⟨w.heap.size + 1, 3, none⟩ = some (.string t.val.other) := C.cell 3
  have a4 : W.cell? ⟨w.heap.size, 4, none⟩ = some (.int .i64 s.val.fn) := B.cell 4
  have b4 : W.cell? ⟨w.heap.size + 1, 4, none⟩ = some (.int .i64 t.val.fn) := C.cell 4
  have a5 : W.cell? ⟨w.heap.size, 5, none⟩ = some (.int .i64 s.val.ord) := B.cell 5
  have b5 : W.cell? ⟨w.heap.size + 1, 5, none⟩ = some (.int .i64 t.val.ord) := C.cell 5
  have a6 : W.cell? ⟨w.heap.size, 6, none⟩ = some (.slice A6 s.val.exprs.length c6) := B.cell 6
  have b6 : W.cell? ⟨w.heap.size + 1, 6, none⟩ = some (.slice B6 t.val.exprs.length d6) := C.cell 6
  unfold smV
  unfold smC at hW ⊢
  have HTX := Lib.hid (iTreesX dx s.val.exprs t.val.exprs _ _ rfl rfl hsa hsb A6 B6 c6 d6 W (hs.below (stabX dx) hb) (ht.below (stabX dx) hb))
  have HW := Lib.hid hW
  have HB := Lib.hid hb
  clear B C hW hb h1 h2 hs ht hsa hsb
  rcases e0 : (s.val.kind == t.val.kind)
  · have HNO := Lib.hid (show ¬ s.val = t.val from fun h => by rw [h] at e0; simp at e0)
    go_enter Tryz.func73, Tryz.ntmps73
    go_upto_region 1 with fail
    rw [HW.out]
    go_wp2_with fail
    go_ret
    exact SaysP.mk ⟨fun h => absurd h (by decide), fun h => absurd h HNO.out⟩ HB.out
  rcases e1 : (s.val.name.toList == t.val.name.toList)
  · have HNO := Lib.hid (show ¬ s.val = t.val from fun h => by rw [h] at e1; simp at e1)
    go_enter Tryz.func73, Tryz.ntmps73
    go_upto_region 1 with fail
    rw [HW.out]
    go_wp2_with fail
    go_ret
    exact SaysP.mk ⟨fun h => absurd h (by decide), fun h => absurd h HNO.out⟩ HB.out
  rcases e2 : (s.val.obj.toList == t.val.obj.toList)
  · have HNO := Lib.hid (show ¬ s.val = t.val from fun h => by rw [h] at e2; simp at e2)
    go_enter Tryz.func73, Tryz.ntmps73
    go_upto_region 1 with fail
    rw [HW.out]
    go_wp2_with fail
    go_ret
    exact SaysP.mk ⟨fun h => absurd h (by decide), fun h => absurd h HNO.out⟩ HB.out
  rcases e3 : (s.val.other.toList == t.val.other.toList)
  · have HNO := Lib.hid (show ¬ s.val = t.val from fun h => by rw [h] at e3; simp at e3)
    go_enter Tryz.func73, Tryz.ntmps73
    go_upto_region 1 with fail
    rw [HW.out]
    go_wp2_with fail
    go_ret
    exact SaysP.mk ⟨fun h => absurd h (by decide), fun h => absurd h HNO.out⟩ HB.out
  rcases e4 : (s.val.fn == t.val.fn)
  · have HNO := Lib.hid (show ¬ s.val = t.val from fun h => by rw [h] at e4; simp at e4)
    go_enter Tryz.func73, Tryz.ntmps73
    go_upto_region 1 with fail
    rw [HW.out]
    go_wp2_with fail
    go_ret
    exact SaysP.mk ⟨fun h => absurd h (by decide), fun h => absurd h HNO.out⟩ HB.out
  rcases e5 : (s.val.ord == t.val.ord)
  · have HNO := Lib.hid (show ¬ s.val = t.val from fun h => by rw [h] at e5; simp at e5)
    go_enter Tryz.func73, Tryz.ntmps73
    go_upto_region 1 with fail
    rw [HW.out]
    go_wp2_with fail
    go_ret
    exact SaysP.mk ⟨fun h => absurd h (by decide), fun h => absurd h HNO.out⟩ HB.out
  have HYE : Hid (s.val.exprs = t.val.exprs ↔ s.val = t.val) := Lib.hid (by
    have q0 : s.val.kind = t.val.kind := by simpa using e0
    have q1 : s.val.name = t.val.name := sEqTo e1
    have q2 : s.val.obj = t.val.obj := sEqTo e2
    have q3 : s.val.other = t.val.other := sEqTo e3
    have q4 : s.val.fn = t.val.fn := by simpa using e4
    have q5 : s.val.ord = t.val.ord := by simpa using e5
    constructor
    · intro h
      obtain ⟨⟨k, nm, ob, ot, fn, od, ex⟩, _, _⟩ := s
      obtain ⟨⟨k', nm', ob', ot', fn', od', ex'⟩, _, _⟩ := t
      simp only [Tr.val] at q0 q1 q2 q3 q4 q5 h ⊢
      subst q0 q1 q2 q3 q4 q5 h
      rfl
    · intro h
      rw [h])
  go_enter Tryz.func73, Tryz.ntmps73
  go_upto_region 1 with fail
  rw [HW.out]
  go_wp2_with fail
  refine HTX.out.mono ?_
  rintro e w1 ⟨r, rfl, hr, hb1⟩
  have HRR := Lib.hid (hr.trans HYE.out)
  have HB1 := Lib.hid (belowThen HB.out hb1)
  clear hr hb1
  go_wp2_with fail
  go_ret
  exact SaysP.mk HRR.out HB1.out
end Go.Proofs.YtiaendggmamnkaaGreatDoor

namespace Go.Proofs.YtiaendggmamnkaaGreatDoor
open Go Go.RowKit

theorem entSM : ∀ args w, (callFunc 73 args).run Tryz.prog w = .ok (.enter 73 args) w := enters_of Tryz.func73 (by kernel_rfl) rfl
set_option maxRecDepth 100000 in
set_option maxHeartbeats 2000000 in
theorem iEqFM (dx D : Nat) (l m : List Sm) (n k : Nat) (hn : l.length = n) (hm : m.length = k) (A B : Option Addr) (c d : Nat) (w : World) (ha : RdE 9 (EM dx D) w A c l) (hb : RdE 9 (EM dx D) w B d m) (hlx : ∀ x ∈ l, Tr.szL x.val.exprs ≤ 4000000) (hmx : ∀ x ∈ m, Tr.szL x.val.exprs ≤ 4000000) :
    Calls Tryz.prog 126 #[.slice A n c, .slice B k d, .func (.func 73) #[] #[]] w (SaysP (l.map Tr.val = m.map Tr.val) w) := by
  have HA := Lib.hid (fun X (hX : Below w.heap.size w X) j (hj : j < l.length) => (ha.below (stabM dx D) hX).one hj)
  have HB := Lib.hid (fun X (hX : Below w.heap.size w X) j (hj : j < m.length) => (hb.below (stabM dx D) hX).one hj)
  have HLX := Lib.hid hlx
  have HMX := Lib.hid hmx
  have HN := Lib.hid hn
  have HM := Lib.hid hm
  have g1 := ha.le
  have g2 := ha.max
  have g3 := hb.le
  have g4 := hb.max
  rw [hn] at g1
  rw [hm] at g3
  unfold maxLen at g2 g4
  have hent := entSM
  clear ha hb hn hm hlx hmx
  by_cases hnk : n = k
  rotate_left
  · have HX := Lib.hid (show false = true ↔ l.map Tr.val = m.map Tr.val from ⟨fun h => absurd h (by decide), fun h => absurd (show n = k by have := congrArg List.length h; rw [List.length_map, List.length_map, HN.out, HM.out] at this; exact this) hnk⟩)
    have hne : ((n : Int) != (k : Int)) = true := by simp; omega
    have hne2 : decide (n = k) = false := by simpa using hnk
    have hb0 := Below.refl w.heap.size w
    go_enter Tryz.func126, Tryz.ntmps126
    go_wp2
    all_goals first
      | (exfalso; omega)
      | (go_ret; exact SaysP.mk HX.out hb0)
  subst hnk
  go_enter Tryz.func126, Tryz.ntmps126
  go_wp2
  go_loopw [7, 8, 9, 17] (fun _ _ _ i wr => ∃ j : Nat, j ≤ n ∧ i = .int .i64 j ∧ Below w.heap.size w wr ∧ Hid (UpTo (l.map Tr.val) (m.map Tr.val) j)) (fun _ _ _ i _ => n - (intOf i).toNat)
  case atStart => exact ⟨0, Nat.zero_le _, rfl, Below.refl _ _, Lib.hid UpTo.zero⟩
  case round =>
    obtain ⟨j, hj, rfl, hb, HU⟩ := hrel
    by_cases hlt : j < n
    · have h1 : j < l.length := by rw [HN.out]; exact hlt
      have h2 : j < m.length := by rw [HM.out]; exact hlt
      cases D with
      | zero => exact (HA.out wr hb j h1).elim fun _ h => h.elim fun _ h => h.2.2.elim
      | succ D1 =>
      have hsp := HLX.out _ (List.getElem_mem h1)
      have hsq := HMX.out _ (List.getElem_mem h2)
      obtain ⟨z, o, hA, _, x0, x1, x2, x3, x4, x5, ⟨_, x6, A6, c6, rfl, r6⟩, ⟨_, x7, A7, c7, rfl, r7⟩, ⟨_, x8, A8, c8, rfl, r8⟩⟩ := HA.out wr hb j h1
      obtain ⟨z', o', hB, _, y0, y1, y2, y3, y4, y5, ⟨_, y6, B6, d6, rfl, t6⟩, ⟨_, y7, B7, d7, rfl, t7⟩, ⟨_, y8, B8, d8, rfl, t8⟩⟩ := HB.out wr hb j h2
      subst hA hB
      have hj0 : (0 : Int) ≤ j := by omega
      have hj1 : (j : Int) < n := by omega
      obtain ⟨p, hp⟩ : ∃ x, l[j] = x := ⟨_, rfl⟩
      obtain ⟨q, hq⟩ : ∃ x, m[j] = x := ⟨_, rfl⟩
      rw [hp] at x0 x1 x2 x3 x4 x5 x6 x7 x8 r6 hsp
      rw [hq] at y0 y1 y2 y3 y4 y5 y6 y7 y8 t6 hsq
      have HFN := Lib.hid (fun Y (hY : Below wr.heap.size wr Y) => iSameM dx p q A6 A7 A8 B6 B7 B8 c6 c7 c8 d6 d7 d8 Y (r6.below (stabX dx) hY) (t6.below (stabX dx) hY) hsp hsq)
      unfold smV smC at HFN
      have HL1 := Lib.hid (show ∃ (e1 : j < (l.map Tr.val).length) (e2 : j < (m.map Tr.val).length), (l.map Tr.val)[j] = p.val ∧ (m.map Tr.val)[j] = q.val from ⟨by simpa using h1, by simpa using h2, by simp [hp], by simp [hq]⟩)
      have HBJ := Lib.hid hb
      obtain ⟨O, hO⟩ : ∃ O : Obj, Obj.cells #[.int .i64 p.val.kind, .string p.val.name, .string p.val.obj, .string p.val.other, .int .i64 p.val.fn, .int .i64 p.val.ord, .slice A6 p.val.exprs.length c6, .slice A7 p.fst.length c7, .slice A8 p.snd.length c8] 54 = O := ⟨_, rfl⟩
      have s0 := ((belowAlloc wr O).cell (World.block_lt_of_cell? _ _ y0)).trans y0
      have s1 := ((belowAlloc wr O).cell (World.block_lt_of_cell? _ _ y1)).trans y1
      have s2 := ((belowAlloc wr O).cell (World.block_lt_of_cell? _ _ y2)).trans y2
      have s3 := ((belowAlloc wr O).cell (World.block_lt_of_cell? _ _ y3)).trans y3
      have s4 := ((belowAlloc wr O).cell (World.block_lt_of_cell? _ _ y4)).trans y4
      have s5 := ((belowAlloc wr O).cell (World.block_lt_of_cell? _ _ y5)).trans y5
      have s6 := ((belowAlloc wr O).cell (World.block_lt_of_cell? _ _ y6)).trans y6
      have s7 := ((belowAlloc wr O).cell (World.block_lt_of_cell? _ _ y7)).trans y7
      have s8 := ((belowAlloc wr O).cell (World.block_lt_of_cell? _ _ y8)).trans y8
      have HBA := Lib.hid (fun O2 => belowThen (belowAlloc wr O) (belowAlloc _ O2))
      rw [← hO] at s0 s1 s2 s3 s4 s5 s6 s7 s8 HBA
      clear hb hp hq r6 r7 r8 t6 t7 t8 h1 h2 hO hsp hsq
      go_wp2_with fail
      refine (HFN.out _ (HBA.out _)).mono ?_
      rintro e w1 ⟨en, rfl, hxe, b1⟩
      have HXE := Lib.hid hxe
      clear hxe
      cases en
      · have HX := Lib.hid (show false = true ↔ l.map Tr.val = m.map Tr.val from ⟨fun h => absurd h (by decide), fun h => by
          obtain ⟨e1, e2, e3, e4⟩ := HL1.out
          have : p.val = q.val := by rw [← e3, ← e4]; simp only [h]
          exact absurd (HXE.out.2 this) (by simp)⟩)
        clear HXE
        go_wp2_with fail
        go_ret
        exact SaysP.mk HX.out (belowThen HBJ.out (belowThen (HBA.out _) b1))
      · have HX := Lib.hid (show UpTo (l.map Tr.val) (m.map Tr.val) (j + 1) by
          obtain ⟨e1, e2, e3, e4⟩ := HL1.out
          exact HU.out.succ e1 e2 (by rw [e3, e4]; exact HXE.out.1 rfl))
        clear HXE
        go_wp2_with fail
        go_roundw
        case rel => exact ⟨j + 1, by omega, by go_num, belowThen HBJ.out (belowThen (HBA.out _) b1), HX⟩
        case measure => simp [intOf]; omega
    · have HX := Lib.hid (show l.map Tr.val = m.map Tr.val from HU.out.eq (by simp [HN.out, HM.out]) (by simp [HN.out]; omega))
      go_wp2_with fail
      go_ret
      exact SaysP.mk ⟨fun _ => HX.out, fun _ => rfl⟩ hb
end Go.Proofs.YtiaendggmamnkaaGreatDoor

namespace Go.Proofs.YtiaendggmamnkaaGreatDoor
open Go Go.RowKit

/-- The stack S in the row in open's box, the block behind w's last but one. -/
structure TrY (dx D : Nat) (w X : World) (L : List PrA) (S : List (List Sm × List Sm)) (v : Value) : Prop where
  stk : StkP 9 (EM dx D) w L S
  box : Blk X (w.heap.size + 1) 172 #[v]
  row : OwnRM X w.heap.size v L.reverse
  ne : v.ownBlock ≠ some (w.heap.size + 1)
  bel : Below w.heap.size w X
  sz : Tr.wtP S ≤ 9000000
theorem TrY.below {dx D : Nat} {w X Y : World} {L : List PrA} {S : List (List Sm × List Sm)} {v : Value} (h : TrY dx D w X L S v) (hb : Below X.heap.size X Y) : TrY dx D w Y L S v :=
  ⟨h.stk, h.box.below' hb, h.row.below hb, h.ne, belowThen h.bel hb, h.sz⟩
theorem TrY.len {dx D : Nat} {w X : World} {L : List PrA} {S : List (List Sm × List Sm)} {v : Value} (h : TrY dx D w X L S v) : L.reverse.length ≤ 10000000 := by
  have h1 := h.stk.le
  have h2 := h.sz
  rw [List.length_reverse]
  omega
/-- At the start: one pair. -/
theorem TrY.start (dx D : Nat) (w : World) {a b : List Sm} {A B : Option Addr} {c d : Nat} (ha : RdE 9 (EM dx D) w A c a) (hb : RdE 9 (EM dx D) w B d b) (hsa : Tr.szL a ≤ 4000000) (hsb : Tr.szL b ≤ 4000000) :
    TrY dx D w ((w.alloc (.cells #[.slice A a.length c, .slice B b.length d] 171)).alloc (.cells #[.slice (some ⟨w.heap.size, 0, none⟩) 1 1] 172)) [⟨A, a.length, c, B, b.length, d⟩] [(a, b)] (.slice (some ⟨w.heap.size, 0, none⟩) 1 1) := by
  refine ⟨⟨rfl, rfl, ha, hb, trivial⟩, Blk.new1 w _ _ _, ⟨rfl, .inr ⟨w.heap.size, 1, _, rfl, Nat.le_refl _, ((belowAlloc _ _).block w.heap.size (by simp)).trans (World.alloc_heap_new w _), Nat.le_refl _, by unfold maxLen; omega, rfl, rfl⟩⟩, ?_, belowThen (belowAlloc _ _) (belowAlloc _ _), ?_⟩
  · intro h
    injection h with h
    simp at h
  · simp only [Tr.wtP]
    omega
end Go.Proofs.YtiaendggmamnkaaGreatDoor
