/-
  Two slices of spin loops compared.
-/
import Derived.Test.YtebpnnakcodjdaaDoorZAwP
import Derived.Deep.QuietTactic
import Derived.BigQuiet
import Derived.Deep.LoopGhost
import Derived.Laws.StructEq
import Derived.KernelRfl
import Derived.Test.YtebpnnakcodjdaaDoorZAwRw
namespace Go.Proofs.YtebpnnakcodjdaaDoor
open Go Go.RowKit

set_option maxRecDepth 100000 in
theorem eqSnIs (x0 x1 x2 y0 y1 y2 : Int) (w : World) : (Op.equalIn 10000 39 (.agg #[.int .i64 x0, .int .i64 x1, .int .i64 x2]) (.agg #[.int .i64 y0, .int .i64 y1, .int .i64 y2])).run Tryd.prog w = .ok (x0 == y0 && (x1 == y1 && x2 == y2)) w := by
  have hu := Tryd.underlying39
  rw [run_equalIn_struct w 9999 39 _ _ (by rw [Program.fieldsOf, hu]) (by kernel_rfl)]
  simp only [Program.fieldsOf, hu]
  have i0 := run_equalIn_int (P := Tryd.prog) w 9998 3 .i64 .i64 x0 y0 Tryd.underlying3
  have i1 := run_equalIn_int (P := Tryd.prog) w 9998 3 .i64 .i64 x1 y1 Tryd.underlying3
  have i2 := run_equalIn_int (P := Tryd.prog) w 9998 3 .i64 .i64 x2 y2 Tryd.underlying3
  have q0 : ∀ (a b c : Value), (part 3 #[a, b, c] 0).run Tryd.prog w = .ok a w := fun a b c => by kernel_rfl
  have q1 : ∀ (a b c : Value), (part 3 #[a, b, c] 1).run Tryd.prog w = .ok b w := fun a b c => by kernel_rfl
  have q2 : ∀ (a b c : Value), (part 3 #[a, b, c] 2).run Tryd.prog w = .ok c w := fun a b c => by kernel_rfl
  generalize (x0 == y0) = b0 at *
  generalize (x1 == y1) = b1 at *
  generalize (x2 == y2) = b2 at *
  cases b0
  · simp [Op.eqFields, q0, i0]
  cases b1
  · simp [Op.eqFields, q0, i0, q1, i1]
  cases b2 <;> simp [Op.eqFields, q0, i0, q1, i1, q2, i2]
def UpN (l m : List (Nat × Nat)) (k : Nat) : Prop := ∀ j (h1 : j < l.length) (h2 : j < m.length), j < k → l[j] = m[j]
theorem UpN.next {l m : List (Nat × Nat)} {k : Nat} (h : UpN l m k) (h1 : k < l.length) (h2 : k < m.length) (e : l[k] = m[k]) : UpN l m (k + 1) := fun j j1 j2 hj => by
  rcases (by omega : j < k ∨ j = k) with g | g
  · exact h j j1 j2 g
  · subst g; exact e
theorem UpN.eq {l m : List (Nat × Nat)} {k : Nat} (h : UpN l m k) (hl : l.length = m.length) (hk : l.length ≤ k) : l = m := List.ext_getElem hl fun j h1 h2 => h j h1 h2 (by omega)
set_option maxRecDepth 100000 in
set_option maxHeartbeats 2000000 in
theorem rSame14 (l m : List (Nat × Nat)) (n k : Nat) (hn : l.length = n) (hm : m.length = k) (A B : Option Addr) (c d : Nat) (w : World) (ha : RdE 3 ESn w A c l) (hb : RdE 3 ESn w B d m) :
    Calls Tryd.prog 13 #[.slice A n c, .slice B k d] w fun e w' => e = .returned (.bool (decide (l = m))) ∧ Below w.heap.size w w' := by
  have hla := ha.le
  have hlb := hb.le
  have hca := ha.max
  have hcb := hb.max
  rw [hn] at hla
  rw [hm] at hlb
  unfold maxLen at hca hcb
  obtain ⟨r, hr⟩ : ∃ r, decide (l = m) = r := ⟨_, rfl⟩
  rw [hr]
  have HR := Lib.hid hr
  have HA := Lib.hid ha
  have HB := Lib.hid hb
  have HN := Lib.hid hn
  have HM := Lib.hid hm
  have HBD := Lib.hid (fun X nq (hX : Below w.heap.size w X) => belowDrewN hX nq)
  clear ha hb hr
  by_cases hnk : n = k
  rotate_left
  · have hx : ((n : Int) != (k : Int)) = true := by simp; omega
    have HF := Lib.hid (show false = r by rw [← HR.out]; exact (decide_eq_false fun e => hnk (by rw [← hn, ← hm, e])).symm)
    clear hn hm hnk
    go_enter Tryd.func13, Tryd.ntmps13
    go_wp2
    go_ret
    exact ⟨retB HF.out, Below.refl _ _⟩
  · subst hnk
    clear hn hm
    go_enter Tryd.func13, Tryd.ntmps13
    go_wp2
    go_loopg [5] n (fun g i wr => ∃ j : Nat, j + g = n ∧ i = .int .i64 j ∧ Below w.heap.size w wr ∧ Hid (UpN l m j))
    case atStart => exact ⟨0, by omega, rfl, Below.refl _ _, Lib.hid fun _ _ _ h => by omega⟩
    case round =>
      obtain ⟨j, hj, rfl, hb, HU⟩ := hrel
      cases gk with
      | zero =>
        have hjn : j = n := by omega
        subst hjn
        have hjz : ¬ ((j : Int) < j) := by omega
        have HT := Lib.hid (show true = r by rw [← HR.out]; exact (decide_eq_true (HU.out.eq (HN.out.trans HM.out.symm) (by rw [HN.out]; exact Nat.le_refl _))).symm)
        go_wp2
        go_ret
        exact ⟨retB HT.out, hb⟩
      | succ g2 =>
        have hj0 : (0 : Int) ≤ j := by omega
        have hj1 : (j : Int) < n := by omega
        have jl : j < l.length := by rw [HN.out]; omega
        have jm : j < m.length := by rw [HM.out]; omega
        obtain ⟨q1, o1, rfl, _, e1⟩ := (HA.out.below stabSn hb).one jl
        obtain ⟨q2, o2, rfl, _, e2⟩ := (HB.out.below stabSn hb).one jm
        have HNX := Lib.hid (fun e => HU.out.next jl jm e)
        have HNE := Lib.hid (fun (h : l[j] ≠ m[j]) => (show false = r by rw [← HR.out]; exact (decide_eq_false fun e => h (by subst e; rfl)).symm))
        have f0 := e1.c0
        have f1 := e1.c1
        have f2 := e1.c2
        have s0 := e2.c0
        have s1 := e2.c1
        have s2 := e2.c2
        obtain ⟨⟨a0, a1⟩, hu⟩ : ∃ u, l[j] = u := ⟨_, rfl⟩
        obtain ⟨⟨b0, b1⟩, hv⟩ : ∃ u, m[j] = u := ⟨_, rfl⟩
        rw [hu] at f0 f1 f2 HNX HNE
        rw [hv] at s0 s1 s2 HNX HNE
        simp only at f0 f1 f2 s0 s1 s2
        have HQ := Lib.hid (fun X => eqSnIs (a0 : Int) a1 ((a1 : Int) + 2) b0 b1 ((b1 : Int) + 2) X)
        clear e1 e2 hu hv jl jm
        by_cases hz : ((a0 : Int) == b0 && ((a1 : Int) == b1 && ((a1 : Int) + 2 == (b1 : Int) + 2))) = true
        · have HX : Hid (UpN l m (j + 1)) := Lib.hid (HNX.out (by simp at hz; exact Prod.ext (by omega) (by omega)))
          rw [hz] at HQ
          have hq := HQ.out
          clear hz HNX HNE
          go_wp2_with fail
          go_quiet (fail)
          go_wp2
          go_roundg g2
          case measure => omega
          case rel => exact ⟨j + 1, by omega, by go_num, HBD.out _ _ hb, HX⟩
        · have hz : ((a0 : Int) == b0 && ((a1 : Int) == b1 && ((a1 : Int) + 2 == (b1 : Int) + 2))) = false := by simpa using hz
          have HX := Lib.hid (HNE.out fun e => by injection e with e1 e2; subst e1; subst e2; simp at hz)
          rw [hz] at HQ
          have hq := HQ.out
          clear hz HNX HNE
          go_wp2_with fail
          go_quiet (fail)
          go_wp2
          go_ret
          exact ⟨retB HX.out, HBD.out _ _ hb⟩
end Go.Proofs.YtebpnnakcodjdaaDoor

namespace Go.Proofs.YtebpnnakcodjdaaDoor
open Go Go.RowKit

/-- The example with a function. -/
def awX (fn : Int) : Prg := ⟨[(⟨#[120]⟩, 0)], [], [], [(⟨#[102]⟩, [⟨1, 1, 0, 0, 0, 1, 0, 0⟩, ⟨8, 2, 0, 0, 0, 0, 0, 2⟩, ⟨3, 3, 2, 1, 0, 0, fn, 0⟩, ⟨5, 0, 3, 0, 0, 1, 0, 0⟩])], [(0, 0)]⟩
theorem fiveA (W : World) (o1 o2 o3 o4 o5 : Obj) {Z : World} (hZ : ((((W.alloc o1).alloc o2).alloc o3).alloc o4).alloc o5 = Z) :
    (Z.heap[W.heap.size]? = some o1 ∧ Z.heap[W.heap.size + 1]? = some o2 ∧ Z.heap[W.heap.size + 1 + 1]? = some o3 ∧ Z.heap[W.heap.size + 1 + 1 + 1]? = some o4 ∧ Z.heap[W.heap.size + 1 + 1 + 1 + 1]? = some o5) ∧ Below W.heap.size W Z := by
  subst hZ
  have new : ∀ (X : World) (o : Obj) (k : Nat), X.heap.size = k → (X.alloc o).heap[k]? = some o := fun X o k h => h ▸ World.alloc_heap_new X o
  have old : ∀ (X : World) (o o' : Obj) (k : Nat), X.heap[k]? = some o' → (X.alloc o).heap[k]? = some o' := fun X o o' k h => ((belowAlloc X o).block k (Array.getElem?_eq_some_iff.1 h).1).trans h
  refine ⟨⟨old _ _ _ _ (old _ _ _ _ (old _ _ _ _ (old _ _ _ _ (new _ _ _ rfl)))), old _ _ _ _ (old _ _ _ _ (old _ _ _ _ (new _ _ _ (by simp)))), old _ _ _ _ (old _ _ _ _ (new _ _ _ (by simp))), old _ _ _ _ (new _ _ _ (by simp)), new _ _ _ (by simp)⟩, ?_⟩
  exact belowThen (belowThen (belowThen (belowThen (belowAlloc _ _) (belowAlloc _ _)) (belowAlloc _ _)) (belowAlloc _ _)) (belowAlloc _ _)
set_option maxRecDepth 100000 in
set_option maxHeartbeats 1000000 in
theorem aExample (fn : Int) (w : World) : Calls Tryd.prog 12 #[.int .i64 fn] w fun e w' => ∃ a : PgA, e = .returned a.val ∧ PgW w' a (awX fn) ∧ Below w.heap.size w w' := by
  obtain ⟨Z, hZ⟩ : ∃ Z, (((((w.alloc (.cells #[.slice (some ⟨w.heap.size + 1 + 1, 0, none⟩) 1 1, .slice none 0 0, .slice none 0 0, .slice (some ⟨w.heap.size + 1 + 1 + 1, 0, none⟩) 1 1, .slice (some ⟨w.heap.size + 1 + 1 + 1 + 1, 0, none⟩) 1 1] 27)).alloc (.cells #[.int .i64 1, .int .i64 1, .int .i64 0, .int .i64 0, .int .i64 0, .int .i64 1, .int .i64 0, .int .i64 0, .int .i64 8, .int .i64 2, .int .i64 0, .int .i64 0, .int .i64 0, .int .i64 0, .int .i64 0, .int .i64 2, .int .i64 3, .int .i64 3, .int .i64 2, .int .i64 1, .int .i64 0, .int .i64 0, .int .i64 fn, .int .i64 0, .int .i64 5, .int .i64 0, .int .i64 3, .int .i64 0, .int .i64 0, .int .i64 1, .int .i64 0, .int .i64 0] 47)).alloc (.cells #[.string ⟨#[120]⟩, .int .i64 0] 65)).alloc (.cells #[.string ⟨#[102]⟩, .slice (some ⟨w.heap.size + 1, 0, none⟩) 4 4] 42)).alloc (.cells #[.int .i64 0, .int .i64 0] 70)) = Z := ⟨_, rfl⟩
  obtain ⟨⟨h0, h1, h2, h3, h4⟩, hb⟩ := fiveA w _ _ _ _ _ hZ
  have b0 : Blk Z w.heap.size 27 _ := h0
  have b1 : Blk Z (w.heap.size + 1) 47 _ := h1
  have b2 : Blk Z (w.heap.size + 1 + 1) 65 _ := h2
  have b3 : Blk Z (w.heap.size + 1 + 1 + 1) 42 _ := h3
  have b4 : Blk Z (w.heap.size + 1 + 1 + 1 + 1) 70 _ := h4
  have HZ := Lib.hid hZ
  have H0 := Lib.hid b0
  have hc1 : RdE 8 EI Z (some ⟨w.heap.size + 1, 0, none⟩) 4 [⟨1, 1, 0, 0, 0, 1, 0, 0⟩, ⟨8, 2, 0, 0, 0, 0, 0, 2⟩, ⟨3, 3, 2, 1, 0, 0, fn, 0⟩, ⟨5, 0, 3, 0, 0, 1, 0, 0⟩] := ⟨Nat.le_refl _, by show 4 ≤ maxLen; decide, fun _ => ⟨_, 0, rfl, b1.lt, fun j hj => by
    have hj' : j < 4 := hj
    have hc : j = 0 ∨ j = 1 ∨ j = 2 ∨ j = 3 := by omega
    rcases hc with rfl | rfl | rfl | rfl
    · exact ⟨b1.cell 0, b1.cell 1, b1.cell 2, b1.cell 3, b1.cell 4, b1.cell 5, b1.cell 6, b1.cell 7⟩
    · exact ⟨b1.cell 8, b1.cell 9, b1.cell 10, b1.cell 11, b1.cell 12, b1.cell 13, b1.cell 14, b1.cell 15⟩
    · exact ⟨b1.cell 16, b1.cell 17, b1.cell 18, b1.cell 19, b1.cell 20, b1.cell 21, b1.cell 22, b1.cell 23⟩
    · exact ⟨b1.cell 24, b1.cell 25, b1.cell 26, b1.cell 27, b1.cell 28, b1.cell 29, b1.cell 30, b1.cell 31⟩⟩⟩
  have HP := Lib.hid (show PgW Z ⟨some ⟨w.heap.size + 1 + 1, 0, none⟩, 1, 1, none, 0, 0, none, 0, 0, some ⟨w.heap.size + 1 + 1 + 1, 0, none⟩, 1, 1, some ⟨w.heap.size + 1 + 1 + 1 + 1, 0, none⟩, 1, 1⟩ (awX fn) from
    ⟨rfl, rfl, rfl, rfl, rfl, ⟨Nat.le_refl _, by show 1 ≤ maxLen; decide, fun _ => ⟨_, 0, rfl, b2.lt, fun j hj => by
        have hj' : j < 1 := hj
        obtain rfl : j = 0 := by omega
        exact ⟨b2.cell 0, b2.cell 1⟩⟩⟩, RdE.nil, RdE.nil, ⟨Nat.le_refl _, by show 1 ≤ maxLen; decide, fun _ => ⟨_, 0, rfl, b3.lt, fun j hj => by
        have hj' : j < 1 := hj
        obtain rfl : j = 0 := by omega
        exact ⟨b3.cell 0, _, b3.cell 1, _, _, _, rfl, rfl, hc1⟩⟩⟩,
      ⟨Nat.le_refl _, by show 1 ≤ maxLen; decide, fun _ => ⟨_, 0, rfl, b4.lt, fun j hj => by
        have hj' : j < 1 := hj
        obtain rfl : j = 0 := by omega
        exact ⟨b4.cell 0, b4.cell 1⟩⟩⟩⟩)
  have HB := Lib.hid hb
  clear h0 h1 h2 h3 h4 b0 b1 b2 b3 b4 hc1 hb hZ
  go_enter Tryd.func12, Tryd.ntmps12
  go_wp2
  rw [HZ.out]
  exact bodyPost_ret (H0.out.res rfl _ rfl Tryd.underlying27 rfl infoPg) rfl ⟨_, rfl, HP.out, HB.out⟩
theorem sm64a (n : Int) (h1 : -1000 ≤ n) (h2 : n ≤ 1000) : In64 n := ⟨by omega, by omega⟩
theorem wfSmallA (i : I8) (h : (decide (-1000 ≤ i.op ∧ i.op ≤ 1000) && decide (-1000 ≤ i.a ∧ i.a ≤ 1000) && decide (-1000 ≤ i.b ∧ i.b ≤ 1000) && decide (-1000 ≤ i.c ∧ i.c ≤ 1000) && decide (-1000 ≤ i.obj ∧ i.obj ≤ 1000) && decide (-1000 ≤ i.n ∧ i.n ≤ 1000) && decide (-1000 ≤ i.fn ∧ i.fn ≤ 1000) && decide (-1000 ≤ i.ord ∧ i.ord ≤ 1000)) = true) : i.Wf := by
  simp only [Bool.and_eq_true, decide_eq_true_eq] at h
  obtain ⟨⟨⟨⟨⟨⟨⟨h0, h1⟩, h2⟩, h3⟩, h4⟩, h5⟩, h6⟩, h7⟩ := h
  exact ⟨sm64a _ h0.1 h0.2, sm64a _ h1.1 h1.2, sm64a _ h2.1 h2.2, sm64a _ h3.1 h3.2, sm64a _ h4.1 h4.2, sm64a _ h5.1 h5.2, sm64a _ h6.1 h6.2, sm64a _ h7.1 h7.2⟩
theorem awXWf (fn : Int) (h : fn = 8 ∨ fn = 9) : (awX fn).Wf := by
  refine ⟨fun f hf i hi => ?_, fun v hv => ?_, fun s hs => ?_, fun s hs => ?_, fun f hf => ?_⟩
  · obtain rfl := List.mem_singleton.1 hf
    have hi : i ∈ ([⟨1, 1, 0, 0, 0, 1, 0, 0⟩, ⟨8, 2, 0, 0, 0, 0, 0, 2⟩, ⟨3, 3, 2, 1, 0, 0, fn, 0⟩, ⟨5, 0, 3, 0, 0, 1, 0, 0⟩] : List I8) := hi
    rcases List.mem_cons.1 hi with rfl | hi
    · exact wfSmallA _ (by decide)
    rcases List.mem_cons.1 hi with rfl | hi
    · exact wfSmallA _ (by decide)
    rcases List.mem_cons.1 hi with rfl | hi
    · rcases h with rfl | rfl <;> exact wfSmallA _ (by decide)
    · obtain rfl := List.mem_singleton.1 hi
      exact wfSmallA _ (by decide)
  · obtain rfl := List.mem_singleton.1 hv
    exact (by decide : (1 : Nat) ≤ maxLen)
  · cases hs
  · cases hs
  · obtain rfl := List.mem_singleton.1 hf
    exact (by decide : (1 : Nat) ≤ maxLen)
theorem awXSmall (fn : Int) : (awX fn).small = true := rfl
theorem awX8 : (awX 8).chk = (0, -1, -1) := by decide +kernel
theorem awX9 : (awX 9).chk = (0, -1, -1) := by decide +kernel
theorem awS8 : spR (awX 8) = [(0, 1)] := by decide +kernel
theorem awS9 : spR (awX 9) = [] := by decide +kernel
theorem awR8 : rwR (awX 8) = ⟨[(⟨#[120]⟩, 0)], [], [], [(⟨#[102]⟩, [⟨1, 1, 0, 0, 0, 1, 0, 0⟩, ⟨14, 2, 1, 0, 0, 0, 7, 2⟩, ⟨3, 3, 2, 1, 0, 0, 8, 0⟩, ⟨5, 0, 3, 0, 0, 1, 0, 0⟩])], [(0, 0)]⟩ := by
  have h : rwS (awX 8).funcs (awX 8).spins = [(⟨#[102]⟩, [⟨1, 1, 0, 0, 0, 1, 0, 0⟩, ⟨14, 2, 1, 0, 0, 0, 7, 2⟩, ⟨3, 3, 2, 1, 0, 0, 8, 0⟩, ⟨5, 0, 3, 0, 0, 1, 0, 0⟩])] := by decide +kernel
  unfold rwR
  rw [if_pos (by rw [awX8])]
  unfold rwP
  rw [h]
  rfl
end Go.Proofs.YtebpnnakcodjdaaDoor

namespace Go.Proofs.YtebpnnakcodjdaaDoor
open Go Go.RowKit

def LawOkA (w : World) (e : Ending) (w' : World) : Prop := e = .returned (.bool true) ∧ Below w.heap.size w w'
theorem litN (w : World) : RdE 3 ESn (w.alloc (.cells #[.int .i64 0, .int .i64 1, .int .i64 3] 39)) (some ⟨w.heap.size, 0, none⟩) 1 [(0, 1)] := ⟨Nat.le_refl _, by show 1 ≤ maxLen; decide, fun _ => ⟨_, 0, rfl, by simp, fun j hj => by
    have hj' : j < 1 := hj
    obtain rfl : j = 0 := by omega
    have hb := Blk.new w 39 #[.int .i64 0, .int .i64 1, .int .i64 3]
    exact ⟨hb.cell 0, hb.cell 1, hb.cell 2⟩⟩⟩
set_option maxRecDepth 100000 in
set_option maxHeartbeats 8000000 in
theorem aLives (w : World) (hL : Laid7 w) : Calls Tryd.prog 6 #[] w (LawOkA w) := by
  have HL := Lib.hid (fun X (hX : Below w.heap.size w X) => hL.below hX)
  have HB0 := Lib.hid (Below.refl w.heap.size w)
  clear hL
  go_enter Tryd.func6, Tryd.ntmps6
  go_wp2_with fail
  refine (aExample 8 _).mono ?_
  rintro e w1 ⟨a1, rfl, p1, b1⟩
  have HF1 := Lib.hid (iFind w1 p1 (awXWf 8 (.inl rfl)) (awXSmall 8) (HL.out w1 b1).ins (HL.out w1 b1).nm)
  rw [awX8, awS8] at HF1
  have HB1 := Lib.hid b1
  clear p1 b1
  go_wp2_with fail
  refine HF1.out.mono ?_
  rintro e w2 ⟨v2, rfl, o2, b2⟩
  obtain ⟨S2, c2, rfl, r2⟩ := o2.rd
  have HR2 := Lib.hid r2
  have HB2 := Lib.hid (belowThen HB1.out b2)
  clear o2 r2 b2
  go_wp2_with fail
  refine (aExample 9 _).mono ?_
  rintro e w3 ⟨a3, rfl, p3, b3⟩
  have hb3 := belowThen HB2.out b3
  have HF3 := Lib.hid (iFind w3 p3 (awXWf 9 (.inr rfl)) (awXSmall 9) (HL.out w3 hb3).ins (HL.out w3 hb3).nm)
  rw [awX9, awS9] at HF3
  have HB3 := Lib.hid hb3
  have HB23 := Lib.hid b3
  clear p3 b3 hb3
  go_wp2_with fail
  refine HF3.out.mono ?_
  rintro e w4 ⟨v4, rfl, o4, b4⟩
  obtain ⟨S4, c4, rfl, _⟩ := o4.rd
  have HB4 := Lib.hid (belowThen HB3.out b4)
  have HB24 := Lib.hid (belowThen HB23.out b4)
  clear o4 b4
  go_wp2_with fail
  refine (aExample 8 _).mono ?_
  rintro e w5 ⟨a5, rfl, p5, b5⟩
  have hb5 := belowThen HB4.out b5
  have HF5 := Lib.hid (iRewrite w5 p5 (awXWf 8 (.inl rfl)) (awXSmall 8) (HL.out w5 hb5).ins (HL.out w5 hb5).nm)
  unfold GivesRw at HF5
  rw [awX8, awR8] at HF5
  have HB5 := Lib.hid hb5
  have HB25 := Lib.hid (belowThen HB24.out b5)
  clear p5 b5 hb5
  go_wp2_with fail
  refine HF5.out.mono ?_
  rintro e w6 ⟨a6, rfl, p6, b6⟩
  have HB6 := Lib.hid (belowThen HB5.out b6)
  have HB26 := Lib.hid (belowThen HB25.out b6)
  obtain ⟨w7, hw7⟩ : ∃ w7, w6.alloc (.cells a6.fs 27) = w7 := ⟨_, rfl⟩
  have hb7 : Below w6.heap.size w6 w7 := by rw [← hw7]; exact belowAlloc _ _
  have hB7 : PBox w7 w6.heap.size a6 := by rw [← hw7]; exact Blk.new _ _ _
  have p7 := p6.below hb7
  have l4 := p7.l4
  have hlen : (1 : Nat) = a6.n4 := l4
  obtain ⟨b, off, hA, hblt, hrow⟩ := p7.funcs.at_ (by show 0 < 1; omega)
  obtain ⟨g1, v, g2, Ac, m, c, rfl, hm, hr⟩ := hrow 0 (by show 0 < 1; omega)
  have hm : (4 : Nat) = m := hm
  obtain ⟨g, off2, rfl, hglt, hx⟩ := hr.at_ (by show 0 < 4; omega)
  have e1 := hx 1 (by show 1 < 4; omega)
  subst hm
  obtain ⟨f0, f1, f2, f3, f4⟩ := hB7.facts
  obtain ⟨A1, n1, c1, A2, n2, c2', A3, n3, c3, A4, n4, c4', A5, n5, c5⟩ := a6
  simp only at hA hlen f0 f1 f2 f3 f4
  subst hA
  subst hlen
  have hle4 := p7.funcs.le
  have hmx4 := p7.funcs.max
  have hrl := hr.le
  have hrm := hr.max
  have hle4 : 1 ≤ c4' := hle4
  have hrl : 4 ≤ c := hrl
  simp only at hmx4
  unfold maxLen at hmx4 hrm
  have g2 : w7.cell? ⟨b, off + 1, none⟩ = some (.slice (some ⟨g, off2, none⟩) 4 c) := by simpa using g2
  have i0 : w7.cell? ⟨g, off2 + 8, none⟩ = some (.int .i64 14) := e1.c0
  have i1 : w7.cell? ⟨g, off2 + 8 + 1, none⟩ = some (.int .i64 2) := e1.c1
  have i2 : w7.cell? ⟨g, off2 + 8 + 2, none⟩ = some (.int .i64 1) := e1.c2
  have i3 : w7.cell? ⟨g, off2 + 8 + 3, none⟩ = some (.int .i64 0) := e1.c3
  have i4 : w7.cell? ⟨g, off2 + 8 + 4, none⟩ = some (.int .i64 0) := e1.c4
  have i5 : w7.cell? ⟨g, off2 + 8 + 5, none⟩ = some (.int .i64 0) := e1.c5
  have i6 : w7.cell? ⟨g, off2 + 8 + 6, none⟩ = some (.int .i64 7) := e1.c6
  have i7 : w7.cell? ⟨g, off2 + 8 + 7, none⟩ = some (.int .i64 2) := e1.c7
  have HC := Lib.hid (fun X (hX : Below w7.heap.size w7 X) => (⟨(hX.cell hB7.lt).trans f3, (hX.cell hblt).trans g2, (hX.cell hglt).trans i0, (hX.cell hglt).trans i1, (hX.cell hglt).trans i2, (hX.cell hglt).trans i3, (hX.cell hglt).trans i4, (hX.cell hglt).trans i5, (hX.cell hglt).trans i6, (hX.cell hglt).trans i7⟩ :
    X.cell? ⟨w6.heap.size, 3, none⟩ = some (.slice (some ⟨b, off, none⟩) 1 c4') ∧ X.cell? ⟨b, off + 1, none⟩ = some (.slice (some ⟨g, off2, none⟩) 4 c) ∧ X.cell? ⟨g, off2 + 8, none⟩ = some (.int .i64 14) ∧ X.cell? ⟨g, off2 + 8 + 1, none⟩ = some (.int .i64 2) ∧ X.cell? ⟨g, off2 + 8 + 2, none⟩ = some (.int .i64 1) ∧ X.cell? ⟨g, off2 + 8 + 3, none⟩ = some (.int .i64 0) ∧ X.cell? ⟨g, off2 + 8 + 4, none⟩ = some (.int .i64 0) ∧ X.cell? ⟨g, off2 + 8 + 5, none⟩ = some (.int .i64 0) ∧ X.cell? ⟨g, off2 + 8 + 6, none⟩ = some (.int .i64 7) ∧ X.cell? ⟨g, off2 + 8 + 7, none⟩ = some (.int .i64 2)))
  have HB7 := Lib.hid (belowThen HB6.out hb7)
  have HB27 := Lib.hid (belowThen HB26.out hb7)
  have HSA := Lib.hid (rSame14 [(0, 1)] [(0, 1)] 1 1 rfl rfl S2 (some ⟨w7.heap.size, 0, none⟩) c2 1 (w7.alloc (.cells #[.int .i64 0, .int .i64 1, .int .i64 3] 39)) (HR2.out.below stabSn (belowThen HB27.out (belowAlloc _ _))) (litN w7))
  have HEQ := Lib.hid (fun X => eqInstIs 14 2 1 0 0 0 7 2 14 2 1 0 0 0 7 2 X)
  have HW7 := Lib.hid hw7
  clear hw7 hb7 hB7 p6 p7 b6 hrow hr hx e1 l4 hblt hglt f0 f1 f2 f4 g1 HB1 HB2 HB3 HB4 HB5 HB6
  simp only [PgA.fs] at HW7
  simp only [PgA.val, PgA.fs]
  go_upto_region 4 with fail
  rw [HW7.out]
  go_wp2_with fail
  refine HSA.out.mono ?_
  rintro e w8 ⟨rfl, b8⟩
  have HB8 := Lib.hid (belowThen (belowAlloc _ _) b8)
  clear b8 f3 g2 i0 i1 i2 i3 i4 i5 i6 i7
  obtain ⟨f3, g2, i0, i1, i2, i3, i4, i5, i6, i7⟩ := HC.out w8 HB8.out
  have heq := HEQ.out w8
  go_wp2
  go_ret
  exact ⟨rfl, belowThen HB7.out HB8.out⟩
end Go.Proofs.YtebpnnakcodjdaaDoor
