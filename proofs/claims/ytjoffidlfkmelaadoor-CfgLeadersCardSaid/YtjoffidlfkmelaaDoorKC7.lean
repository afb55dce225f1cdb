/-
  The successors as an iterator whose rounds may turn memory, but for the two boxes that it reads.
-/
import Derived.Test.YtjoffidlfkmelaaDoorKC2
import Derived.Test.YtjoffidlfkmelaaDoorRangeC
import Derived.Test.YtjoffidlfkmelaaDoorKOwn
namespace Go.Proofs.YtjoffidlfkmelaaDoor
open Go Go.RowKit Go.Shelf
attribute [local go_sem] Oper.semAt_some

set_option maxRecDepth 100000 in
set_option maxHeartbeats 4000000 in
theorem nextSeqK (C : List I8) (hok : CfOk C) (n : Nat) (hn : C.length = n) (k : Nat) (hk : k < n) (A : Option Addr) (c b1 b2 : Nat) (w : World) (hr : RdE 8 EI w A c C)
    (hb1 : w.cell? ⟨b1, 0, none⟩ = some (.slice A n c)) (hb2 : w.cell? ⟨b2, 0, none⟩ = some (.int .i64 (k : Int)))
    (Kp : World → World → Prop) (hKp : ∀ X Y, Kp X Y → ∀ q, q = b1 ∨ q = b2 → ∀ v, X.cell? ⟨q, 0, none⟩ = some v → Y.cell? ⟨q, 0, none⟩ = some v) :
    ∀ m, 3 ≤ m → SeqC Fence.wide m Tryd.prog 45 #[.pointer (some ⟨b1, 0, none⟩), .pointer (some ⟨b2, 0, none⟩)] encN Kp (sc C k) w := fun mm hmm l J Jx W hW hJ hJx hY h0 => by
  have hkl : k < C.length := by omega
  have hl1 : b1 < w.heap.size := World.block_lt_of_cell? w _ hb1
  have hl2 : b2 < w.heap.size := World.block_lt_of_cell? w _ hb2
  have hbW1 := (hW.cell (p := ⟨b1, 0, none⟩) hl1).trans hb1
  have hbW2 := (hW.cell (p := ⟨b2, 0, none⟩) hl2).trans hb2
  have hrW := hr.below stabI hW
  have hle := hr.le
  have hmx := hr.max
  rw [hn] at hle
  unfold maxLen at hmx
  obtain ⟨q, off, hA, hq, i0, i1, i2, i3, i4, i5, i6, i7⟩ := hrW.one hkl
  subst hA
  have htg := hok.tgt C[k] (List.getElem_mem hkl)
  have h64 := hok.len
  obtain ⟨ii, hii⟩ : ∃ x, C[k] = x := ⟨_, rfl⟩
  have hsc : sc C k = scI n k ii := by rw [scAt hkl, hii, hn]
  rw [hii] at i0 i1 i2 i3 i4 i5 i6 i7 htg
  rw [hsc] at hY ⊢
  obtain ⟨op, ra, rb, rc, obj, m, fn, ord⟩ := ii
  simp only at i0 i1 i2 i3 i4 i5 i6 i7
  have hk0 : (0 : Int) ≤ k := by omega
  have hk1 : (k : Int) < n := by omega
  have hbX := belowAlloc W (.cells #[.int .i64 op, .int .i64 ra, .int .i64 rb, .int .i64 rc, .int .i64 obj, .int .i64 m, .int .i64 fn, .int .i64 ord] 46)
  have hbi := Blk.new W 46 #[.int .i64 op, .int .i64 ra, .int .i64 rb, .int .i64 rc, .int .i64 obj, .int .i64 m, .int .i64 fn, .int .i64 ord]
  obtain ⟨j0, _, _, _, _, j5, _, _⟩ := boxFactsW hbi
  have hJX := hJ [] W _ none h0 (grownAlloc9 W (.cells #[.int .i64 op, .int .i64 ra, .int .i64 rb, .int .i64 rc, .int .i64 obj, .int .i64 m, .int .i64 fn, .int .i64 ord] 46)) (fun _ e => by cases e)
  have c1X := (hbX.cell (p := ⟨b1, 0, none⟩) (Nat.lt_of_lt_of_le hl1 hW.size)).trans hbW1
  have c2X := (hbX.cell (p := ⟨b2, 0, none⟩) (Nat.lt_of_lt_of_le hl2 hW.size)).trans hbW2
  have HY := Lib.hid hY
  clear hbX hbi hrW hr hY hJ
  unfold I8.jmp at htg
  simp only at htg
  obtain ⟨k1, hk1e⟩ : ∃ k1, k + 1 = k1 := ⟨_, rfl⟩
  have hwk : IntKind.i64.wrap ((k : Int) + 1) = (k1 : Int) := by rw [IntKind.wrap_i64]; omega
  refine callsIn_of_wp Tryd.func45 rfl trivial ?_ rfl
  simp only [Tryd.ntmps45, List.size_toArray, List.length_cons, List.length_nil, Nat.reduceAdd, Nat.reduceSub, Array.replicate_succ, Array.replicate_zero, List.push_toArray, List.append_toArray, List.nil_append, List.cons_append]
  by_cases h4 : op = 4
  · subst h4
    have ht := htg (by simp)
    have hm : ((m.toNat : Nat) : Int) = m := by omega
    have hL : scI n k ⟨4, ra, rb, rc, obj, m, fn, ord⟩ = [] ++ m.toNat :: [] := rfl
    rw [hL] at HY ⊢
    obtain ⟨fn1, tmps, assign, body, hy, hR⟩ := HY.out [] _ [] _ rfl hJX
    simp only [encN, hm] at hy
    clear htg HY
    gi_wp2_with fail
    refine ⟨fun _ => by omega, hR.mono ?_⟩
    rintro e W3 (⟨rfl, hJ3, hk3⟩ | ⟨rfl, hJx3⟩)
    · gi_wp2
      go_end0
      exact ⟨⟨_, rfl⟩, .inl hJ3⟩
    · gi_wp2
      go_end0
      exact ⟨⟨_, rfl⟩, .inr ⟨_, hJx3⟩⟩
  have z4 : (op == 4) = false := by simpa using h4
  by_cases h5 : op = 5
  · subst h5
    have ht := htg (by simp)
    have hm : ((m.toNat : Nat) : Int) = m := by omega
    have hL : scI n k ⟨5, ra, rb, rc, obj, m, fn, ord⟩ = [] ++ m.toNat :: [k1] := by rw [← hk1e]; rfl
    rw [hL] at HY ⊢
    obtain ⟨fn1, tmps, assign, body, hy, hR⟩ := HY.out [] _ [k1] _ rfl hJX
    simp only [encN, hm] at hy
    have HK3 := Lib.hid (fun W3 (h : Kp (W.alloc (.cells #[.int .i64 5, .int .i64 ra, .int .i64 rb, .int .i64 rc, .int .i64 obj, .int .i64 m, .int .i64 fn, .int .i64 ord] 46)) W3) => (⟨hKp _ _ h b1 (.inl rfl) _ c1X, hKp _ _ h b2 (.inr rfl) _ c2X⟩ : W3.cell? ⟨b1, 0, none⟩ = some (.slice (some ⟨q, off, none⟩) n c) ∧ W3.cell? ⟨b2, 0, none⟩ = some (.int .i64 (k : Int))))
    clear htg
    gi_wp2_with fail
    refine ⟨fun _ => by omega, hR.mono ?_⟩
    rintro e W3 (⟨rfl, hJ3, hk3⟩ | ⟨rfl, hJx3⟩)
    · obtain ⟨d1, d2⟩ := HK3.out W3 hk3
      obtain ⟨fn2, tmps2, assign2, body2, hy2, hR2⟩ := HY.out [m.toNat] k1 [] W3 rfl hJ3
      simp only [encN] at hy2
      clear HY hy hR
      gi_wp2_with fail
      refine ⟨fun _ => by omega, hR2.mono ?_⟩
      rintro e W4 (⟨rfl, hJ4, hk4⟩ | ⟨rfl, hJx4⟩)
      · gi_wp2
        go_end0
        exact ⟨⟨_, rfl⟩, .inl hJ4⟩
      · gi_wp2
        go_end0
        exact ⟨⟨_, rfl⟩, .inr ⟨_, hJx4⟩⟩
    · gi_wp2
      go_end0
      exact ⟨⟨_, rfl⟩, .inr ⟨_, hJx3⟩⟩
  have z5 : (op == 5) = false := by simpa using h5
  by_cases h7 : op = 7
  · subst h7
    have hL : scI n k ⟨7, ra, rb, rc, obj, m, fn, ord⟩ = [] ++ n :: [] := rfl
    rw [hL] at HY ⊢
    obtain ⟨fn1, tmps, assign, body, hy, hR⟩ := HY.out [] _ [] _ rfl hJX
    simp only [encN] at hy
    clear htg HY
    gi_wp2_with fail
    refine ⟨fun _ => by omega, hR.mono ?_⟩
    rintro e W3 (⟨rfl, hJ3, hk3⟩ | ⟨rfl, hJx3⟩)
    · gi_wp2
      go_end0
      exact ⟨⟨_, rfl⟩, .inl hJ3⟩
    · gi_wp2
      go_end0
      exact ⟨⟨_, rfl⟩, .inr ⟨_, hJx3⟩⟩
  have z7 : (op == 7) = false := by simpa using h7
  have hL : scI n k ⟨op, ra, rb, rc, obj, m, fn, ord⟩ = [] ++ k1 :: [] := by unfold scI; rw [if_neg h4, if_neg h5, if_neg h7, hk1e]; rfl
  rw [hL] at HY ⊢
  obtain ⟨fn1, tmps, assign, body, hy, hR⟩ := HY.out [] _ [] _ rfl hJX
  simp only [encN] at hy
  clear htg HY h4 h5 h7
  gi_wp2_with fail
  refine ⟨fun _ => by omega, hR.mono ?_⟩
  rintro e W3 (⟨rfl, hJ3, hk3⟩ | ⟨rfl, hJx3⟩)
  · gi_wp2
    go_end0
    exact ⟨⟨_, rfl⟩, .inl hJ3⟩
  · gi_wp2
    go_end0
    exact ⟨⟨_, rfl⟩, .inr ⟨_, hJx3⟩⟩
/-- The rounds leave the two boxes. -/
def Keep2 (b1 b2 : Nat) (X Y : World) : Prop := X.heap.size ≤ Y.heap.size ∧ ∀ q, q = b1 ∨ q = b2 → ∀ o, X.heap[q]? = some o → o.isCells = true → Y.heap[q]? = some o
theorem Keep2.trans {b1 b2 : Nat} {X Y Z : World} (h : Keep2 b1 b2 X Y) (k : Keep2 b1 b2 Y Z) : Keep2 b1 b2 X Z := ⟨Nat.le_trans h.1 k.1, fun q hq o ho hc => k.2 q hq o (h.2 q hq o ho hc) hc⟩
theorem Keep2.refl (b1 b2 : Nat) (X : World) : Keep2 b1 b2 X X := ⟨Nat.le_refl _, fun _ _ _ h _ => h⟩
theorem Keep2.put (b1 b2 : Nat) (W : World) (l : Nat) (o o' : Obj) (h : W.heap[l]? = some o) (hc : o.isCells = false) : Keep2 b1 b2 W (W.putObj l o') := ⟨by simp, fun q _ u hu huc => by
  rw [World.putObj_heap_other (fun e => ?_)]
  · exact hu
  · subst e
    rw [h] at hu
    injection hu with hu
    subst hu
    rw [hc] at huc; cases huc⟩
theorem Keep2.cell {b1 b2 : Nat} {X Y : World} (h : Keep2 b1 b2 X Y) : ∀ q, q = b1 ∨ q = b2 → ∀ v, X.cell? ⟨q, 0, none⟩ = some v → Y.cell? ⟨q, 0, none⟩ = some v := fun q hq v hv => by
  obtain ⟨o, h1, h2⟩ := cellHeap hv
  rw [World.cell?_of_block ((h.2 q hq o h1 h2).trans h1.symm), hv]
/-- What next gives: an iterator that reads two boxes of its own. -/
theorem iNextK (C : List I8) (hok : CfOk C) (n : Nat) (hn : C.length = n) (k : Nat) (hk : k < n) (A : Option Addr) (c : Nat) (w : World) (hr : RdE 8 EI w A c C) :
    Calls Tryd.prog 26 #[.slice A n c, .int .i64 (k : Int)] w fun e Y => e = .returned (.func (.func 45) #[] #[.pointer (some ⟨w.heap.size, 0, none⟩), .pointer (some ⟨w.heap.size + 1, 0, none⟩)]) ∧
      (∀ m, 3 ≤ m → SeqC Fence.wide m Tryd.prog 45 #[.pointer (some ⟨w.heap.size, 0, none⟩), .pointer (some ⟨w.heap.size + 1, 0, none⟩)] encN (Keep2 w.heap.size (w.heap.size + 1)) (sc C k) Y) ∧
      Y = (w.alloc (.cells #[.slice A n c] 47)).alloc (.cells #[.int .i64 (k : Int)] 3) := by
  have HIT := Lib.hid (nextSeqK C hok n hn k hk A c w.heap.size (w.heap.size + 1) ((w.alloc (.cells #[.slice A n c] 47)).alloc (.cells #[.int .i64 (k : Int)] 3)) (hr.below stabI ((belowAlloc w _).alloc (by simp) _))
    (((Blk.new w _ _).alloc _).cell 0) ((Blk.new1 w _ _ _).cell 0) (Keep2 w.heap.size (w.heap.size + 1)) (fun _ _ h => h.cell))
  clear hr
  go_enter Tryd.func26, Tryd.ntmps26
  go_wp2
  go_ret
  exact ⟨rfl, HIT.out, rfl⟩
end Go.Proofs.YtjoffidlfkmelaaDoor

namespace Go.Proofs.YtjoffidlfkmelaaDoor
open Go Go.RowKit

/-- The mark of a range over a function. -/
def markR (D : Nat) : Deferred := { target := .collected D, args := #[] }
/-- The blocks of the marks: each holds no call. -/
def OpenR (Ds : List Nat) (W : World) : Prop := ∀ D ∈ Ds, W.heap[D]? = some (.deferred (some []))
theorem OpenR.keep {Ds : List Nat} {W W' : World} (h : OpenR Ds W) (hk : ∀ D ∈ Ds, W'.heap[D]? = W.heap[D]?) : OpenR Ds W' := fun D hD => (hk D hD).trans (h D hD)
theorem OpenR.lt {Ds : List Nat} {W : World} (h : OpenR Ds W) {D : Nat} (hD : D ∈ Ds) : D < W.heap.size := (Array.getElem?_eq_some_iff.1 (h D hD)).1
theorem OpenR.chg {Ds : List Nat} {W W' : World} {F : Nat → Prop} (h : OpenR Ds W) (hc : Chg W W' F) (hF : ∀ D ∈ Ds, F D) : OpenR Ds W' := h.keep fun D hD => hc.block D (h.lt hD) (hF D hD)
/-- A function that leaves with marks alone: each block is shut, then it returns. -/
theorem leaveR {F : Fence} {n : Nat} {P : Program} {fn : Func} {tmps : Array Value} {R : Ending → World → Prop} {K : World → Prop} {B : Nat} (hK : ∀ (W : World) (D : Nat), B ≤ D → W.heap[D]? = some (.deferred (some [])) → K W → K (W.putObj D (.deferred none)))
    (hfin : ∀ W, K W → LeavesIn F n P fn tmps R [] .returning W) : ∀ (Ds : List Nat) (W : World), Ds.Nodup → (∀ D ∈ Ds, B ≤ D) → OpenR Ds W → K W → LeavesInM F n P fn tmps R (Ds.map markR) .returning W
  | [], W, _, _, _, h => hfin W h
  | D :: Ds, W, hn, hB, ho, h => by
    rw [List.nodup_cons] at hn
    have hd := ho D (by simp)
    refine ⟨by simp, .inl ⟨D, W.putObj D (.deferred none), rfl, run_takeDeferred hd, ?_⟩⟩
    refine leaveR hK hfin Ds _ hn.2 (fun D' h' => hB D' (by simp [h'])) (fun D' h' => ?_) (hK W D (hB D (by simp)) hd h)
    have hne : D' ≠ D := fun e => hn.1 (e ▸ h')
    exact (World.putObj_heap_other hne).trans (ho D' (by simp [h']))
theorem belowPutR {w W : World} {D : Nat} {o : Obj} (h : Below w.heap.size w W) (hD : w.heap.size ≤ D) : Below w.heap.size w (W.putObj D o) :=
  ⟨h.os, h.tape, h.output, by simpa using h.size, fun k hk => (World.putObj_heap_other (by omega)).trans (h.block k hk)⟩
end Go.Proofs.YtjoffidlfkmelaaDoor
