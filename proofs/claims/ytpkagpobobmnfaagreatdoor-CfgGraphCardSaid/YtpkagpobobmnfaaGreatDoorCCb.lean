/-
  The successors as an iterator: what it yields, whatever the rounds do that leave the cells that lay before; function values that give iterators.
-/
import Derived.Test.YtpkagpobobmnfaaGreatDoorCCa
import Derived.Shelf.Abstract
import Derived.Shelf.RegionOpen
namespace Go.Proofs.YtpkagpobobmnfaaGreatDoor
open Go Go.RowKit Go.Shelf
attribute [local go_sem] Oper.semAt_some

theorem grownAlloc9 (W : World) (o : Obj) : W.grownBy (W.alloc o) none := by
  have hb := belowAlloc W o
  exact ⟨hb.os, hb.tape, hb.output, hb.size, fun k hk _ => hb.block k hk⟩
/-- What lies in cells below B lies there still. -/
structure KeepC (B : Nat) (W W' : World) : Prop where
  sz : W.heap.size ≤ W'.heap.size
  at_ : ∀ q o, q < B → W.heap[q]? = some o → o.isCells = true → W'.heap[q]? = some o
theorem KeepC.refl (B : Nat) (W : World) : KeepC B W W := ⟨Nat.le_refl _, fun _ _ _ h _ => h⟩
theorem KeepC.trans {B : Nat} {X Y Z : World} (h : KeepC B X Y) (k : KeepC B Y Z) : KeepC B X Z := ⟨Nat.le_trans h.sz k.sz, fun q o hq ho hc => k.at_ q o hq (h.at_ q o hq ho hc) hc⟩
theorem KeepC.mono {B B' : Nat} {X Y : World} (h : KeepC B X Y) (hB : B' ≤ B) : KeepC B' X Y := ⟨h.sz, fun q o hq => h.at_ q o (by omega)⟩
theorem KeepC.put (B : Nat) (W : World) (l : Nat) (o o' : Obj) (h : W.heap[l]? = some o) (hc : o.isCells = false) : KeepC B W (W.putObj l o') := ⟨by simp, fun q u _ hu huc => by
  rw [World.putObj_heap_other (fun e => ?_)]
  · exact hu
  · subst e
    rw [h] at hu
    injection hu with hu
    subst hu
    rw [hc] at huc; cases huc⟩
theorem KeepC.below {B : Nat} {W W' : World} (h : Below W.heap.size W W') : KeepC B W W' := ⟨h.size, fun q _ _ ho _ => (h.block q (Array.getElem?_eq_some_iff.1 ho).1).trans ho⟩
theorem KeepC.chg {B g : Nat} {W W' : World} (h : Chg W W' (fun q => q ≠ g)) (hg : ∀ o, W.heap[g]? = some o → o.isCells = false) : KeepC B W W' := ⟨h.size, fun q o _ ho hc => by
  have hne : q ≠ g := fun e => by
    subst e
    rw [hg o ho] at hc; cases hc
  exact (h.block q (Array.getElem?_eq_some_iff.1 ho).1 hne).trans ho⟩
theorem cellHeap {W : World} {a : Addr} {v : Value} (h : W.cell? a = some v) : ∃ o, W.heap[a.block]? = some o ∧ o.isCells = true := by
  unfold World.cell? at h
  cases e : W.heap[a.block]? with
  | none => rw [e] at h; cases h
  | some o =>
    refine ⟨o, rfl, ?_⟩
    rw [e] at h
    cases o <;> first | rfl | cases h
theorem KeepC.cell {B : Nat} {W W' : World} (h : KeepC B W W') {a : Addr} {v : Value} (ha : a.block < B) (hc : W.cell? a = some v) : W'.cell? a = some v := by
  obtain ⟨o, h1, h2⟩ := cellHeap hc
  rw [World.cell?_of_block ((h.at_ _ o ha h1 h2).trans h1.symm), hc]
theorem KeepC.rd {B : Nat} {W W' : World} (h : KeepC B W W') (hB : W.heap.size ≤ B) {A : Option Addr} {c : Nat} {C : List I8} (hr : RdE 8 EI W A c C) : RdE 8 EI W' A c C :=
  ⟨hr.le, hr.max, fun hn => by
    obtain ⟨b, off, e, hl, hc⟩ := hr.at_ hn
    refine ⟨b, off, e, Nat.lt_of_lt_of_le hl h.sz, fun j hj => ?_⟩
    obtain ⟨h0, h1, h2, h3, h4, h5, h6, h7⟩ := hc j hj
    have hb : b < B := by omega
    exact ⟨h.cell hb h0, h.cell hb h1, h.cell hb h2, h.cell hb h3, h.cell hb h4, h.cell hb h5, h.cell hb h6, h.cell hb h7⟩⟩
theorem KeepC.rdI {B : Nat} {W W' : World} (h : KeepC B W W') (hB : W.heap.size ≤ B) {A : Option Addr} {c : Nat} {l : List Int} (hr : Rd W A c l) : Rd W' A c l :=
  ⟨Rds.le hr, Rds.max hr, fun hn => by
    obtain ⟨ad, e, hl, hc⟩ := Rds.at_ hr hn
    exact ⟨ad, e, Nat.lt_of_lt_of_le hl h.sz, fun j v hj => h.cell (by rw [addBlock]; omega) (hc j v hj)⟩⟩
/-- A value read from memory as it lies in the cells of w0. -/
abbrev Lat (w0 X : World) : Prop := KeepC w0.heap.size w0 X
theorem Lat.below {w0 X Y : World} (h : Lat w0 X) (hb : Below X.heap.size X Y) : Lat w0 Y := KeepC.trans h (KeepC.below hb)
theorem Lat.step {w0 X Y : World} (h : Lat w0 X) (hb : KeepC X.heap.size X Y) : Lat w0 Y := KeepC.trans h (hb.mono h.sz)
def encN (x : Nat) : Array Value := #[.int .i64 (x : Int)]
/-- What ranging over the iterator gives: the numbers L, whatever the rounds do that leave the cells that lay before. -/
def ItOk (gf : FuncId) (lb : Array Value) (L : List Nat) (w : World) : Prop := (∀ args X, (callFunc gf args).run Tryz.prog X = .ok (.enter gf args) X) ∧ ∀ m, 3 ≤ m → SeqC Fence.wide m Tryz.prog gf lb encN (KeepC w.heap.size) L w
/-- A function value that gives for each number below n an iterator over g of it. -/
def StOk (sf : FuncId) (bd lb : Array Value) (n : Nat) (g : Nat → List Nat) (w0 : World) : Prop := (∀ args X, (callFunc sf args).run Tryz.prog X = .ok (.enter sf args) X) ∧
  ∀ X k, Lat w0 X → k < n → Calls Tryz.prog sf (bd.push (.int .i64 (k : Int)) ++ lb) X fun e Y => (∃ gf L, e = .returned (.func (.func gf) #[] L) ∧ ItOk gf L (g k) Y) ∧ Below X.heap.size X Y
/-- A function value that tells for each number up to n whether al lets it in. -/
def AlOk (sf : FuncId) (lb : Array Value) (n : Nat) (al : Nat → Bool) (w0 : World) : Prop := (∀ args X, (callFunc sf args).run Tryz.prog X = .ok (.enter sf args) X) ∧
  ∀ X k, Lat w0 X → k ≤ n → Calls Tryz.prog sf (#[.int .i64 (k : Int)] ++ lb) X fun e Y => e = .returned (.bool (al k)) ∧ Below X.heap.size X Y

theorem entNx1 : ∀ args w, (callFunc 60 args).run Tryz.prog w = .ok (.enter 60 args) w := enters_of Tryz.func60 (by kernel_rfl) rfl
theorem entNx : ∀ args w, (callFunc 28 args).run Tryz.prog w = .ok (.enter 28 args) w := enters_of Tryz.func28 (by kernel_rfl) rfl
set_option maxRecDepth 100000 in
set_option maxHeartbeats 4000000 in
theorem nextSeq (C : List I8) (hok : CfOk C) (n : Nat) (hn : C.length = n) (k : Nat) (hk : k < n) (A : Option Addr) (c b1 b2 : Nat) (w : World) (hr : RdE 8 EI w A c C)
    (hb1 : w.cell? ⟨b1, 0, none⟩ = some (.slice A n c)) (hb2 : w.cell? ⟨b2, 0, none⟩ = some (.int .i64 (k : Int))) :
    ItOk 60 #[.pointer (some ⟨b1, 0, none⟩), .pointer (some ⟨b2, 0, none⟩)] (sc C k) w := ⟨entNx1, fun mm hmm l J Jx W hW hJ hJx hY h0 => by
  have hkl : k < C.length := by omega
  have hl1 : b1 < w.heap.size := World.block_lt_of_cell? w _ hb1
  have hl2 : b2 < w.heap.size := World.block_lt_of_cell? w _ hb2
  have hbW1 := (hW.cell (p := ⟨b1, 0, none⟩) hl1).trans hb1
  have hbW2 := (hW.cell (p := ⟨b2, 0, none⟩) hl2).trans hb2
  have hrW := hr.below stabI hW
  have hle := hr.le
  have hmx := hr.max
  rw [hn] at hle
  unfold maxLen at hmx
  obtain ⟨q, off, hA, hq, i0, i1, i2, i3, i4, i5, i6, i7⟩ := hrW.one hkl
  subst hA
  have htg := hok.tgt C[k] (List.getElem_mem hkl)
  have h64 := hok.len
  obtain ⟨ii, hii⟩ : ∃ x, C[k] = x := ⟨_, rfl⟩
  have hsc : sc C k = scI n k ii := by rw [scAt hkl, hii, hn]
  rw [hii] at i0 i1 i2 i3 i4 i5 i6 i7 htg
  rw [hsc] at hY ⊢
  obtain ⟨op, ra, rb, rc, obj, m, fn, ord⟩ := ii
  simp only at i0 i1 i2 i3 i4 i5 i6 i7
  have hk0 : (0 : Int) ≤ k := by omega
  have hk1 : (k : Int) < n := by omega
  have hbX := belowAlloc W (.cells #[.int .i64 op, .int .i64 ra, .int .i64 rb, .int .i64 rc, .int .i64 obj, .int .i64 m, .int .i64 fn, .int .i64 ord] 55)
  have hbi := Blk.new W 55 #[.int .i64 op, .int .i64 ra, .int .i64 rb, .int .i64 rc, .int .i64 obj, .int .i64 m, .int .i64 fn, .int .i64 ord]
  obtain ⟨j0, _, _, _, _, j5, _, _⟩ := boxFactsW hbi
  have hJX := hJ [] W _ none h0 (grownAlloc9 W (.cells #[.int .i64 op, .int .i64 ra, .int .i64 rb, .int .i64 rc, .int .i64 obj, .int .i64 m, .int .i64 fn, .int .i64 ord] 55)) (fun _ e => by cases e)
  have c1X := (hbX.cell (p := ⟨b1, 0, none⟩) (Nat.lt_of_lt_of_le hl1 hW.size)).trans hbW1
  have c2X := (hbX.cell (p := ⟨b2, 0, none⟩) (Nat.lt_of_lt_of_le hl2 hW.size)).trans hbW2
  have HY := Lib.hid hY
  clear hbX hbi hrW hr hY hJ
  unfold I8.jmp at htg
  simp only at htg
  obtain ⟨k1, hk1e⟩ : ∃ k1, k + 1 = k1 := ⟨_, rfl⟩
  have hwk : IntKind.i64.wrap ((k : Int) + 1) = (k1 : Int) := by rw [IntKind.wrap_i64]; omega
  refine callsIn_of_wp Tryz.func60 rfl trivial ?_ rfl
  simp only [Tryz.ntmps60, List.size_toArray, List.length_cons, List.length_nil, Nat.reduceAdd, Nat.reduceSub, Array.replicate_succ, Array.replicate_zero, List.push_toArray, List.append_toArray, List.nil_append, List.cons_append]
  by_cases h4 : op = 4
  · subst h4
    have ht := htg (by simp)
    have hm : ((m.toNat : Nat) : Int) = m := by omega
    have hL : scI n k ⟨4, ra, rb, rc, obj, m, fn, ord⟩ = [] ++ m.toNat :: [] := rfl
    rw [hL] at HY ⊢
    obtain ⟨fn1, tmps, assign, body, hy, hR⟩ := HY.out [] _ [] _ rfl hJX
    simp only [encN, hm] at hy
    clear htg HY
    gi_wp2_with fail
    refine ⟨fun _ => by omega, hR.mono ?_⟩
    rintro e W3 (⟨rfl, hJ3, hk3⟩ | ⟨rfl, hJx3⟩)
    · gi_wp2
      go_end0
      exact ⟨⟨_, rfl⟩, .inl hJ3⟩
    · gi_wp2
      go_end0
      exact ⟨⟨_, rfl⟩, .inr ⟨_, hJx3⟩⟩
  have z4 : (op == 4) = false := by simpa using h4
  by_cases h5 : op = 5
  · subst h5
    have ht := htg (by simp)
    have hm : ((m.toNat : Nat) : Int) = m := by omega
    have hL : scI n k ⟨5, ra, rb, rc, obj, m, fn, ord⟩ = [] ++ m.toNat :: [k1] := by rw [← hk1e]; rfl
    rw [hL] at HY ⊢
    obtain ⟨fn1, tmps, assign, body, hy, hR⟩ := HY.out [] _ [k1] _ rfl hJX
    simp only [encN, hm] at hy
    have HK3 := Lib.hid (fun W3 (h : KeepC w.heap.size (W.alloc (.cells #[.int .i64 5, .int .i64 ra, .int .i64 rb, .int .i64 rc, .int .i64 obj, .int .i64 m, .int .i64 fn, .int .i64 ord] 55)) W3) => (⟨h.cell hl1 c1X, h.cell hl2 c2X⟩ : W3.cell? ⟨b1, 0, none⟩ = some (.slice (some ⟨q, off, none⟩) n c) ∧ W3.cell? ⟨b2, 0, none⟩ = some (.int .i64 (k : Int))))
    clear htg
    gi_wp2_with fail
    refine ⟨fun _ => by omega, hR.mono ?_⟩
    rintro e W3 (⟨rfl, hJ3, hk3⟩ | ⟨rfl, hJx3⟩)
    · obtain ⟨d1, d2⟩ := HK3.out W3 hk3
      obtain ⟨fn2, tmps2, assign2, body2, hy2, hR2⟩ := HY.out [m.toNat] k1 [] W3 rfl hJ3
      simp only [encN] at hy2
      clear HY hy hR
      gi_wp2_with fail
      refine ⟨fun _ => by omega, hR2.mono ?_⟩
      rintro e W4 (⟨rfl, hJ4, hk4⟩ | ⟨rfl, hJx4⟩)
      · gi_wp2
        go_end0
        exact ⟨⟨_, rfl⟩, .inl hJ4⟩
      · gi_wp2
        go_end0
        exact ⟨⟨_, rfl⟩, .inr ⟨_, hJx4⟩⟩
    · gi_wp2
      go_end0
      exact ⟨⟨_, rfl⟩, .inr ⟨_, hJx3⟩⟩
  have z5 : (op == 5) = false := by simpa using h5
  by_cases h7 : op = 7
  · subst h7
    have hL : scI n k ⟨7, ra, rb, rc, obj, m, fn, ord⟩ = [] ++ n :: [] := rfl
    rw [hL] at HY ⊢
    obtain ⟨fn1, tmps, assign, body, hy, hR⟩ := HY.out [] _ [] _ rfl hJX
    simp only [encN] at hy
    clear htg HY
    gi_wp2_with fail
    refine ⟨fun _ => by omega, hR.mono ?_⟩
    rintro e W3 (⟨rfl, hJ3, hk3⟩ | ⟨rfl, hJx3⟩)
    · gi_wp2
      go_end0
      exact ⟨⟨_, rfl⟩, .inl hJ3⟩
    · gi_wp2
      go_end0
      exact ⟨⟨_, rfl⟩, .inr ⟨_, hJx3⟩⟩
  have z7 : (op == 7) = false := by simpa using h7
  have hL : scI n k ⟨op, ra, rb, rc, obj, m, fn, ord⟩ = [] ++ k1 :: [] := by unfold scI; rw [if_neg h4, if_neg h5, if_neg h7, hk1e]; rfl
  rw [hL] at HY ⊢
  obtain ⟨fn1, tmps, assign, body, hy, hR⟩ := HY.out [] _ [] _ rfl hJX
  simp only [encN] at hy
  clear htg HY h4 h5 h7
  gi_wp2_with fail
  refine ⟨fun _ => by omega, hR.mono ?_⟩
  rintro e W3 (⟨rfl, hJ3, hk3⟩ | ⟨rfl, hJx3⟩)
  · gi_wp2
    go_end0
    exact ⟨⟨_, rfl⟩, .inl hJ3⟩
  · gi_wp2
    go_end0
    exact ⟨⟨_, rfl⟩, .inr ⟨_, hJx3⟩⟩⟩
theorem iNextV (C : List I8) (hok : CfOk C) (n : Nat) (hn : C.length = n) (k : Nat) (hk : k < n) (A : Option Addr) (c : Nat) (w : World) (hr : RdE 8 EI w A c C) :
    Calls Tryz.prog 28 #[.slice A n c, .int .i64 (k : Int)] w fun e Y => (∃ gf L, e = .returned (.func (.func gf) #[] L) ∧ ItOk gf L (sc C k) Y) ∧ Below w.heap.size w Y := by
  have HIT := Lib.hid (nextSeq C hok n hn k hk A c w.heap.size (w.heap.size + 1) ((w.alloc (.cells #[.slice A n c] 60)).alloc (.cells #[.int .i64 (k : Int)] 3)) (hr.below stabI ((belowAlloc w _).alloc (by simp) _))
    (((Blk.new w _ _).alloc _).cell 0) ((Blk.new1 w _ _ _).cell 0))
  clear hr
  go_enter Tryz.func28, Tryz.ntmps28
  go_wp2
  go_ret
  exact ⟨⟨_, _, rfl, HIT.out⟩, (belowAlloc w _).alloc (by simp) _⟩
/-- The method value of next gives iterators over the successors. -/
theorem nextSt (C : List I8) (hok : CfOk C) (n : Nat) (hn : C.length = n) (A : Option Addr) (c : Nat) (w : World) (hr : RdE 8 EI w A c C) : StOk 28 #[.slice A n c] #[] n (sc C) w :=
  ⟨entNx, fun X k hX hk => by
    have h := iNextV C hok n hn k hk A c X (hX.rd (Nat.le_refl _) hr)
    simpa using h⟩
end Go.Proofs.YtpkagpobobmnfaaGreatDoor

namespace Go.Proofs.YtpkagpobobmnfaaGreatDoor
open Go Go.RowKit Go.Shelf
attribute [local go_sem] Oper.semAt_some

set_option maxRecDepth 100000 in
set_option maxHeartbeats 4000000 in
theorem nextSeqK (C : List I8) (hok : CfOk C) (n : Nat) (hn : C.length = n) (k : Nat) (hk : k < n) (A : Option Addr) (c b1 b2 : Nat) (w : World) (hr : RdE 8 EI w A c C)
    (hb1 : w.cell? ⟨b1, 0, none⟩ = some (.slice A n c)) (hb2 : w.cell? ⟨b2, 0, none⟩ = some (.int .i64 (k : Int)))
    (Kp : World → World → Prop) (hKp : ∀ X Y, Kp X Y → ∀ q, q = b1 ∨ q = b2 → ∀ v, X.cell? ⟨q, 0, none⟩ = some v → Y.cell? ⟨q, 0, none⟩ = some v) :
    ∀ m, 3 ≤ m → SeqC Fence.wide m Tryz.prog 60 #[.pointer (some ⟨b1, 0, none⟩), .pointer (some ⟨b2, 0, none⟩)] encN Kp (sc C k) w := fun mm hmm l J Jx W hW hJ hJx hY h0 => by
  have hkl : k < C.length := by omega
  have hl1 : b1 < w.heap.size := World.block_lt_of_cell? w _ hb1
  have hl2 : b2 < w.heap.size := World.block_lt_of_cell? w _ hb2
  have hbW1 := (hW.cell (p := ⟨b1, 0, none⟩) hl1).trans hb1
  have hbW2 := (hW.cell (p := ⟨b2, 0, none⟩) hl2).trans hb2
  have hrW := hr.below stabI hW
  have hle := hr.le
  have hmx := hr.max
  rw [hn] at hle
  unfold maxLen at hmx
  obtain ⟨q, off, hA, hq, i0, i1, i2, i3, i4, i5, i6, i7⟩ := hrW.one hkl
  subst hA
  have htg := hok.tgt C[k] (List.getElem_mem hkl)
  have h64 := hok.len
  obtain ⟨ii, hii⟩ : ∃ x, C[k] = x := ⟨_, rfl⟩
  have hsc : sc C k = scI n k ii := by rw [scAt hkl, hii, hn]
  rw [hii] at i0 i1 i2 i3 i4 i5 i6 i7 htg
  rw [hsc] at hY ⊢
  obtain ⟨op, ra, rb, rc, obj, m, fn, ord⟩ := ii
  simp only at i0 i1 i2 i3 i4 i5 i6 i7
  have hk0 : (0 : Int) ≤ k := by omega
  have hk1 : (k : Int) < n := by omega
  have hbX := belowAlloc W (.cells #[.int .i64 op, .int .i64 ra, .int .i64 rb, .int .i64 rc, .int .i64 obj, .int .i64 m, .int .i64 fn, .int .i64 ord] 55)
  have hbi := Blk.new W 55 #[.int .i64 op, .int .i64 ra, .int .i64 rb, .int .i64 rc, .int .i64 obj, .int .i64 m, .int .i64 fn, .int .i64 ord]
  obtain ⟨j0, _, _, _, _, j5, _, _⟩ := boxFactsW hbi
  have hJX := hJ [] W _ none h0 (grownAlloc9 W (.cells #[.int .i64 op, .int .i64 ra, .int .i64 rb, .int .i64 rc, .int .i64 obj, .int .i64 m, .int .i64 fn, .int .i64 ord] 55)) (fun _ e => by cases e)
  have c1X := (hbX.cell (p := ⟨b1, 0, none⟩) (Nat.lt_of_lt_of_le hl1 hW.size)).trans hbW1
  have c2X := (hbX.cell (p := ⟨b2, 0, none⟩) (Nat.lt_of_lt_of_le hl2 hW.size)).trans hbW2
  have HY := Lib.hid hY
  clear hbX hbi hrW hr hY hJ
  unfold I8.jmp at htg
  simp only at htg
  obtain ⟨k1, hk1e⟩ : ∃ k1, k + 1 = k1 := ⟨_, rfl⟩
  have hwk : IntKind.i64.wrap ((k : Int) + 1) = (k1 : Int) := by rw [IntKind.wrap_i64]; omega
  refine callsIn_of_wp Tryz.func60 rfl trivial ?_ rfl
  simp only [Tryz.ntmps60, List.size_toArray, List.length_cons, List.length_nil, Nat.reduceAdd, Nat.reduceSub, Array.replicate_succ, Array.replicate_zero, List.push_toArray, List.append_toArray, List.nil_append, List.cons_append]
  by_cases h4 : op = 4
  · subst h4
    have ht := htg (by simp)
    have hm : ((m.toNat : Nat) : Int) = m := by omega
    have hL : scI n k ⟨4, ra, rb, rc, obj, m, fn, ord⟩ = [] ++ m.toNat :: [] := rfl
    rw [hL] at HY ⊢
    obtain ⟨fn1, tmps, assign, body, hy, hR⟩ := HY.out [] _ [] _ rfl hJX
    simp only [encN, hm] at hy
    clear htg HY
    gi_wp2_with fail
    refine ⟨fun _ => by omega, hR.mono ?_⟩
    rintro e W3 (⟨rfl, hJ3, hk3⟩ | ⟨rfl, hJx3⟩)
    · gi_wp2
      go_end0
      exact ⟨⟨_, rfl⟩, .inl hJ3⟩
    · gi_wp2
      go_end0
      exact ⟨⟨_, rfl⟩, .inr ⟨_, hJx3⟩⟩
  have z4 : (op == 4) = false := by simpa using h4
  by_cases h5 : op = 5
  · subst h5
    have ht := htg (by simp)
    have hm : ((m.toNat : Nat) : Int) = m := by omega
    have hL : scI n k ⟨5, ra, rb, rc, obj, m, fn, ord⟩ = [] ++ m.toNat :: [k1] := by rw [← hk1e]; rfl
    rw [hL] at HY ⊢
    obtain ⟨fn1, tmps, assign, body, hy, hR⟩ := HY.out [] _ [k1] _ rfl hJX
    simp only [encN, hm] at hy
    have HK3 := Lib.hid (fun W3 (h : Kp (W.alloc (.cells #[.int .i64 5, .int .i64 ra, .int .i64 rb, .int .i64 rc, .int .i64 obj, .int .i64 m, .int .i64 fn, .int .i64 ord] 55)) W3) => (⟨hKp _ _ h b1 (.inl rfl) _ c1X, hKp _ _ h b2 (.inr rfl) _ c2X⟩ : W3.cell? ⟨b1, 0, none⟩ = some (.slice (some ⟨q, off, none⟩) n c) ∧ W3.cell? ⟨b2, 0, none⟩ = some (.int .i64 (k : Int))))
    clear htg
    gi_wp2_with fail
    refine ⟨fun _ => by omega, hR.mono ?_⟩
    rintro e W3 (⟨rfl, hJ3, hk3⟩ | ⟨rfl, hJx3⟩)
    · obtain ⟨d1, d2⟩ := HK3.out W3 hk3
      obtain ⟨fn2, tmps2, assign2, body2, hy2, hR2⟩ := HY.out [m.toNat] k1 [] W3 rfl hJ3
      simp only [encN] at hy2
      clear HY hy hR
      gi_wp2_with fail
      refine ⟨fun _ => by omega, hR2.mono ?_⟩
      rintro e W4 (⟨rfl, hJ4, hk4⟩ | ⟨rfl, hJx4⟩)
      · gi_wp2
        go_end0
        exact ⟨⟨_, rfl⟩, .inl hJ4⟩
      · gi_wp2
        go_end0
        exact ⟨⟨_, rfl⟩, .inr ⟨_, hJx4⟩⟩
    · gi_wp2
      go_end0
      exact ⟨⟨_, rfl⟩, .inr ⟨_, hJx3⟩⟩
  have z5 : (op == 5) = false := by simpa using h5
  by_cases h7 : op = 7
  · subst h7
    have hL : scI n k ⟨7, ra, rb, rc, obj, m, fn, ord⟩ = [] ++ n :: [] := rfl
    rw [hL] at HY ⊢
    obtain ⟨fn1, tmps, assign, body, hy, hR⟩ := HY.out [] _ [] _ rfl hJX
    simp only [encN] at hy
    clear htg HY
    gi_wp2_with fail
    refine ⟨fun _ => by omega, hR.mono ?_⟩
    rintro e W3 (⟨rfl, hJ3, hk3⟩ | ⟨rfl, hJx3⟩)
    · gi_wp2
      go_end0
      exact ⟨⟨_, rfl⟩, .inl hJ3⟩
    · gi_wp2
      go_end0
      exact ⟨⟨_, rfl⟩, .inr ⟨_, hJx3⟩⟩
  have z7 : (op == 7) = false := by simpa using h7
  have hL : scI n k ⟨op, ra, rb, rc, obj, m, fn, ord⟩ = [] ++ k1 :: [] := by unfold scI; rw [if_neg h4, if_neg h5, if_neg h7, hk1e]; rfl
  rw [hL] at HY ⊢
  obtain ⟨fn1, tmps, assign, body, hy, hR⟩ := HY.out [] _ [] _ rfl hJX
  simp only [encN] at hy
  clear htg HY h4 h5 h7
  gi_wp2_with fail
  refine ⟨fun _ => by omega, hR.mono ?_⟩
  rintro e W3 (⟨rfl, hJ3, hk3⟩ | ⟨rfl, hJx3⟩)
  · gi_wp2
    go_end0
    exact ⟨⟨_, rfl⟩, .inl hJ3⟩
  · gi_wp2
    go_end0
    exact ⟨⟨_, rfl⟩, .inr ⟨_, hJx3⟩⟩
/-- The rounds leave the two boxes. -/
def Keep2 (b1 b2 : Nat) (X Y : World) : Prop := X.heap.size ≤ Y.heap.size ∧ ∀ q, q = b1 ∨ q = b2 → ∀ o, X.heap[q]? = some o → o.isCells = true → Y.heap[q]? = some o
theorem Keep2.trans {b1 b2 : Nat} {X Y Z : World} (h : Keep2 b1 b2 X Y) (k : Keep2 b1 b2 Y Z) : Keep2 b1 b2 X Z := ⟨Nat.le_trans h.1 k.1, fun q hq o ho hc => k.2 q hq o (h.2 q hq o ho hc) hc⟩
theorem Keep2.refl (b1 b2 : Nat) (X : World) : Keep2 b1 b2 X X := ⟨Nat.le_refl _, fun _ _ _ h _ => h⟩
theorem Keep2.put (b1 b2 : Nat) (W : World) (l : Nat) (o o' : Obj) (h : W.heap[l]? = some o) (hc : o.isCells = false) : Keep2 b1 b2 W (W.putObj l o') := ⟨by simp, fun q _ u hu huc => by
  rw [World.putObj_heap_other (fun e => ?_)]
  · exact hu
  · subst e
    rw [h] at hu
    injection hu with hu
    subst hu
    rw [hc] at huc; cases huc⟩
theorem Keep2.cell {b1 b2 : Nat} {X Y : World} (h : Keep2 b1 b2 X Y) : ∀ q, q = b1 ∨ q = b2 → ∀ v, X.cell? ⟨q, 0, none⟩ = some v → Y.cell? ⟨q, 0, none⟩ = some v := fun q hq v hv => by
  obtain ⟨o, h1, h2⟩ := cellHeap hv
  rw [World.cell?_of_block ((h.2 q hq o h1 h2).trans h1.symm), hv]
/-- What next gives: an iterator that reads two boxes of its own. -/
theorem iNextK (C : List I8) (hok : CfOk C) (n : Nat) (hn : C.length = n) (k : Nat) (hk : k < n) (A : Option Addr) (c : Nat) (w : World) (hr : RdE 8 EI w A c C) :
    Calls Tryz.prog 28 #[.slice A n c, .int .i64 (k : Int)] w fun e Y => e = .returned (.func (.func 60) #[] #[.pointer (some ⟨w.heap.size, 0, none⟩), .pointer (some ⟨w.heap.size + 1, 0, none⟩)]) ∧
      (∀ m, 3 ≤ m → SeqC Fence.wide m Tryz.prog 60 #[.pointer (some ⟨w.heap.size, 0, none⟩), .pointer (some ⟨w.heap.size + 1, 0, none⟩)] encN (Keep2 w.heap.size (w.heap.size + 1)) (sc C k) Y) ∧
      Y = (w.alloc (.cells #[.slice A n c] 60)).alloc (.cells #[.int .i64 (k : Int)] 3) := by
  have HIT := Lib.hid (nextSeqK C hok n hn k hk A c w.heap.size (w.heap.size + 1) ((w.alloc (.cells #[.slice A n c] 60)).alloc (.cells #[.int .i64 (k : Int)] 3)) (hr.below stabI ((belowAlloc w _).alloc (by simp) _))
    (((Blk.new w _ _).alloc _).cell 0) ((Blk.new1 w _ _ _).cell 0) (Keep2 w.heap.size (w.heap.size + 1)) (fun _ _ h => h.cell))
  clear hr
  go_enter Tryz.func28, Tryz.ntmps28
  go_wp2
  go_ret
  exact ⟨rfl, HIT.out, rfl⟩
end Go.Proofs.YtpkagpobobmnfaaGreatDoor

namespace Go.Proofs.YtpkagpobobmnfaaGreatDoor
open Go Go.RowKit Go.Shelf
attribute [local go_sem] Oper.semAt_some

theorem nodupLeN : ∀ {l m : List Nat}, l.Nodup → (∀ x ∈ l, x ∈ m) → l.length ≤ m.length
  | [], _, _, _ => Nat.zero_le _
  | a :: l, m, hn, h => by
    have ha := h a (by simp)
    have h1 := List.nodup_cons.1 hn
    have h2 : l.length ≤ (m.erase a).length := nodupLeN h1.2 fun x hx => by
      have hne : x ≠ a := fun e => by subst e; exact h1.1 hx
      exact (List.mem_erase_of_ne hne).2 (h x (by simp [hx]))
    rw [List.length_erase_of_mem ha] at h2
    have := List.length_pos_of_mem ha
    rw [List.length_cons]
    omega
theorem entVis : ∀ args w, (callFunc 101 args).run Tryz.prog w = .ok (.enter 101 args) w := enters_of Tryz.func101 (by kernel_rfl) rfl
theorem nodupLe9 {n : Nat} {l : List Nat} (h : l.Nodup) (hl : ∀ x ∈ l, x < n) : l.length ≤ n := by
  have := nodupLeN h fun x hx => List.mem_range.2 (hl x hx)
  rwa [List.length_range] at this
/-- What a search is about: the steps, what is let in. -/
structure SePar where
  sf : FuncId
  sbd : Array Value
  slb : Array Value
  af : FuncId
  alb : Array Value
  n : Nat
  g : Nat → List Nat
  al : Nat → Bool
  tp : Nat
structure SeOk (p : SePar) (w0 : World) : Prop where
  st : StOk p.sf p.sbd p.slb p.n p.g w0
  al : AlOk p.af p.alb p.tp p.al w0
  lt : ∀ x, p.al x = true → x < p.n
  le : ∀ x y, y ∈ p.g x → y ≤ p.tp
  nn : p.n ≤ 1000
  tt : p.tp ≤ 1000
/-- What lies in memory while visit works: the set (block gm) and the variables that the closure sees. -/
structure SeSt (p : SePar) (w0 : World) (wb ab sb vb gm : Nat) (D : List Nat) (W : World) : Prop where
  hw : Boxed W wb 71 (.map (some gm))
  ha : Boxed W ab 100 (.func (.func p.af) #[] p.alb)
  hs : Boxed W sb 65 (.func (.func p.sf) p.sbd p.slb)
  hv : Boxed W vb 136 (.func (.func 101) #[] #[.pointer (some ⟨wb, 0, none⟩), .pointer (some ⟨ab, 0, none⟩), .pointer (some ⟨sb, 0, none⟩), .pointer (some ⟨vb, 0, none⟩)])
  tab : MapSc W gm D
  nd : D.Nodup
  ok : ∀ x, x ∈ D → p.al x = true
  lat : Lat w0 W
theorem MapSc.notCells {W : World} {b : Nat} {D : List Nat} (h : MapSc W b D) : ∀ o, W.heap[b]? = some o → o.isCells = false := fun o ho => by
  obtain ⟨T, ⟨es, clock, hb, _⟩, _⟩ := h
  rw [hb] at ho
  injection ho with ho
  subst ho
  rfl
theorem boxNotMap {W : World} {q b : Nat} {T : TypeId} {v : Value} {D : List Nat} (hq : Boxed W q T v) (h : MapSc W b D) : q ≠ b := fun e => by
  have h3 : W.heap[q]? = some (Obj.cells #[v] T (0, 0)) := hq
  have := h.notCells _ (e ▸ h3)
  cases this
theorem SeSt.chg {p : SePar} {w0 : World} {wb ab sb vb gm : Nat} {D : List Nat} {W W' : World} (h : SeSt p w0 wb ab sb vb gm D W) {F : Nat → Prop} (hc : Chg W W' F) (h1 : F wb) (h2 : F ab) (h3 : F sb) (h4 : F vb) (h5 : F gm) (hk : KeepC w0.heap.size W W') : SeSt p w0 wb ab sb vb gm D W' :=
  ⟨(hc.block _ h.hw.lt h1).trans h.hw, (hc.block _ h.ha.lt h2).trans h.ha, (hc.block _ h.hs.lt h3).trans h.hs, (hc.block _ h.hv.lt h4).trans h.hv, h.tab.chg hc h5, h.nd, h.ok, KeepC.trans h.lat hk⟩
theorem SeSt.below {p : SePar} {w0 : World} {wb ab sb vb gm : Nat} {D : List Nat} {W W' : World} (h : SeSt p w0 wb ab sb vb gm D W) (hb : Below W.heap.size W W') : SeSt p w0 wb ab sb vb gm D W' :=
  h.chg (Chg.ofBelow hb fun _ => True) trivial trivial trivial trivial trivial (KeepC.below hb)
theorem SeSt.len {p : SePar} {w0 : World} {wb ab sb vb gm : Nat} {D : List Nat} {W : World} (h : SeSt p w0 wb ab sb vb gm D W) (hp : SeOk p w0) : D.length ≤ p.n := nodupLe9 h.nd fun x hx => hp.lt x (h.ok x hx)
/-- What visit leaves of the set. -/
structure ViTo (p : SePar) (at_ : Nat) (D D' : List Nat) : Prop where
  sub : ∀ x, x ∈ D → x ∈ D'
  got : ∀ x, x ∈ D' → x ∈ D ∨ Rc p.g p.al at_ x
  has : p.al at_ = true → at_ ∈ D'
  cl : ∀ x, x ∈ D' → x ∉ D → ∀ y, y ∈ p.g x → p.al y = true → y ∈ D'
theorem viSame {p : SePar} {at_ : Nat} {D : List Nat} (h : at_ ∈ D ∨ p.al at_ = false) : ViTo p at_ D D :=
  ⟨fun _ h => h, fun _ h => .inl h, fun ha => h.elim id fun h2 => by (rw [h2] at ha; cases ha), fun x h1 h2 => absurd h1 h2⟩
/-- What a round of visit's loop leaves of the set: ps have been visited. -/
structure ViIn (p : SePar) (at_ : Nat) (D ps D' : List Nat) : Prop where
  sub : ∀ x, x ∈ D → x ∈ D'
  me : at_ ∈ D'
  got : ∀ x, x ∈ D' → x ∈ D ∨ Rc p.g p.al at_ x
  all : ∀ y, y ∈ ps → p.al y = true → y ∈ D'
  cl : ∀ x, x ∈ D' → x ∉ D → x ≠ at_ → ∀ y, y ∈ p.g x → p.al y = true → y ∈ D'
theorem viStart {p : SePar} {at_ : Nat} {D : List Nat} (ha : p.al at_ = true) : ViIn p at_ D [] (D ++ [at_]) :=
  ⟨fun x h => List.mem_append.2 (.inl h), by simp, fun x h => by
    rcases List.mem_append.1 h with h | h
    · exact .inl h
    · rw [List.mem_singleton] at h
      exact .inr (by subst h; exact Rc.refl ha), (fun _ h => by cases h), fun x h h1 h2 => by
    rcases List.mem_append.1 h with h | h
    · exact absurd h h1
    · rw [List.mem_singleton] at h
      exact absurd h h2⟩
theorem viNext {p : SePar} {at_ x : Nat} {D ps D1 D2 : List Nat} (h : ViIn p at_ D ps D1) (ha : p.al at_ = true) (hx : x ∈ p.g at_) (hv : ViTo p x D1 D2) : ViIn p at_ D (ps ++ [x]) D2 :=
  ⟨fun y hy => hv.sub y (h.sub y hy), hv.sub _ h.me, fun y hy => (hv.got y hy).elim (h.got y) fun h2 => .inr (Rc.step ha hx h2), fun y hy hya => by
    rcases List.mem_append.1 hy with hy | hy
    · exact hv.sub _ (h.all y hy hya)
    · rw [List.mem_singleton] at hy
      subst hy
      exact hv.has hya, fun y hy h1 h2 z hz hza => by
    by_cases hy1 : y ∈ D1
    · exact hv.sub _ (h.cl y hy1 h1 h2 z hz hza)
    · exact hv.cl y hy hy1 z hz hza⟩
theorem viEnd {p : SePar} {at_ : Nat} {D D' : List Nat} (h : ViIn p at_ D (p.g at_) D') : ViTo p at_ D D' :=
  ⟨h.sub, h.got, fun _ => h.me, fun x hx h1 y hy hya => by
    by_cases e : x = at_
    · subst e; exact h.all y hy hya
    · exact h.cl x hx h1 e y hy hya⟩
/-- visit's contract, by the number of nodes that may still be visited. -/
def ViSaid (p : SePar) (w0 : World) (wb ab sb vb gm : Nat) (k : Nat) : Prop :=
  ∀ (x : Nat) (D : List Nat) (W : World), lft p.n p.al D = k → x ≤ p.tp → SeSt p w0 wb ab sb vb gm D W →
    Calls Tryz.prog 101 #[.int .i64 (x : Int), .pointer (some ⟨wb, 0, none⟩), .pointer (some ⟨ab, 0, none⟩), .pointer (some ⟨sb, 0, none⟩), .pointer (some ⟨vb, 0, none⟩)] W fun e W' =>
      e = .returned (.tuple #[]) ∧ Chg W W' (fun q => q ≠ gm) ∧ ∃ D', ViTo p x D D' ∧ SeSt p w0 wb ab sb vb gm D' W'
set_option maxRecDepth 100000 in
set_option maxHeartbeats 2000000 in
theorem viStep {p : SePar} {w0 : World} (hp : SeOk p w0) {wb ab sb vb gm : Nat} {k : Nat} (ih : ∀ j, j < k → ViSaid p w0 wb ab sb vb gm j) : ViSaid p w0 wb ab sb vb gm k := by
  intro x D W hk hx hst
  have HST := Lib.hid hst
  have kw := hst.hw.cell
  have ka := hst.ha.cell
  have ks := hst.hs.cell
  have kv := hst.hv.cell
  have hx6 : x ≤ 1000000 := by have := hp.tt; omega
  have hrun := hst.tab.look hx6
  by_cases hd : x ∈ D
  · simp only [hd, decide_true] at hrun
    have HFIN := Lib.hid (show Chg W W (fun q => q ≠ gm) ∧ ∃ D', ViTo p x D D' ∧ SeSt p w0 wb ab sb vb gm D' W from ⟨Chg.refl _ _, D, viSame (.inl hd), hst⟩)
    clear hst
    refine (callsIn_wide (n := 8)).1 ?_
    refine callsIn_of_wp_marks Tryz.func101 rfl trivial ?_ rfl
    simp only [Tryz.ntmps101, List.size_toArray, List.length_cons, List.length_nil, Nat.reduceAdd, Nat.reduceSub, Array.replicate_succ, Array.replicate_zero, List.push_toArray, List.append_toArray, List.nil_append, List.cons_append]
    gi_wp2
    refine ⟨fun _ h => (by cases h), ?_⟩
    gi_wp2
    exact ⟨_, results_none rfl _ _ _, rfl, HFIN.out⟩
  simp only [hd, decide_false] at hrun
  have HAL := Lib.hid (hp.al.2 W x hst.lat hx)
  have HAE := Lib.hid hp.al.1
  cases hal : p.al x with
  | false =>
    rw [hal] at HAL
    have HFIN := Lib.hid (fun Y (hY : Below W.heap.size W Y) => (⟨Chg.ofBelow hY _, D, viSame (.inr hal), hst.below hY⟩ : Chg W Y (fun q => q ≠ gm) ∧ ∃ D', ViTo p x D D' ∧ SeSt p w0 wb ab sb vb gm D' Y))
    have he := HAE.out
    clear hst
    refine (callsIn_wide (n := 8)).1 ?_
    refine callsIn_of_wp_marks Tryz.func101 rfl trivial ?_ rfl
    simp only [Tryz.ntmps101, List.size_toArray, List.length_cons, List.length_nil, Nat.reduceAdd, Nat.reduceSub, Array.replicate_succ, Array.replicate_zero, List.push_toArray, List.append_toArray, List.nil_append, List.cons_append]
    gi_wp2_with fail
    refine ⟨trivial, (callsIn_wide.2 HAL.out).mono ?_⟩
    rintro e Y ⟨rfl, hb⟩
    gi_wp2
    exact ⟨_, results_none rfl _ _ _, rfl, HFIN.out Y hb⟩
  | true =>
    rw [hal] at HAL
    have he := HAE.out
    clear hst
    refine (callsIn_wide (n := 8)).1 ?_
    refine callsIn_of_wp_marks Tryz.func101 rfl trivial ?_ rfl
    simp only [Tryz.ntmps101, List.size_toArray, List.length_cons, List.length_nil, Nat.reduceAdd, Nat.reduceSub, Array.replicate_succ, Array.replicate_zero, List.push_toArray, List.append_toArray, List.nil_append, List.cons_append]
    gi_wp2_with fail
    refine ⟨trivial, (callsIn_wide.2 HAL.out).mono ?_⟩
    rintro e Y ⟨rfl, hb⟩
    have hsY := HST.out.below hb
    have HSY := Lib.hid hsY
    obtain ⟨Z, hput, tabZ, hturn⟩ := hsY.tab.put (by have := hsY.len hp; have := hp.nn; unfold maxLen; omega) hd hx6
    have cZ : Chg Y Z (fun q => q ≠ gm) := Chg.ofGrown hturn.grown fun q hq e => hq (Option.some.inj e).symm
    have kwY := hsY.hw.cell
    have ksZ : Z.cell? ⟨sb, 0, none⟩ = _ := Boxed.cell (show Boxed Z sb 65 (.func (.func p.sf) p.sbd p.slb) from (cZ.block _ hsY.hs.lt (boxNotMap hsY.hs hsY.tab)).trans hsY.hs)
    have hsZ : SeSt p w0 wb ab sb vb gm (D ++ [x]) Z := ⟨(cZ.block _ hsY.hw.lt (boxNotMap hsY.hw hsY.tab)).trans hsY.hw, (cZ.block _ hsY.ha.lt (boxNotMap hsY.ha hsY.tab)).trans hsY.ha, (cZ.block _ hsY.hs.lt (boxNotMap hsY.hs hsY.tab)).trans hsY.hs, (cZ.block _ hsY.hv.lt (boxNotMap hsY.hv hsY.tab)).trans hsY.hv, tabZ, List.nodup_append.2 ⟨hsY.nd, by simp, fun a ha b hb e => hd (by rw [List.mem_singleton] at hb; rw [← hb, ← e]; exact ha)⟩, fun y hy => by
      rcases List.mem_append.1 hy with hy | hy
      · exact hsY.ok y hy
      · rw [List.mem_singleton] at hy
        exact hy ▸ hal, KeepC.trans hsY.lat (KeepC.chg cZ hsY.tab.notCells)⟩
    have HSZ := Lib.hid hsZ
    have hxn := hp.lt x hal
    have HSC := Lib.hid (hp.st.2 Z x hsZ.lat hxn)
    have hse := hp.st.1
    have HCZ := Lib.hid ((Chg.ofBelow hb fun q => q ≠ gm).trans cZ fun _ _ h => h)
    clear hsY hsZ tabZ
    gi_wp2_with fail
    refine ⟨trivial, (callsIn_wide.2 HSC.out).mono ?_⟩
    rintro e V ⟨⟨gf, L, rfl, hit⟩, hbV⟩
    have hge := hit.1
    have HIT := Lib.hid (hit.2 7 (by omega))
    have hsV := HSZ.out.below hbV
    have HSV := Lib.hid hsV
    have HBV := Lib.hid hbV
    clear hit hsV hbV
    gi_wp2
    have HCV := Lib.hid (HCZ.out.trans (Chg.ofBelow HBV.out fun q => q ≠ gm) fun _ _ h => h)
    have hlV := HSV.out.tab.lt
    have hlw := HSV.out.hw.lt
    have hla := HSV.out.ha.lt
    have hls := HSV.out.hs.lt
    have hlv := HSV.out.hv.lt
    have hlk : ∀ D', (∀ y, y ∈ D ++ [x] → y ∈ D') → lft p.n p.al D' < k := fun D' h => by
      rw [← hk]
      exact lftPut hxn hal hd (fun y hy => h y (List.mem_append.2 (.inl hy))) (h x (by simp))
    have HLK := Lib.hid hlk
    have HPL := Lib.hid hp.le
    clear hlk hput hturn hrun kwY ksZ kw ka ks kv HAL HSC HAE he
    refine rangeClos (F := Fence.wide) (n := 8) rfl (by omega) (gf := gf) (lb := L) rfl trivial hge (encs := encN) (Kp := KeepC V.heap.size) (L := p.g x) (w0 := V) HIT.out (fun h k => h.trans k) (fun W l o o' _ h hc _ => KeepC.put _ W l o o' h hc) (Below.refl _ _) (fun _ => rfl)
      (fun ps X => ∃ D', ViIn p x D ps D' ∧ SeSt p w0 wb ab sb vb gm D' X ∧ Chg W X (fun q => q ≠ gm)) (fun _ _ _ => False) ?hI (fun _ _ _ _ _ h => h.elim) ⟨D ++ [x], viStart hal, HSV.out, HCV.out⟩
      (fun _ y => { tmps := #[.int .i64 (x : Int), .pointer (some ⟨wb, 0, none⟩), .pointer (some ⟨ab, 0, none⟩), .pointer (some ⟨sb, 0, none⟩), .pointer (some ⟨vb, 0, none⟩), undef, .int .i64 (y : Int), .map (some gm), .int .i64 (x : Int), .bool false, .bool false, .func (.func p.af) #[] p.alb, .int .i64 (x : Int), .bool true, .bool false, .bool false, .map (some gm), .int .i64 (x : Int), .func (.func p.sf) p.sbd p.slb, .int .i64 (x : Int), .func (.func gf) #[] L, .int .i64 (y : Int), undef, undef, undef], defers := [] }) (fun _ W => W) (fun _ W => World.grownBy.refl W none) (fun _ W => KeepC.refl _ W) ?assign ?body ?done (fun _ _ _ _ _ h _ => h.elim)
    case assign =>
      intro l y X K hK
      unfold encN
      gi_wp2
      exact hK
    case hI =>
      rintro ps X X' row ⟨D', h1, h2, h3⟩ hgr hr
      have hc : Chg X X' (fun q => row ≠ some q) := Chg.ofGrown hgr fun _ h => h
      have hlo : ∀ q, q < V.heap.size → row ≠ some q := fun q hq e => by have := (hr q e).1; omega
      refine ⟨D', h1, h2.chg hc (hlo _ hlw) (hlo _ hla) (hlo _ hls) (hlo _ hlv) (hlo _ hlV) ⟨hc.size, fun q o _ ho hoc => ?_⟩, ?_⟩
      · refine (hc.block q (Array.getElem?_eq_some_iff.1 ho).1 fun e => ?_).trans ho
        obtain ⟨_, o2, ho2, hn⟩ := hr q e
        rw [ho] at ho2
        injection ho2 with ho2
        subst ho2
        rw [hoc] at hn; cases hn
      · exact ⟨hc.os.trans h3.os, hc.tape.trans h3.tape, hc.output.trans h3.output, Nat.le_trans h3.size hc.size, fun q hq hg => (hc.block q (Nat.lt_of_lt_of_le hq h3.size) (hlo q (by have := HCV.out.size; omega))).trans (h3.block q hq hg)⟩
    case body =>
      rintro l ps y rest X U hLL ⟨D', h1, h2, h3⟩ hwl hlX _
      have hyg : y ∈ p.g x := by rw [hLL]; simp
      have hyn := HPL.out x y hyg
      have HIH := Lib.hid (ih _ (HLK.out D' (fun z hz => by
        rcases List.mem_append.1 hz with hz | hz
        · exact h1.sub z hz
        · rw [List.mem_singleton] at hz
          exact hz ▸ h1.me)) y D' U rfl hyn h2)
      have hev := entVis
      have kv2 := h2.hv.cell
      have H1 := Lib.hid h1
      have H2 := Lib.hid h2
      have H3 := Lib.hid h3
      clear h1 h2 h3 hLL
      gi_wp2_with fail
      refine ⟨trivial, (CallsIn.inRound l (callsIn_wide.2 HIH.out)).mono ?_⟩
      rintro e Y2 ⟨rfl, hcY, D2, hv2, hs2⟩
      have HFIN := Lib.hid (show KeepsFrom V.heap.size U Y2 ∧ KeepC V.heap.size U Y2 ∧ ∃ D', ViIn p x D (ps ++ [y]) D' ∧ SeSt p w0 wb ab sb vb gm D' Y2 ∧ Chg W Y2 (fun q => q ≠ gm) from
        ⟨⟨hcY.size, fun q o hq ho _ => (hcY.block q (Array.getElem?_eq_some_iff.1 ho).1 (by omega)).trans ho⟩, KeepC.chg hcY H2.out.tab.notCells, D2, viNext H1.out hal hyg hv2, hs2, H3.out.trans hcY fun _ _ h => h⟩)
      clear hv2 hs2 hcY
      gi_wp2
      exact HFIN.out
    case done =>
      rintro R X hR ⟨D', h1, h2, h3⟩ hK2
      have HFIN := Lib.hid (show Chg W (X.putObj R (.deferred none)) (fun q => q ≠ gm) ∧ ∃ D', ViTo p x D D' ∧ SeSt p w0 wb ab sb vb gm D' (X.putObj R (.deferred none)) from by
        have hc : Chg X (X.putObj R (.deferred none)) (fun q => q ≠ R) := ⟨rfl, rfl, rfl, by simp, fun q _ hq => World.putObj_heap_other hq⟩
        have hWV := HCV.out.size
        refine ⟨h3.trans hc (fun i hi _ => show i ≠ R from by omega), D', viEnd h1, h2.chg hc (by omega) (by omega) (by omega) (by omega) (by omega) (KeepC.put _ X R _ _ hK2 rfl)⟩)
      clear h1 h2 h3
      gi_wp2
      refine ⟨by simp, .inl ⟨_, _, rfl, run_takeDeferred hK2, ?_⟩⟩
      exact ⟨_, results_none rfl _ _ _, rfl, HFIN.out⟩
theorem viAll {p : SePar} {w0 : World} (hp : SeOk p w0) {wb ab sb vb gm : Nat} (k : Nat) : ViSaid p w0 wb ab sb vb gm k :=
  Nat.strongRecOn k fun _ ih => viStep hp ih
/-- What a search has found when the starts ss have been visited. -/
structure SeTo (p : SePar) (ss D : List Nat) : Prop where
  got : ∀ x, x ∈ D → ∃ s, s ∈ ss ∧ Rc p.g p.al s x
  has : ∀ s, s ∈ ss → p.al s = true → s ∈ D
  cl : ∀ x, x ∈ D → ∀ y, y ∈ p.g x → p.al y = true → y ∈ D
theorem seStart (p : SePar) : SeTo p [] [] := ⟨(fun _ h => by cases h), (fun _ h => by cases h), (fun _ h => by cases h)⟩
theorem seNext {p : SePar} {ss D D' : List Nat} {s : Nat} (h : SeTo p ss D) (hv : ViTo p s D D') : SeTo p (ss ++ [s]) D' :=
  ⟨fun x hx => (hv.got x hx).elim (fun h1 => by
      obtain ⟨t, ht, hr⟩ := h.got x h1
      exact ⟨t, List.mem_append.2 (.inl ht), hr⟩) fun hr => ⟨s, by simp, hr⟩, fun t ht hta => by
    rcases List.mem_append.1 ht with ht | ht
    · exact hv.sub _ (h.has t ht hta)
    · rw [List.mem_singleton] at ht
      subst ht
      exact hv.has hta, fun x hx y hy hya => by
    by_cases h1 : x ∈ D
    · exact hv.sub _ (h.cl x h1 y hy hya)
    · exact hv.cl x hx h1 y hy hya⟩
theorem seEnd {p : SePar} {ss D : List Nat} (h : SeTo p ss D) {x : Nat} : x ∈ D ↔ ∃ s, s ∈ ss ∧ Rc p.g p.al s x :=
  ⟨h.got x, fun ⟨s, hs, hr⟩ => hr.fwd (P := fun x => x ∈ D) (h.has s hs hr.left) fun u v _ hp hv ha => h.cl u hp v hv ha⟩
set_option maxRecDepth 100000 in
set_option maxHeartbeats 2000000 in
theorem iSearch {p : SePar} (ss : List Nat) (m : Nat) (hm : ss.length = m) (hs : ∀ s, s ∈ ss → s ≤ p.tp) (A : Option Addr) (c : Nat) (w : World) (hp : SeOk p w) (ha : Rd w A c (ss.map Int.ofNat)) :
    Calls Tryz.prog 57 #[.slice A m c, .func (.func p.sf) p.sbd p.slb, .func (.func p.af) #[] p.alb] w fun e w' => ∃ gm D, e = .returned (.map (some gm)) ∧ MapSc w' gm D ∧ D.Nodup ∧ (∀ x, x ∈ D ↔ ∃ s, s ∈ ss ∧ Rc p.g p.al s x) ∧ w.heap.size ≤ gm ∧ Below w.heap.size w w' := by
  obtain ⟨V, hV⟩ : ∃ V, (((((w.alloc (.cells #[.func (.func p.sf) p.sbd p.slb] 65)).alloc (.cells #[.func (.func p.af) #[] p.alb] 100)).alloc (.map #[] 0)).alloc (.cells #[.map (some (w.heap.size + 1 + 1))] 71)).alloc (.cells #[.func (.func 101) #[] #[.pointer (some ⟨w.heap.size + 1 + 1 + 1, 0, none⟩), .pointer (some ⟨w.heap.size + 1, 0, none⟩), .pointer (some ⟨w.heap.size, 0, none⟩), .pointer (some ⟨w.heap.size + 1 + 1 + 1 + 1, 0, none⟩)]] 136)) = V := ⟨_, rfl⟩
  have hbV : Below w.heap.size w V := by
    rw [← hV]
    exact ((((belowAlloc w _).alloc (by simp) _).alloc (by simp; omega) _).alloc (by simp; omega) _).alloc (by simp; omega) _
  have hst : SeSt p w (w.heap.size + 1 + 1 + 1) (w.heap.size + 1) w.heap.size (w.heap.size + 1 + 1 + 1 + 1) (w.heap.size + 1 + 1) [] V := by
    have h1 : Boxed V w.heap.size 65 (.func (.func p.sf) p.sbd p.slb) := by
      rw [← hV]
      exact ((((Boxed.new w _ _).alloc _).alloc _).alloc _).alloc _
    have h2 : Boxed V (w.heap.size + 1) 100 (.func (.func p.af) #[] p.alb) := by
      rw [← hV]
      have h := Boxed.new (w.alloc (.cells #[.func (.func p.sf) p.sbd p.slb] 65)) 100 (.func (.func p.af) #[] p.alb)
      rw [World.size_alloc] at h
      exact ((h.alloc _).alloc _).alloc _
    have h3 : MapSc V (w.heap.size + 1 + 1) [] := by
      rw [← hV]
      have h := MapSc.made ((w.alloc (.cells #[.func (.func p.sf) p.sbd p.slb] 65)).alloc (.cells #[.func (.func p.af) #[] p.alb] 100))
      rw [World.size_alloc, World.size_alloc] at h
      exact (h.chg (Chg.ofBelow (belowAlloc _ _) fun _ => True) trivial).chg (Chg.ofBelow (belowAlloc _ _) fun _ => True) trivial
    have h4 : Boxed V (w.heap.size + 1 + 1 + 1) 71 (.map (some (w.heap.size + 1 + 1))) := by
      rw [← hV]
      have h := Boxed.new (((w.alloc (.cells #[.func (.func p.sf) p.sbd p.slb] 65)).alloc (.cells #[.func (.func p.af) #[] p.alb] 100)).alloc (.map #[] 0)) 71 (.map (some (w.heap.size + 1 + 1)))
      rw [World.size_alloc, World.size_alloc, World.size_alloc] at h
      exact h.alloc _
    have h5 : Boxed V (w.heap.size + 1 + 1 + 1 + 1) 136 (.func (.func 101) #[] #[.pointer (some ⟨w.heap.size + 1 + 1 + 1, 0, none⟩), .pointer (some ⟨w.heap.size + 1, 0, none⟩), .pointer (some ⟨w.heap.size, 0, none⟩), .pointer (some ⟨w.heap.size + 1 + 1 + 1 + 1, 0, none⟩)]) := by
      rw [← hV]
      have h := Boxed.new ((((w.alloc (.cells #[.func (.func p.sf) p.sbd p.slb] 65)).alloc (.cells #[.func (.func p.af) #[] p.alb] 100)).alloc (.map #[] 0)).alloc (.cells #[.map (some (w.heap.size + 1 + 1))] 71)) 136 (.func (.func 101) #[] #[.pointer (some ⟨w.heap.size + 1 + 1 + 1, 0, none⟩), .pointer (some ⟨w.heap.size + 1, 0, none⟩), .pointer (some ⟨w.heap.size, 0, none⟩), .pointer (some ⟨w.heap.size + 1 + 1 + 1 + 1, 0, none⟩)])
      rwa [World.size_alloc, World.size_alloc, World.size_alloc, World.size_alloc] at h
    exact ⟨h4, h2, h1, h5, h3, List.nodup_nil, (fun _ h => by cases h), KeepC.below hbV⟩
  have hle := Rd.le ha
  have hmx := Rd.max ha
  rw [List.length_map, hm] at hle
  unfold maxLen at hmx
  have HA := Lib.hid (fun X (hX : Lat w X) => KeepC.rdI hX (Nat.le_refl _) ha)
  have HS := Lib.hid hs
  have HM := Lib.hid hm
  have HP := Lib.hid hp
  have HST := Lib.hid hst
  have HBV := Lib.hid hbV
  have hmm := @run_makeMap Tryz.prog
  have hev := entVis
  clear hst ha hs hm hp hbV
  go_enter Tryz.func57, Tryz.ntmps57
  go_wp2_with fail
  clear hmm hV
  go_loopw [15] (fun v wr => ∃ (i : Nat) (D : List Nat), i ≤ m ∧ v = .int .i64 i ∧ Hid (SeTo p (ss.take i) D) ∧ Hid (SeSt p w (w.heap.size + 1 + 1 + 1) (w.heap.size + 1) w.heap.size (w.heap.size + 1 + 1 + 1 + 1) (w.heap.size + 1 + 1) D wr) ∧ Hid (Below w.heap.size w wr)) (fun v _ => m - (intOf v).toNat)
  case atStart => exact ⟨0, [], Nat.zero_le _, rfl, Lib.hid (seStart p), HST, HBV⟩
  case round =>
    obtain ⟨i, D, hi, rfl, HT, HSS, HB⟩ := hrel
    by_cases hlt : i < m
    · have hil : i < ss.length := by rw [HM.out]; exact hlt
      have hil2 : i < (ss.map Int.ofNat).length := by rw [List.length_map]; exact hil
      obtain ⟨ad, hA, _, hc⟩ := (HA.out wr HSS.out.lat).one hil2
      rw [List.getElem_map] at hc
      subst hA
      obtain ⟨x, hx⟩ : ∃ x, ss[i] = x := ⟨_, rfl⟩
      rw [hx] at hc
      have hxm : x ∈ ss := hx ▸ List.getElem_mem hil
      have HTK := Lib.hid (show ss.take (i + 1) = ss.take i ++ [x] by rw [List.take_succ_eq_append_getElem hil, hx])
      have hc : wr.cell? (ad.add i) = some (.int .i64 (x : Int)) := hc
      have kv := HSS.out.hv.cell
      have HC := Lib.hid (viAll HP.out _ x D wr rfl (HS.out x hxm) HSS.out)
      have hi0 : (0 : Int) ≤ i := by omega
      have hi1 : (i : Int) < m := by omega
      have hgm := HSS.out.tab.lt
      clear hx hxm
      go_wp2_with fail
      refine HC.out.mono ?_
      rintro e Y ⟨rfl, hcY, D', hv, hsY⟩
      have HN := Lib.hid (show SeTo p (ss.take (i + 1)) D' by rw [HTK.out]; exact seNext HT.out hv)
      have HSY := Lib.hid hsY
      have HBY := Lib.hid (show Below w.heap.size w Y from ⟨hcY.os.trans HB.out.os, hcY.tape.trans HB.out.tape, hcY.output.trans HB.out.output, Nat.le_trans HB.out.size hcY.size, fun q hq => (hcY.block q (Nat.lt_of_lt_of_le hq HB.out.size) (by omega)).trans (HB.out.block q hq)⟩)
      clear hv hsY hcY
      go_wp2
      go_roundw
      case rel => exact ⟨i + 1, D', by omega, by go_num, HN, HSY, HBY⟩
      case measure => simp [intOf]; omega
    · have HE := Lib.hid (fun x => seEnd HT.out (x := x))
      have ht : ss.take i = ss := List.take_of_length_le (by rw [HM.out]; omega)
      rw [ht] at HE
      have kw := HSS.out.hw.cell
      go_wp2
      go_ret
      exact ⟨_, D, rfl, HSS.out.tab, HSS.out.nd, HE.out, by omega, HB.out⟩
end Go.Proofs.YtpkagpobobmnfaaGreatDoor
