/-
  The successors as an iterator: what it yields, whatever the rounds do that leave the cells that lay before; function values that give iterators.
-/
import Derived.Test.YtkanamdfjegcbaaDoorCC1
import Derived.Shelf.Abstract
import Derived.Shelf.RegionOpen
namespace Go.Proofs.YtkanamdfjegcbaaDoor
open Go Go.RowKit Go.Shelf
attribute [local go_sem] Oper.semAt_some

theorem grownAlloc9 (W : World) (o : Obj) : W.grownBy (W.alloc o) none := by
  have hb := belowAlloc W o
  exact ⟨hb.os, hb.tape, hb.output, hb.size, fun k hk _ => hb.block k hk⟩
/-- What lies in cells below B lies there still. -/
structure KeepC (B : Nat) (W W' : World) : Prop where
  sz : W.heap.size ≤ W'.heap.size
  at_ : ∀ q o, q < B → W.heap[q]? = some o → o.isCells = true → W'.heap[q]? = some o
theorem KeepC.refl (B : Nat) (W : World) : KeepC B W W := ⟨Nat.le_refl _, fun _ _ _ h _ => h⟩
theorem KeepC.trans {B : Nat} {X Y Z : World} (h : KeepC B X Y) (k : KeepC B Y Z) : KeepC B X Z := ⟨Nat.le_trans h.sz k.sz, fun q o hq ho hc => k.at_ q o hq (h.at_ q o hq ho hc) hc⟩
theorem KeepC.mono {B B' : Nat} {X Y : World} (h : KeepC B X Y) (hB : B' ≤ B) : KeepC B' X Y := ⟨h.sz, fun q o hq => h.at_ q o (by omega)⟩
theorem KeepC.put (B : Nat) (W : World) (l : Nat) (o o' : Obj) (h : W.heap[l]? = some o) (hc : o.isCells = false) : KeepC B W (W.putObj l o') := ⟨by simp, fun q u _ hu huc => by
  rw [World.putObj_heap_other (fun e => ?_)]
  · exact hu
  · subst e
    rw [h] at hu
    injection hu with hu
    subst hu
    rw [hc] at huc; cases huc⟩
theorem KeepC.below {B : Nat} {W W' : World} (h : Below W.heap.size W W') : KeepC B W W' := ⟨h.size, fun q _ _ ho _ => (h.block q (Array.getElem?_eq_some_iff.1 ho).1).trans ho⟩
theorem KeepC.chg {B g : Nat} {W W' : World} (h : Chg W W' (fun q => q ≠ g)) (hg : ∀ o, W.heap[g]? = some o → o.isCells = false) : KeepC B W W' := ⟨h.size, fun q o _ ho hc => by
  have hne : q ≠ g := fun e => by
    subst e
    rw [hg o ho] at hc; cases hc
  exact (h.block q (Array.getElem?_eq_some_iff.1 ho).1 hne).trans ho⟩
theorem cellHeap {W : World} {a : Addr} {v : Value} (h : W.cell? a = some v) : ∃ o, W.heap[a.block]? = some o ∧ o.isCells = true := by
  unfold World.cell? at h
  cases e : W.heap[a.block]? with
  | none => rw [e] at h; cases h
  | some o =>
    refine ⟨o, rfl, ?_⟩
    rw [e] at h
    cases o <;> first | rfl | cases h
theorem KeepC.cell {B : Nat} {W W' : World} (h : KeepC B W W') {a : Addr} {v : Value} (ha : a.block < B) (hc : W.cell? a = some v) : W'.cell? a = some v := by
  obtain ⟨o, h1, h2⟩ := cellHeap hc
  rw [World.cell?_of_block ((h.at_ _ o ha h1 h2).trans h1.symm), hc]
theorem KeepC.rd {B : Nat} {W W' : World} (h : KeepC B W W') (hB : W.heap.size ≤ B) {A : Option Addr} {c : Nat} {C : List I8} (hr : RdE 8 EI W A c C) : RdE 8 EI W' A c C :=
  ⟨hr.le, hr.max, fun hn => by
    obtain ⟨b, off, e, hl, hc⟩ := hr.at_ hn
    refine ⟨b, off, e, Nat.lt_of_lt_of_le hl h.sz, fun j hj => ?_⟩
    obtain ⟨h0, h1, h2, h3, h4, h5, h6, h7⟩ := hc j hj
    have hb : b < B := by omega
    exact ⟨h.cell hb h0, h.cell hb h1, h.cell hb h2, h.cell hb h3, h.cell hb h4, h.cell hb h5, h.cell hb h6, h.cell hb h7⟩⟩
def encN (x : Nat) : Array Value := #[.int .i64 (x : Int)]
/-- What ranging over the iterator gives: the numbers L, whatever the rounds do that leave the cells that lay before. -/
def ItOk (gf : FuncId) (lb : Array Value) (L : List Nat) (w : World) : Prop := (∀ args X, (callFunc gf args).run Tryd.prog X = .ok (.enter gf args) X) ∧ ∀ m, 3 ≤ m → SeqC Fence.wide m Tryd.prog gf lb encN (KeepC w.heap.size) L w
theorem entNx1 : ∀ args w, (callFunc 139 args).run Tryd.prog w = .ok (.enter 139 args) w := enters_of Tryd.func139 (by kernel_rfl) rfl
set_option maxRecDepth 100000 in
set_option maxHeartbeats 4000000 in
theorem nextSeq (C : List I8) (hok : CfOk C) (n : Nat) (hn : C.length = n) (k : Nat) (hk : k < n) (A : Option Addr) (c b1 b2 : Nat) (w : World) (hr : RdE 8 EI w A c C)
    (hb1 : w.cell? ⟨b1, 0, none⟩ = some (.slice A n c)) (hb2 : w.cell? ⟨b2, 0, none⟩ = some (.int .i64 (k : Int))) :
    ItOk 139 #[.pointer (some ⟨b1, 0, none⟩), .pointer (some ⟨b2, 0, none⟩)] (sc C k) w := ⟨entNx1, fun mm hmm l J Jx W hW hJ hJx hY h0 => by
  have hkl : k < C.length := by omega
  have hl1 : b1 < w.heap.size := World.block_lt_of_cell? w _ hb1
  have hl2 : b2 < w.heap.size := World.block_lt_of_cell? w _ hb2
  have hbW1 := (hW.cell (p := ⟨b1, 0, none⟩) hl1).trans hb1
  have hbW2 := (hW.cell (p := ⟨b2, 0, none⟩) hl2).trans hb2
  have hrW := hr.below stabI hW
  have hle := hr.le
  have hmx := hr.max
  rw [hn] at hle
  unfold maxLen at hmx
  obtain ⟨q, off, hA, hq, i0, i1, i2, i3, i4, i5, i6, i7⟩ := hrW.one hkl
  subst hA
  have htg := hok.tgt C[k] (List.getElem_mem hkl)
  have h64 := hok.len
  obtain ⟨ii, hii⟩ : ∃ x, C[k] = x := ⟨_, rfl⟩
  have hsc : sc C k = scI n k ii := by rw [scAt hkl, hii, hn]
  rw [hii] at i0 i1 i2 i3 i4 i5 i6 i7 htg
  rw [hsc] at hY ⊢
  obtain ⟨op, ra, rb, rc, obj, m, fn, ord⟩ := ii
  simp only at i0 i1 i2 i3 i4 i5 i6 i7
  have hk0 : (0 : Int) ≤ k := by omega
  have hk1 : (k : Int) < n := by omega
  have hbX := belowAlloc W (.cells #[.int .i64 op, .int .i64 ra, .int .i64 rb, .int .i64 rc, .int .i64 obj, .int .i64 m, .int .i64 fn, .int .i64 ord] 44)
  have hbi := Blk.new W 44 #[.int .i64 op, .int .i64 ra, .int .i64 rb, .int .i64 rc, .int .i64 obj, .int .i64 m, .int .i64 fn, .int .i64 ord]
  obtain ⟨j0, _, _, _, _, j5, _, _⟩ := boxFactsW hbi
  have hJX := hJ [] W _ none h0 (grownAlloc9 W (.cells #[.int .i64 op, .int .i64 ra, .int .i64 rb, .int .i64 rc, .int .i64 obj, .int .i64 m, .int .i64 fn, .int .i64 ord] 44)) (fun _ e => by cases e)
  have c1X := (hbX.cell (p := ⟨b1, 0, none⟩) (Nat.lt_of_lt_of_le hl1 hW.size)).trans hbW1
  have c2X := (hbX.cell (p := ⟨b2, 0, none⟩) (Nat.lt_of_lt_of_le hl2 hW.size)).trans hbW2
  have HY := Lib.hid hY
  clear hbX hbi hrW hr hY hJ
  unfold I8.jmp at htg
  simp only at htg
  obtain ⟨k1, hk1e⟩ : ∃ k1, k + 1 = k1 := ⟨_, rfl⟩
  have hwk : IntKind.i64.wrap ((k : Int) + 1) = (k1 : Int) := by rw [IntKind.wrap_i64]; omega
  refine callsIn_of_wp Tryd.func139 rfl trivial ?_ rfl
  simp only [Tryd.ntmps139, List.size_toArray, List.length_cons, List.length_nil, Nat.reduceAdd, Nat.reduceSub, Array.replicate_succ, Array.replicate_zero, List.push_toArray, List.append_toArray, List.nil_append, List.cons_append]
  by_cases h4 : op = 4
  · subst h4
    have ht := htg (by simp)
    have hm : ((m.toNat : Nat) : Int) = m := by omega
    have hL : scI n k ⟨4, ra, rb, rc, obj, m, fn, ord⟩ = [] ++ m.toNat :: [] := rfl
    rw [hL] at HY ⊢
    obtain ⟨fn1, tmps, assign, body, hy, hR⟩ := HY.out [] _ [] _ rfl hJX
    simp only [encN, hm] at hy
    clear htg HY
    gi_wp2_with fail
    refine ⟨fun _ => by omega, hR.mono ?_⟩
    rintro e W3 (⟨rfl, hJ3, hk3⟩ | ⟨rfl, hJx3⟩)
    · gi_wp2
      go_end0
      exact ⟨⟨_, rfl⟩, .inl hJ3⟩
    · gi_wp2
      go_end0
      exact ⟨⟨_, rfl⟩, .inr ⟨_, hJx3⟩⟩
  have z4 : (op == 4) = false := by simpa using h4
  by_cases h5 : op = 5
  · subst h5
    have ht := htg (by simp)
    have hm : ((m.toNat : Nat) : Int) = m := by omega
    have hL : scI n k ⟨5, ra, rb, rc, obj, m, fn, ord⟩ = [] ++ m.toNat :: [k1] := by rw [← hk1e]; rfl
    rw [hL] at HY ⊢
    obtain ⟨fn1, tmps, assign, body, hy, hR⟩ := HY.out [] _ [k1] _ rfl hJX
    simp only [encN, hm] at hy
    have HK3 := Lib.hid (fun W3 (h : KeepC w.heap.size (W.alloc (.cells #[.int .i64 5, .int .i64 ra, .int .i64 rb, .int .i64 rc, .int .i64 obj, .int .i64 m, .int .i64 fn, .int .i64 ord] 44)) W3) => (⟨h.cell hl1 c1X, h.cell hl2 c2X⟩ : W3.cell? ⟨b1, 0, none⟩ = some (.slice (some ⟨q, off, none⟩) n c) ∧ W3.cell? ⟨b2, 0, none⟩ = some (.int .i64 (k : Int))))
    clear htg
    gi_wp2_with fail
    refine ⟨fun _ => by omega, hR.mono ?_⟩
    rintro e W3 (⟨rfl, hJ3, hk3⟩ | ⟨rfl, hJx3⟩)
    · obtain ⟨d1, d2⟩ := HK3.out W3 hk3
      obtain ⟨fn2, tmps2, assign2, body2, hy2, hR2⟩ := HY.out [m.toNat] k1 [] W3 rfl hJ3
      simp only [encN] at hy2
      clear HY hy hR
      gi_wp2_with fail
      refine ⟨fun _ => by omega, hR2.mono ?_⟩
      rintro e W4 (⟨rfl, hJ4, hk4⟩ | ⟨rfl, hJx4⟩)
      · gi_wp2
        go_end0
        exact ⟨⟨_, rfl⟩, .inl hJ4⟩
      · gi_wp2
        go_end0
        exact ⟨⟨_, rfl⟩, .inr ⟨_, hJx4⟩⟩
    · gi_wp2
      go_end0
      exact ⟨⟨_, rfl⟩, .inr ⟨_, hJx3⟩⟩
  have z5 : (op == 5) = false := by simpa using h5
  by_cases h7 : op = 7
  · subst h7
    have hL : scI n k ⟨7, ra, rb, rc, obj, m, fn, ord⟩ = [] ++ n :: [] := rfl
    rw [hL] at HY ⊢
    obtain ⟨fn1, tmps, assign, body, hy, hR⟩ := HY.out [] _ [] _ rfl hJX
    simp only [encN] at hy
    clear htg HY
    gi_wp2_with fail
    refine ⟨fun _ => by omega, hR.mono ?_⟩
    rintro e W3 (⟨rfl, hJ3, hk3⟩ | ⟨rfl, hJx3⟩)
    · gi_wp2
      go_end0
      exact ⟨⟨_, rfl⟩, .inl hJ3⟩
    · gi_wp2
      go_end0
      exact ⟨⟨_, rfl⟩, .inr ⟨_, hJx3⟩⟩
  have z7 : (op == 7) = false := by simpa using h7
  have hL : scI n k ⟨op, ra, rb, rc, obj, m, fn, ord⟩ = [] ++ k1 :: [] := by unfold scI; rw [if_neg h4, if_neg h5, if_neg h7, hk1e]; rfl
  rw [hL] at HY ⊢
  obtain ⟨fn1, tmps, assign, body, hy, hR⟩ := HY.out [] _ [] _ rfl hJX
  simp only [encN] at hy
  clear htg HY h4 h5 h7
  gi_wp2_with fail
  refine ⟨fun _ => by omega, hR.mono ?_⟩
  rintro e W3 (⟨rfl, hJ3, hk3⟩ | ⟨rfl, hJx3⟩)
  · gi_wp2
    go_end0
    exact ⟨⟨_, rfl⟩, .inl hJ3⟩
  · gi_wp2
    go_end0
    exact ⟨⟨_, rfl⟩, .inr ⟨_, hJx3⟩⟩⟩
theorem iNextV (C : List I8) (hok : CfOk C) (n : Nat) (hn : C.length = n) (k : Nat) (hk : k < n) (A : Option Addr) (c : Nat) (w : World) (hr : RdE 8 EI w A c C) :
    Calls Tryd.prog 104 #[.slice A n c, .int .i64 (k : Int)] w fun e Y => (∃ gf L, e = .returned (.func (.func gf) #[] L) ∧ ItOk gf L (sc C k) Y) ∧ Below w.heap.size w Y := by
  have HIT := Lib.hid (nextSeq C hok n hn k hk A c w.heap.size (w.heap.size + 1) ((w.alloc (.cells #[.slice A n c] 153)).alloc (.cells #[.int .i64 (k : Int)] 3)) (hr.below stabI ((belowAlloc w _).alloc (by simp) _))
    (((Blk.new w _ _).alloc _).cell 0) ((Blk.new1 w _ _ _).cell 0))
  clear hr
  go_enter Tryd.func104, Tryd.ntmps104
  go_wp2
  go_ret
  exact ⟨⟨_, _, rfl, HIT.out⟩, (belowAlloc w _).alloc (by simp) _⟩
end Go.Proofs.YtkanamdfjegcbaaDoor
