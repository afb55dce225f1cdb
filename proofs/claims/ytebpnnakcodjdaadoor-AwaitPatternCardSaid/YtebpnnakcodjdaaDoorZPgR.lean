/-
  The iterator over the instructions of a program: each instruction in order, with the numbers of its function and of itself.
-/
import Derived.Test.YtebpnnakcodjdaaDoorZPgO
import Derived.Test.YtebpnnakcodjdaaDoorZRangeC
import Derived.Shelf.Abstract
import Derived.Shelf.RegionOpen
import Derived.OwnWalkIn
import Derived.TacticsInMore
import Derived.LoopNIn
import Derived.LoopIn
namespace Go.Proofs.YtebpnnakcodjdaaDoor
open Go Go.RowKit Go.Shelf
attribute [local go_sem] Oper.semAt_some

/-- The instructions of one function from number k on, then those of all functions from number f on. -/
def flI (f : Nat) : List I8 → Nat → List (Nat × Nat × I8)
  | [], _ => []
  | i :: t, k => (f, k, i) :: flI f t (k + 1)
def flF : List (ByteArray × List I8) → Nat → List (Nat × Nat × I8)
  | [], _ => []
  | g :: t, f => flI f g.2 0 ++ flF t (f + 1)
theorem flIcons {f k : Nat} {c : List I8} (hk : k < c.length) : flI f (c.drop k) k = (f, k, c[k]) :: flI f (c.drop (k + 1)) (k + 1) := by rw [List.drop_eq_getElem_cons hk, flI]
theorem flInil {f k : Nat} {c : List I8} (hk : c.length ≤ k) : flI f (c.drop k) k = [] := by rw [List.drop_eq_nil_of_le hk, flI]
theorem flFcons {f : Nat} {g : List (ByteArray × List I8)} (hf : f < g.length) : flF (g.drop f) f = flI f ((g[f]).2.drop 0) 0 ++ flF (g.drop (f + 1)) (f + 1) := by rw [List.drop_eq_getElem_cons hf, flF, List.drop_zero]
theorem flFnil {f : Nat} {g : List (ByteArray × List I8)} (hf : g.length ≤ f) : flF (g.drop f) f = [] := by rw [List.drop_eq_nil_of_le hf, flF]
/-- What the loop over the instructions hands on. -/
def encI (x : Nat × Nat × I8) : Array Value := #[.agg #[.int .i64 (x.1 : Int), .int .i64 (x.2.1 : Int)], x.2.2.val]
/-- The program lies as in w0, and its box too. -/
structure FixP (w0 : World) (b : Nat) (a : PgA) (W : World) : Prop where
  bel : Below w0.heap.size w0 W
  box : PBox W b a
def KeepP (w0 : World) (b : Nat) (a : PgA) (W W' : World) : Prop := FixP w0 b a W → FixP w0 b a W'
theorem FixP.below {w0 : World} {b : Nat} {a : PgA} {W W' : World} (h : FixP w0 b a W) (hb : Below W.heap.size W W') : FixP w0 b a W' := ⟨belowThen h.bel hb, h.box.below hb⟩
theorem keepP_b {w0 : World} {b : Nat} {a : PgA} {B : Nat} (hB : w0.heap.size ≤ B) (W : World) (l : Nat) (o o' : Obj) (hl : B ≤ l) (h : W.heap[l]? = some o) (hc : o.isCells = false) (_ : o.isWalk = false) : KeepP w0 b a W (W.putObj l o') := fun hF => by
  refine ⟨⟨hF.bel.os, hF.bel.tape, hF.bel.output, by simpa using hF.bel.size, fun k hk => (World.putObj_heap_other (by omega)).trans (hF.bel.block k hk)⟩, (World.putObj_heap_other fun e => ?_).trans hF.box⟩
  subst e
  have h2 : W.heap[b]? = _ := hF.box
  rw [h] at h2
  injection h2 with h2
  subst h2
  cases hc
theorem enters99 : ∀ args w, (callFunc 66 args).run Tryd.prog w = .ok (.enter 66 args) w := enters_of Tryd.func66 (by kernel_rfl) rfl
theorem grownAlloc (W : World) (o : Obj) : W.grownBy (W.alloc o) none := by
  have hb := belowAlloc W o
  exact ⟨hb.os, hb.tape, hb.output, hb.size, fun k hk _ => hb.block k hk⟩
set_option maxRecDepth 100000 in
set_option maxHeartbeats 2000000 in
theorem instC (n : Nat) (hn : 3 ≤ n) (a : PgA) (p : Prg) (w0 : World) (b : Nat) (hP : PgW w0 a p) (w : World) (hF : FixP w0 b a w) :
    SeqC Fence.wide n Tryd.prog 66 #[.pointer (some ⟨b, 0, none⟩)] encI (KeepP w0 b a) (flF p.funcs 0) w := fun l J Jx W hW hJ hJx hY h0 => by
  have HFW := Lib.hid (hF.below hW)
  obtain ⟨_, _, _, c3, _⟩ := HFW.out.box.facts
  have hm4 := hP.funcs.max
  have hle4 := hP.funcs.le
  unfold maxLen at hm4
  have HL4 := Lib.hid hP.l4
  rw [hP.l4] at hle4
  have HP := Lib.hid hP
  obtain ⟨n4, hn4⟩ : ∃ n, a.n4 = n := ⟨_, rfl⟩
  obtain ⟨A4, hA4⟩ : ∃ A, a.A4 = A := ⟨_, rfl⟩
  obtain ⟨c4', hc4⟩ : ∃ A, a.c4 = A := ⟨_, rfl⟩
  rw [hn4, hA4, hc4] at c3
  rw [hn4, hc4] at hle4
  rw [hc4] at hm4
  rw [hn4] at HL4
  have HA4 := Lib.hid hA4
  have HN4 := Lib.hid hn4
  have HC4 := Lib.hid hc4
  have HY := Lib.hid hY
  clear hP hn4 hA4 hc4 hY
  refine callsIn_of_wp Tryd.func66 rfl trivial ?_ rfl
  simp only [Tryd.ntmps66, List.size_toArray, List.length_cons, List.length_nil, Nat.reduceAdd, Nat.reduceSub, Array.replicate_succ, Array.replicate_zero, List.push_toArray, List.append_toArray, List.nil_append, List.cons_append]
  gi_wp2
  gi_loopw [9] (fun v wr => ∃ (f : Nat) (pre : List (Nat × Nat × I8)), f ≤ n4 ∧ v = .int .i64 f ∧ Hid (flF p.funcs 0 = pre ++ flF (p.funcs.drop f) f) ∧ J pre wr ∧ Hid (FixP w0 b a wr)) (fun v _ => n4 - (intOf v).toNat)
  case atStart => exact ⟨0, [], Nat.zero_le _, rfl, Lib.hid rfl, h0, HFW⟩
  case round =>
    obtain ⟨f, pre, hf, rfl, HB, hJs, HF⟩ := hrel
    by_cases hlt : f < n4
    · have hfl : f < p.funcs.length := by rw [HL4.out]; exact hlt
      obtain ⟨q, off, hA, hq, h1, v, h2, Ac, nc, cc, rfl, hnc, hrc⟩ := HP.out.funcs.one hfl
      have h1 := (HF.out.bel.cell (p := ⟨q, _, none⟩) hq).trans h1
      have h2 := (HF.out.bel.cell (p := ⟨q, _, none⟩) hq).trans h2
      rw [HA4.out] at hA
      subst hA
      obtain ⟨_, _, _, d3, _⟩ := HF.out.box.facts
      rw [HN4.out, HA4.out, HC4.out] at d3
      have hk0 : (0 : Int) ≤ f := by omega
      have hk1 : (f : Int) < n4 := by omega
      have HRC := Lib.hid (show RdE 8 EI w0 Ac cc (p.funcs[f]).2 from hrc)
      have HNC := Lib.hid hnc
      have hcl := hrc.le
      have hcm := hrc.max
      rw [hnc] at hcl
      unfold maxLen at hcm
      have HB0 := Lib.hid (show flF p.funcs 0 = pre ++ (flI f ((p.funcs[f]).2.drop 0) 0 ++ flF (p.funcs.drop (f + 1)) (f + 1)) by rw [HB.out, flFcons hfl])
      obtain ⟨code, hcode⟩ : ∃ c, (p.funcs[f]).2 = c := ⟨_, rfl⟩
      rw [hcode] at HRC HNC HB0
      obtain ⟨s1, hs1⟩ : ∃ c, (p.funcs[f]).1 = c := ⟨_, rfl⟩
      rw [hs1] at h1
      clear hrc hnc hcode hs1
      gi_wp2
      obtain ⟨wo, hwo⟩ : ∃ x, x = wr := ⟨wr, rfl⟩
      subst hwo
      gi_loopw [19] (fun v wr => ∃ (k : Nat) (pr : List (Nat × Nat × I8)), k ≤ nc ∧ v = .int .i64 k ∧ Hid (flF p.funcs 0 = pr ++ (flI f (code.drop k) k ++ flF (p.funcs.drop (f + 1)) (f + 1))) ∧ J pr wr ∧ Hid (FixP w0 b a wr)) (fun v _ => nc - (intOf v).toNat)
      case atStart => exact ⟨0, pre, Nat.zero_le _, rfl, HB0, hJs, HF⟩
      case round =>
        obtain ⟨k, pr, hk, rfl, HBk, hJk, HFk⟩ := hrel
        by_cases hlk : k < nc
        · have hkl : k < code.length := by rw [HNC.out]; exact hlk
          obtain ⟨q2, off2, hA2, hq2, hi⟩ := (HRC.out.below stabI HFk.out.bel).one hkl
          subst hA2
          obtain ⟨e0, e1, e2, e3, e4, e5, e6, e7⟩ := hi
          have hlist := HBk.out
          rw [flIcons hkl, List.cons_append] at hlist
          have HFA := Lib.hid (fun o => HFk.out.below (belowAlloc wr o))
          have hJa := fun o => hJ pr wr (wr.alloc o) none hJk (grownAlloc wr o) (fun _ e => by cases e)
          obtain ⟨⟨op, ra, rb, rc, obj, nn, fn', ord⟩, hie⟩ : ∃ i, code[k] = i := ⟨_, rfl⟩
          rw [hie] at e0 e1 e2 e3 e4 e5 e6 e7 hlist
          obtain ⟨fn, tmps, assign, body, hy, hR⟩ := HY.out pr _ _ _ hlist (hJa (.cells #[.int .i64 op, .int .i64 ra, .int .i64 rb, .int .i64 rc, .int .i64 obj, .int .i64 nn, .int .i64 fn', .int .i64 ord] 47))
          have HFA := Lib.hid (HFA.out (.cells #[.int .i64 op, .int .i64 ra, .int .i64 rb, .int .i64 rc, .int .i64 obj, .int .i64 nn, .int .i64 fn', .int .i64 ord] 47))
          have HLI := Lib.hid (show flF p.funcs 0 = (pr ++ [(f, k, ⟨op, ra, rb, rc, obj, nn, fn', ord⟩)]) ++ (flI f (code.drop (k + 1)) (k + 1) ++ flF (p.funcs.drop (f + 1)) (f + 1)) by rw [hlist, List.append_assoc]; rfl)
          have hi0 : (0 : Int) ≤ k := by omega
          have hi1 : (k : Int) < nc := by omega
          simp only [encI, I8.val] at hy
          clear hlist hie hJa
          gi_wp2_with fail
          refine ⟨fun _ => by omega, hR.mono ?_⟩
          rintro e W3 (⟨rfl, hJ3, hk3⟩ | ⟨rfl, hJx3⟩)
          · have HF3 := Lib.hid (hk3 HFA.out)
            gi_wp2_with fail
            go_roundw
            case rel => exact ⟨k + 1, pr ++ [(f, k, ⟨op, ra, rb, rc, obj, nn, fn', ord⟩)], by omega, by go_num, HLI, hJ3, HF3⟩
            case measure => simp [intOf]; omega
          · gi_wp2_with fail
            refine bodyPost_ret (results_none rfl _ _ _) rfl ?_
            exact ⟨⟨_, rfl⟩, .inr ⟨_, hJx3⟩⟩
        · have hlist := HBk.out
          rw [flInil (by rw [HNC.out]; omega), List.nil_append] at hlist
          have HLI := Lib.hid hlist
          clear hlist
          gi_wp2
          go_roundw
          case rel => exact ⟨f + 1, pr, by omega, by go_num, HLI, hJk, HFk⟩
          case measure => simp [intOf]; omega
    · have hn : flF p.funcs 0 = pre := by rw [HB.out, flFnil (by rw [HL4.out]; omega), List.append_nil]
      have HN := Lib.hid hn
      clear hn
      gi_wp2
      go_end0
      exact ⟨⟨_, rfl⟩, .inl (by rw [HN.out]; exact hJs)⟩
end Go.Proofs.YtebpnnakcodjdaaDoor
