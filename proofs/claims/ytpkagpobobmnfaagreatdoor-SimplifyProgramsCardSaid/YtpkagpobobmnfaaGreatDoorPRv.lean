/-
  The iterator over the instructions of a program: each instruction in order, with the numbers of its function and of itself.
-/
import Derived.Test.YtpkagpobobmnfaaGreatDoorPJo
import Derived.Test.YtpkagpobobmnfaaGreatDoorPAr
import Derived.Shelf.Abstract
import Derived.Shelf.RegionOpen
import Derived.OwnWalkIn
import Derived.TacticsInMore
import Derived.LoopNIn
import Derived.LoopIn
namespace Go.Proofs.YtpkagpobobmnfaaGreatDoor
open Go Go.RowKit Go.Shelf
attribute [local go_sem] Oper.semAt_some

/-- The instructions of one function from number k on, then those of all functions from number f on. -/
def flI (f : Nat) : List I8 → Nat → List (Nat × Nat × I8)
  | [], _ => []
  | i :: t, k => (f, k, i) :: flI f t (k + 1)
def flF : List (ByteArray × List I8) → Nat → List (Nat × Nat × I8)
  | [], _ => []
  | g :: t, f => flI f g.2 0 ++ flF t (f + 1)
theorem flIcons {f k : Nat} {c : List I8} (hk : k < c.length) : flI f (c.drop k) k = (f, k, c[k]) :: flI f (c.drop (k + 1)) (k + 1) := by rw [List.drop_eq_getElem_cons hk, flI]
theorem flInil {f k : Nat} {c : List I8} (hk : c.length ≤ k) : flI f (c.drop k) k = [] := by rw [List.drop_eq_nil_of_le hk, flI]
theorem flFcons {f : Nat} {g : List (ByteArray × List I8)} (hf : f < g.length) : flF (g.drop f) f = flI f ((g[f]).2.drop 0) 0 ++ flF (g.drop (f + 1)) (f + 1) := by rw [List.drop_eq_getElem_cons hf, flF, List.drop_zero]
theorem flFnil {f : Nat} {g : List (ByteArray × List I8)} (hf : g.length ≤ f) : flF (g.drop f) f = [] := by rw [List.drop_eq_nil_of_le hf, flF]
/-- What the loop over the instructions hands on. -/
def encI (x : Nat × Nat × I8) : Array Value := #[.agg #[.int .i64 (x.1 : Int), .int .i64 (x.2.1 : Int)], x.2.2.val]
/-- The program lies as in w0, and its box too. -/
structure FixP (w0 : World) (b : Nat) (a : PgA) (W : World) : Prop where
  bel : Below w0.heap.size w0 W
  box : PBox W b a
def KeepP (w0 : World) (b : Nat) (a : PgA) (W W' : World) : Prop := FixP w0 b a W → FixP w0 b a W'
theorem FixP.below {w0 : World} {b : Nat} {a : PgA} {W W' : World} (h : FixP w0 b a W) (hb : Below W.heap.size W W') : FixP w0 b a W' := ⟨belowThen h.bel hb, h.box.below hb⟩
theorem keepP_b {w0 : World} {b : Nat} {a : PgA} {B : Nat} (hB : w0.heap.size ≤ B) (W : World) (l : Nat) (o o' : Obj) (hl : B ≤ l) (h : W.heap[l]? = some o) (hc : o.isCells = false) (_ : o.isWalk = false) : KeepP w0 b a W (W.putObj l o') := fun hF => by
  refine ⟨⟨hF.bel.os, hF.bel.tape, hF.bel.output, by simpa using hF.bel.size, fun k hk => (World.putObj_heap_other (by omega)).trans (hF.bel.block k hk)⟩, (World.putObj_heap_other fun e => ?_).trans hF.box⟩
  subst e
  have h2 : W.heap[b]? = _ := hF.box
  rw [h] at h2
  injection h2 with h2
  subst h2
  cases hc
theorem enters99 : ∀ args w, (callFunc 153 args).run Tryz.prog w = .ok (.enter 153 args) w := enters_of Tryz.func153 (by kernel_rfl) rfl
theorem grownAlloc (W : World) (o : Obj) : W.grownBy (W.alloc o) none := by
  have hb := belowAlloc W o
  exact ⟨hb.os, hb.tape, hb.output, hb.size, fun k hk _ => hb.block k hk⟩
set_option maxRecDepth 100000 in
set_option maxHeartbeats 2000000 in
theorem instC (n : Nat) (hn : 3 ≤ n) (a : PgA) (p : Prg) (w0 : World) (b : Nat) (hP : PgW w0 a p) (w : World) (hF : FixP w0 b a w) :
    SeqC Fence.wide n Tryz.prog 153 #[.pointer (some ⟨b, 0, none⟩)] encI (KeepP w0 b a) (flF p.funcs 0) w := fun l J Jx W hW hJ hJx hY h0 => by
  have HFW := Lib.hid (hF.below hW)
  obtain ⟨_, _, _, c3, _⟩ := HFW.out.box.facts
  have hm4 := hP.funcs.max
  have hle4 := hP.funcs.le
  unfold maxLen at hm4
  have HL4 := Lib.hid hP.l4
  rw [hP.l4] at hle4
  have HP := Lib.hid hP
  obtain ⟨n4, hn4⟩ : ∃ n, a.n4 = n := ⟨_, rfl⟩
  obtain ⟨A4, hA4⟩ : ∃ A, a.A4 = A := ⟨_, rfl⟩
  obtain ⟨c4', hc4⟩ : ∃ A, a.c4 = A := ⟨_, rfl⟩
  rw [hn4, hA4, hc4] at c3
  rw [hn4, hc4] at hle4
  rw [hc4] at hm4
  rw [hn4] at HL4
  have HA4 := Lib.hid hA4
  have HN4 := Lib.hid hn4
  have HC4 := Lib.hid hc4
  have HY := Lib.hid hY
  clear hP hn4 hA4 hc4 hY
  refine callsIn_of_wp Tryz.func153 rfl trivial ?_ rfl
  simp only [Tryz.ntmps153, List.size_toArray, List.length_cons, List.length_nil, Nat.reduceAdd, Nat.reduceSub, Array.replicate_succ, Array.replicate_zero, List.push_toArray, List.append_toArray, List.nil_append, List.cons_append]
  gi_wp2
  gi_loopw [9] (fun v wr => ∃ (f : Nat) (pre : List (Nat × Nat × I8)), f ≤ n4 ∧ v = .int .i64 f ∧ Hid (flF p.funcs 0 = pre ++ flF (p.funcs.drop f) f) ∧ J pre wr ∧ Hid (FixP w0 b a wr)) (fun v _ => n4 - (intOf v).toNat)
  case atStart => exact ⟨0, [], Nat.zero_le _, rfl, Lib.hid rfl, h0, HFW⟩
  case round =>
    obtain ⟨f, pre, hf, rfl, HB, hJs, HF⟩ := hrel
    by_cases hlt : f < n4
    · have hfl : f < p.funcs.length := by rw [HL4.out]; exact hlt
      obtain ⟨q, off, hA, hq, h1, v, h2, Ac, nc, cc, rfl, hnc, hrc⟩ := HP.out.funcs.one hfl
      have h1 := (HF.out.bel.cell (p := ⟨q, _, none⟩) hq).trans h1
      have h2 := (HF.out.bel.cell (p := ⟨q, _, none⟩) hq).trans h2
      rw [HA4.out] at hA
      subst hA
      obtain ⟨_, _, _, d3, _⟩ := HF.out.box.facts
      rw [HN4.out, HA4.out, HC4.out] at d3
      have hk0 : (0 : Int) ≤ f := by omega
      have hk1 : (f : Int) < n4 := by omega
      have HRC := Lib.hid (show RdE 8 EI w0 Ac cc (p.funcs[f]).2 from hrc)
      have HNC := Lib.hid hnc
      have hcl := hrc.le
      have hcm := hrc.max
      rw [hnc] at hcl
      unfold maxLen at hcm
      have HB0 := Lib.hid (show flF p.funcs 0 = pre ++ (flI f ((p.funcs[f]).2.drop 0) 0 ++ flF (p.funcs.drop (f + 1)) (f + 1)) by rw [HB.out, flFcons hfl])
      obtain ⟨code, hcode⟩ : ∃ c, (p.funcs[f]).2 = c := ⟨_, rfl⟩
      rw [hcode] at HRC HNC HB0
      obtain ⟨s1, hs1⟩ : ∃ c, (p.funcs[f]).1 = c := ⟨_, rfl⟩
      rw [hs1] at h1
      clear hrc hnc hcode hs1
      gi_wp2
      obtain ⟨wo, hwo⟩ : ∃ x, x = wr := ⟨wr, rfl⟩
      subst hwo
      gi_loopw [19] (fun v wr => ∃ (k : Nat) (pr : List (Nat × Nat × I8)), k ≤ nc ∧ v = .int .i64 k ∧ Hid (flF p.funcs 0 = pr ++ (flI f (code.drop k) k ++ flF (p.funcs.drop (f + 1)) (f + 1))) ∧ J pr wr ∧ Hid (FixP w0 b a wr)) (fun v _ => nc - (intOf v).toNat)
      case atStart => exact ⟨0, pre, Nat.zero_le _, rfl, HB0, hJs, HF⟩
      case round =>
        obtain ⟨k, pr, hk, rfl, HBk, hJk, HFk⟩ := hrel
        by_cases hlk : k < nc
        · have hkl : k < code.length := by rw [HNC.out]; exact hlk
          obtain ⟨q2, off2, hA2, hq2, hi⟩ := (HRC.out.below stabI HFk.out.bel).one hkl
          subst hA2
          obtain ⟨e0, e1, e2, e3, e4, e5, e6, e7⟩ := hi
          have hlist := HBk.out
          rw [flIcons hkl, List.cons_append] at hlist
          have HFA := Lib.hid (fun o => HFk.out.below (belowAlloc wr o))
          have hJa := fun o => hJ pr wr (wr.alloc o) none hJk (grownAlloc wr o) (fun _ e => by cases e)
          obtain ⟨⟨op, ra, rb, rc, obj, nn, fn', ord⟩, hie⟩ : ∃ i, code[k] = i := ⟨_, rfl⟩
          rw [hie] at e0 e1 e2 e3 e4 e5 e6 e7 hlist
          obtain ⟨fn, tmps, assign, body, hy, hR⟩ := HY.out pr _ _ _ hlist (hJa (.cells #[.int .i64 op, .int .i64 ra, .int .i64 rb, .int .i64 rc, .int .i64 obj, .int .i64 nn, .int .i64 fn', .int .i64 ord] 55))
          have HFA := Lib.hid (HFA.out (.cells #[.int .i64 op, .int .i64 ra, .int .i64 rb, .int .i64 rc, .int .i64 obj, .int .i64 nn, .int .i64 fn', .int .i64 ord] 55))
          have HLI := Lib.hid (show flF p.funcs 0 = (pr ++ [(f, k, ⟨op, ra, rb, rc, obj, nn, fn', ord⟩)]) ++ (flI f (code.drop (k + 1)) (k + 1) ++ flF (p.funcs.drop (f + 1)) (f + 1)) by rw [hlist, List.append_assoc]; rfl)
          have hi0 : (0 : Int) ≤ k := by omega
          have hi1 : (k : Int) < nc := by omega
          simp only [encI, I8.val] at hy
          clear hlist hie hJa
          gi_wp2_with fail
          refine ⟨fun _ => by omega, hR.mono ?_⟩
          rintro e W3 (⟨rfl, hJ3, hk3⟩ | ⟨rfl, hJx3⟩)
          · have HF3 := Lib.hid (hk3 HFA.out)
            gi_wp2_with fail
            go_roundw
            case rel => exact ⟨k + 1, pr ++ [(f, k, ⟨op, ra, rb, rc, obj, nn, fn', ord⟩)], by omega, by go_num, HLI, hJ3, HF3⟩
            case measure => simp [intOf]; omega
          · gi_wp2_with fail
            refine bodyPost_ret (results_none rfl _ _ _) rfl ?_
            exact ⟨⟨_, rfl⟩, .inr ⟨_, hJx3⟩⟩
        · have hlist := HBk.out
          rw [flInil (by rw [HNC.out]; omega), List.nil_append] at hlist
          have HLI := Lib.hid hlist
          clear hlist
          gi_wp2
          go_roundw
          case rel => exact ⟨f + 1, pr, by omega, by go_num, HLI, hJk, HFk⟩
          case measure => simp [intOf]; omega
    · have hn : flF p.funcs 0 = pre := by rw [HB.out, flFnil (by rw [HL4.out]; omega), List.append_nil]
      have HN := Lib.hid hn
      clear hn
      gi_wp2
      go_end0
      exact ⟨⟨_, rfl⟩, .inl (by rw [HN.out]; exact hJs)⟩
end Go.Proofs.YtpkagpobobmnfaaGreatDoor

namespace Go.Proofs.YtpkagpobobmnfaaGreatDoor
open Go Go.RowKit Go.Shelf
attribute [local go_sem] Oper.semAt_some

/-- The length of function f's code. -/
def Prg.lenF (p : Prg) (f : Nat) : Nat := ((p.funcs[f]?).map (·.2.length)).getD 0
theorem lenFat {p : Prg} {f : Nat} (hf : f < p.funcs.length) : p.lenF f = (p.funcs[f]).2.length := by
  unfold Prg.lenF
  rw [List.getElem?_eq_getElem hf]; rfl
/-- The first error of a list of instructions. -/
def Prg.cdL (p : Prg) : List (Nat × Nat × I8) → Int × Int × Int
  | [] => (0, -1, -1)
  | x :: t => if x.2.1 = 0 ∧ 64 < p.lenF x.1 then (4, x.1, -1) else if p.insE (p.lenF x.1) x.2.2 ≠ 0 then (p.insE (p.lenF x.1) x.2.2, x.1, x.2.1) else p.cdL t
theorem cdLinst {p : Prg} {f len : Nat} (hl : p.lenF f = len) (h64 : len ≤ 64) (rest : List (Nat × Nat × I8)) : ∀ (c : List I8) (k : Nat), p.cdL (flI f c k ++ rest) = if (p.cdF len c k).1 ≠ 0 then ((p.cdF len c k).1, (f : Int), (p.cdF len c k).2) else p.cdL rest
  | [], k => by simp [flI, Prg.cdF]
  | i :: c, k => by
    rw [flI, List.cons_append, Prg.cdL, Prg.cdF, cdLinst hl h64 rest c (k + 1)]
    simp only [hl]
    rw [if_neg (by omega)]
    by_cases h : p.insE len i ≠ 0
    · simp [h]
    · simp only [h, if_false]
theorem cdLfun {p : Prg} : ∀ (d : Nat) (f : Nat), p.funcs.length - f = d → p.cdL (flF (p.funcs.drop f) f) = p.fnF (p.funcs.drop f) f
  | 0, f, hd => by
    rw [List.drop_eq_nil_of_le (by omega)]
    rfl
  | d + 1, f, hd => by
    have hf : f < p.funcs.length := by omega
    have ih := cdLfun (p := p) d (f + 1) (by omega)
    rw [List.drop_eq_getElem_cons hf, flF, Prg.fnF]
    by_cases h64 : 64 < (p.funcs[f]).2.length
    · have h1 : p.cd1 (p.funcs[f]).2 = (4, -1) := by unfold Prg.cd1; rw [if_pos h64]
      rw [h1, if_pos (by simp)]
      rcases hc : (p.funcs[f]).2 with _ | ⟨i, c⟩
      · rw [hc] at h64; simp at h64
      · rw [flI, List.cons_append, Prg.cdL]
        rw [if_pos ⟨rfl, by rw [lenFat hf]; exact h64⟩]
    · have h1 : p.cd1 (p.funcs[f]).2 = p.cdF (p.funcs[f]).2.length (p.funcs[f]).2 0 := by unfold Prg.cd1; rw [if_neg h64]
      rw [h1, cdLinst (lenFat hf) (by omega), ih]
theorem cdLall (p : Prg) : p.cdL (flF p.funcs 0) = p.fnF p.funcs 0 := by
  have := cdLfun (p := p) _ 0 rfl
  rwa [List.drop_zero] at this
/-- The iterator value. -/
theorem iInsts (a : PgA) (w : World) : Calls Tryz.prog 130 #[a.val] w fun e w' => e = .returned (.func (.func 153) #[] #[.pointer (some ⟨w.heap.size, 0, none⟩)]) ∧ w' = w.alloc (.cells a.fs 43) := by
  obtain ⟨A1, n1, c1, A2, n2, c2, A3, n3, c3, A4, n4, c4, A5, n5, c5⟩ := a
  simp only [PgA.val, PgA.fs]
  go_enter Tryz.func130, Tryz.ntmps130
  go_wp2
  go_ret
  exact ⟨rfl, rfl⟩
theorem resErr3 {tmps : Array Value} {b1 b2 b3 : Nat} {x y z : Int} {W : World} (h1 : tmps.getD 1 undef = .pointer (some ⟨b1, 0, none⟩)) (h2 : tmps.getD 2 undef = .pointer (some ⟨b2, 0, none⟩)) (h3 : tmps.getD 3 undef = .pointer (some ⟨b3, 0, none⟩))
    (k1 : Boxed W b1 29 (.int .i64 x)) (k2 : Boxed W b2 3 (.int .i64 y)) (k3 : Boxed W b3 3 (.int .i64 z)) : (results Tryz.f129 tmps).run Tryz.prog W = .ok (.tuple #[.int .i64 x, .int .i64 y, .int .i64 z]) W := by
  have c1 := k1.cell
  have c2 := k2.cell
  have c3 := k3.cell
  have h1' : tmps[1]?.getD undef = .pointer (some ⟨b1, 0, none⟩) := by simpa using h1
  have h2' : tmps[2]?.getD undef = .pointer (some ⟨b2, 0, none⟩) := by simpa using h2
  have h3' : tmps[3]?.getD undef = .pointer (some ⟨b3, 0, none⟩) := by simpa using h3
  simp [results, h1', h2', h3', asAddr, loadVar, isAgg, run_underlying Tryz.underlying29, run_underlying Tryz.underlying3, go_sem, c1, c2, c3]
/-- The three boxes of the results. -/
structure Res3 (b : Nat) (x y z : Int) (W : World) : Prop where
  r1 : Boxed W b 29 (.int .i64 x)
  r2 : Boxed W (b + 1) 3 (.int .i64 y)
  r3 : Boxed W (b + 1 + 1) 3 (.int .i64 z)
theorem Res3.set {b : Nat} {x y z : Int} {W : World} (h : Res3 b x y z W) (x' y' z' : Int) : Res3 b x' y' z' (((W.setCell ⟨b, 0, none⟩ (.int .i64 x')).setCell ⟨b + 1, 0, none⟩ (.int .i64 y')).setCell ⟨b + 1 + 1, 0, none⟩ (.int .i64 z')) :=
  ⟨((h.r1.set _).other (by omega) _).other (by omega) _, ((h.r2.other (by omega) _).set _).other (by omega) _, ((h.r3.other (by omega) _).other (by omega) _).set _⟩
theorem Res3.below {b : Nat} {x y z : Int} {W W' : World} (h : Res3 b x y z W) (hb : Below W.heap.size W W') : Res3 b x y z W' := ⟨(hb.block _ h.r1.lt).trans h.r1, (hb.block _ h.r2.lt).trans h.r2, (hb.block _ h.r3.lt).trans h.r3⟩
theorem Res3.own {β : Type} (b : Nat) (x y z : Int) : Own (fun (_ : β) W => Res3 b x y z W) := fun _ X Y row hs hg hr => ⟨boxed_own (β := Unit) _ _ (fun _ => _) () X Y row hs.r1 hg hr, boxed_own (β := Unit) _ _ (fun _ => _) () X Y row hs.r2 hg hr, boxed_own (β := Unit) _ _ (fun _ => _) () X Y row hs.r3 hg hr⟩
end Go.Proofs.YtpkagpobobmnfaaGreatDoor
