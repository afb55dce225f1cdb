/-
  The contract of the iterator extensions: each linear extension in order.
-/
import Derived.Test.YtjioiaeiggjneaaDoorKLinE
import Derived.Test.YtjioiaeiggjneaaDoorKLists
namespace Go.Proofs.YtjioiaeiggjneaaDoor
open Go Go.RowKit Go.Shelf
attribute [local go_sem] Oper.semAt_some

/-- What yield is called with: an owned slice that holds the extension. -/
def ArgE (x : List Nat) (args : Array Value) (W : World) : Prop := ∃ b v, args = #[v] ∧ OwnI W b v (nI x)
theorem extAll {base be bb yb bx l N : Nat} {f : Nat → Nat → Bool} {A : Option Addr} {c : Nat} {L : List (List Nat)} {J Jx : List (List Nat) → (Nat → Prop) → World → Prop} (hN : N ≤ 64) {W0 : World} (h0 : FixG N f A c W0) (hW0 : W0.heap.size = base) (hJ : ∀ p, AbidesS base (J p)) (hJx : ∀ p, AbidesS base (Jx p)) (hY : YieldOk base l N f A c L J Jx) : ∀ k, ExtSaid base be bb yb bx l N f A c L J Jx k
  | 0 => extLeaf h0 hW0 hJ hJx hY
  | k + 1 => extStep hN h0 hW0 hJ hJx (extAll hN h0 hW0 hJ hJx hY k)
set_option maxRecDepth 100000 in
set_option maxHeartbeats 2000000 in
theorem extsS (n : Nat) (N : Nat) (hN : N ≤ 64) (f : Nat → Nat → Bool) (A : Option Addr) (c : Nat) (w : World) : SeqS Fence.wide n Tryd.prog 27 #[.slice A N c] ArgE (FixG N f A c) (exts N f N 0) w := fun l J Jx W hW hJ hJx hY hj hg => by
  have hYo : YieldOk W.heap.size l N f A c (exts N f N 0) J Jx := fun pre x post S v W1 hL hj1 hg1 hr hs => yieldWide (hY pre x post S _ W1 hL hj1 hg1 ⟨_, v, rfl, hr⟩ hs)
  have HX := Lib.hid (fun be bb yb bx => extAll (be := be) (bb := bb) (yb := yb) (bx := bx) hN hg rfl hJ hJx hYo N)
  have hmk := makeI N hN
  obtain ⟨O1, hO1⟩ : ∃ O, Obj.cells #[.slice A N c] 43 = O := ⟨_, rfl⟩
  obtain ⟨O2, hO2⟩ : ∃ O, Obj.cells #[.func (.yield l) #[] #[]] 46 = O := ⟨_, rfl⟩
  obtain ⟨O3, hO3⟩ : ∃ O, Obj.cells (madeCells #[.int .i64 0] N) 3 = O := ⟨_, rfl⟩
  obtain ⟨O4, hO4⟩ : ∃ O, Obj.cells #[.slice (some ⟨W.heap.size + 1 + 1, 0, none⟩) 0 N] 25 = O := ⟨_, rfl⟩
  obtain ⟨O5, hO5⟩ : ∃ O, Obj.cells #[.func (.func 41) #[] #[.pointer (some ⟨W.heap.size + 1 + 1 + 1, 0, none⟩), .pointer (some ⟨W.heap.size, 0, none⟩), .pointer (some ⟨W.heap.size + 1, 0, none⟩), .pointer (some ⟨W.heap.size + 1 + 1 + 1 + 1, 0, none⟩)]] 73 = O := ⟨_, rfl⟩
  obtain ⟨V, hV⟩ : ∃ V, ((((W.alloc O1).alloc O2).alloc O3).alloc O4).alloc O5 = V := ⟨_, rfl⟩
  have hzV : V.heap.size = W.heap.size + 1 + 1 + 1 + 1 + 1 := by rw [← hV]; simp
  have hbV : Below W.heap.size W V := by rw [← hV]; exact ((((belowAlloc W _).alloc (by simp) _).alloc (by simp; omega) _).alloc (by simp; omega) _).alloc (by simp; omega) _
  have p1 : Boxed V W.heap.size 43 (.slice A N c) := by rw [← hV, ← hO1]; exact ((((Boxed.new W _ _).alloc _).alloc _).alloc _).alloc _
  have p2 : Boxed V (W.heap.size + 1) 46 (.func (.yield l) #[] #[]) := by
    rw [← hV, ← hO2]
    have h := Boxed.new (W.alloc O1) 46 (.func (.yield l) #[] #[])
    simp only [World.size_alloc] at h
    exact ((h.alloc _).alloc _).alloc _
  have p4 : Boxed V (W.heap.size + 1 + 1 + 1) 25 (.slice (some ⟨W.heap.size + 1 + 1, 0, none⟩) 0 N) := by
    rw [← hV, ← hO4]
    have h := Boxed.new (((W.alloc O1).alloc O2).alloc O3) 25 (.slice (some ⟨W.heap.size + 1 + 1, 0, none⟩) 0 N)
    simp only [World.size_alloc] at h
    exact h.alloc _
  have p5 : Boxed V (W.heap.size + 1 + 1 + 1 + 1) 73 (.func (.func 41) #[] #[.pointer (some ⟨W.heap.size + 1 + 1 + 1, 0, none⟩), .pointer (some ⟨W.heap.size, 0, none⟩), .pointer (some ⟨W.heap.size + 1, 0, none⟩), .pointer (some ⟨W.heap.size + 1 + 1 + 1 + 1, 0, none⟩)]) := by
    rw [← hV, ← hO5]
    have h := Boxed.new ((((W.alloc O1).alloc O2).alloc O3).alloc O4) 73 (.func (.func 41) #[] #[.pointer (some ⟨W.heap.size + 1 + 1 + 1, 0, none⟩), .pointer (some ⟨W.heap.size, 0, none⟩), .pointer (some ⟨W.heap.size + 1, 0, none⟩), .pointer (some ⟨W.heap.size + 1 + 1 + 1 + 1, 0, none⟩)])
    simp only [World.size_alloc] at h
    exact h
  have p3 : V.ownsRow W.heap.size 3 1 (.slice (some ⟨W.heap.size + 1 + 1, 0, none⟩) 0 N) 0 [] := by
    rw [← hV, ← hO3]
    have h := World.ownsRow_made (e := 3) ((W.alloc O1).alloc O2) (base := W.heap.size) (size := 1) (madeCells #[.int .i64 0] N) N (by simp; omega) (by unfold maxLen; omega) (by rw [← Array.length_toList, toList_madeCells_one]; simp)
    simp only [World.size_alloc] at h
    exact World.ownsRow.alloc (World.ownsRow.alloc h _) _
  have hst : ExtSt W.heap.size (W.heap.size + 1 + 1 + 1) W.heap.size (W.heap.size + 1) (W.heap.size + 1 + 1 + 1 + 1) l N A c (joinS (fun _ => False) W V) [] (.slice (some ⟨W.heap.size + 1 + 1, 0, none⟩) 0 N) V :=
    ⟨p3, fun g hg2 => by have h : some (W.heap.size + 1 + 1) = some g := hg2; injection h with h; exact .inr ⟨by omega, by omega⟩, p4, p1, p2, p5, ⟨.inr ⟨by omega, by omega⟩, .inr ⟨by omega, by omega⟩, .inr ⟨by omega, by omega⟩, .inr ⟨by omega, by omega⟩⟩, fun q hq => hq.elim (fun h => h.elim) fun h => h.1⟩
  have HCALL := Lib.hid (HX.out _ _ _ _ 0 [] [] [] _ _ V (by simp) (by decide) hst (hJ _ _ _ _ hj (Chg.ofBelow hbV _)) (hg.keep hg (Chg.ofBelow hbV _)) hbV.size (by simp))
  have HE := Lib.hid (And.intro hO1 (And.intro hO2 (And.intro hO3 (And.intro hO4 (And.intro hO5 hV)))))
  clear hst p1 p2 p3 p4 p5 HX hj hO1 hO2 hO3 hO4 hO5 hV
  refine callsIn_wide.2 ((callsIn_wide (n := 8)).1 ?_)
  refine callsIn_of_wp Tryd.func27 rfl trivial ?_ rfl
  simp only [Tryd.ntmps27, List.size_toArray, List.length_cons, List.length_nil, Nat.reduceAdd, Nat.reduceSub, Array.replicate_succ, Array.replicate_zero, List.push_toArray, List.append_toArray, List.nil_append, List.cons_append]
  gi_wp2
  rw [HE.out.1, HE.out.2.1, HE.out.2.2.1, HE.out.2.2.2.1, HE.out.2.2.2.2.1, HE.out.2.2.2.2.2]
  refine ⟨trivial, (callsIn_wide.2 HCALL.out).mono ?_⟩
  rintro e W2 ⟨ho, ⟨rfl, S', v', h1, h2, h3, h4⟩ | ⟨rfl, S', pre', h1, h2⟩⟩
  · have H3 := Lib.hid (show J (exts N f N 0) S' W2 by simpa using h3)
    have HO := Lib.hid ho
    clear h1 h2 h3 h4 ho
    gi_wp2
    go_end0
    exact ⟨⟨_, rfl⟩, HO.out.fix, .inl ⟨_, H3.out⟩⟩
  · have H3 := Lib.hid h2
    have HO := Lib.hid ho
    clear h1 h2 ho
    gi_wp2
    go_end0
    exact ⟨⟨_, rfl⟩, HO.out.fix, .inr ⟨_, _, H3.out⟩⟩
end Go.Proofs.YtjioiaeiggjneaaDoor

namespace Go.Proofs.YtjioiaeiggjneaaDoor
open Go Go.RowKit Go.Shelf
attribute [local go_sem] Oper.semAt_some
theorem resAll {tmps : Array Value} {b b' n c : Nat} {A : Option Addr} {e : Int} {W : World} (hp : tmps.getD 4 undef = .pointer (some ⟨b, 0, none⟩)) (hp2 : tmps.getD 5 undef = .pointer (some ⟨b', 0, none⟩))
    (hB : Boxed W b 37 (.slice A n c)) (hB2 : Boxed W b' 28 (.int .i64 e)) : (results Tryd.f12 tmps).run Tryd.prog W = .ok (.tuple #[.slice A n c, .int .i64 e]) W := by
  have hc := hB.cell
  have hc2 := hB2.cell
  have hp' : tmps[4]?.getD undef = .pointer (some ⟨b, 0, none⟩) := by simpa using hp
  have hp2' : tmps[5]?.getD undef = .pointer (some ⟨b', 0, none⟩) := by simpa using hp2
  simp [results, hp', hp2', asAddr, loadVar, isAgg, run_underlying Tryd.underlying37, run_underlying Tryd.underlying28, go_sem, hc, hc2]
set_option maxRecDepth 100000 in
set_option maxHeartbeats 2000000 in
theorem iAllNo (N : Int) (l : Prs) (n : Nat) (hn : l.length = n) (hs : n ≤ 65536) (hc : acyR N l = false) (A : Option Addr) (c : Nat) (lim : Int) (w : World) (ha : Rp w A c l) :
    Calls Tryd.prog 12 #[relV N A n c, .int .i64 lim] w fun e w' => e = .returned (.tuple #[.slice none 0 0, .int .i64 (errA N l)]) ∧ Below w.heap.size w w' := by
  obtain ⟨W, hW⟩ : ∃ W, (((w.alloc (.cells #[.int .i64 N, .slice A n c] 24)).alloc (.cells #[.int .i64 lim] 3)).alloc (.cells #[.slice none 0 0] 37)).alloc (.cells #[.int .i64 0] 28) = W := ⟨_, rfl⟩
  have hbW : Below w.heap.size w W := by rw [← hW]; exact (((belowAlloc w _).alloc (by simp) _).alloc (by simp; omega) _).alloc (by simp; omega) _
  have HB0 : Hid (BoxR W w.heap.size N (.slice A n c)) := by rw [← hW]; exact Lib.hid ((((BoxR.new w N _).alloc _).alloc _).alloc _)
  have p1 : Boxed W (w.heap.size + 1) 3 (.int .i64 lim) := by
    rw [← hW]
    have h := Boxed.new (w.alloc (.cells #[.int .i64 N, .slice A n c] 24)) 3 (.int .i64 lim)
    simp only [World.size_alloc] at h
    exact (h.alloc _).alloc _
  have p2 : Boxed W (w.heap.size + 1 + 1) 37 (.slice none 0 0) := by
    rw [← hW]
    have h := Boxed.new ((w.alloc (.cells #[.int .i64 N, .slice A n c] 24)).alloc (.cells #[.int .i64 lim] 3)) 37 (.slice none 0 0)
    simp only [World.size_alloc] at h
    exact h.alloc _
  have p3 : Boxed W (w.heap.size + 1 + 1 + 1) 28 (.int .i64 0) := by
    rw [← hW]
    have h := Boxed.new (((w.alloc (.cells #[.int .i64 N, .slice A n c] 24)).alloc (.cells #[.int .i64 lim] 3)).alloc (.cells #[.slice none 0 0] 37)) 28 (.int .i64 0)
    simp only [World.size_alloc] at h
    exact h
  obtain ⟨z0, z1, _, _⟩ := HB0.out.facts
  have HC := Lib.hid (iAcyc N l n hn hs A c W (ha.below hbW))
  obtain ⟨k, hk⟩ : ∃ k, errA N l = k := ⟨_, rfl⟩
  have hk0 : (k == 0) = false := by
    rw [← hk]
    unfold errA
    split
    · rw [hc]; rfl
    · rfl
  have hk1 : (k != 0) = true := by simpa using hk0
  rw [hk]
  have HK := Lib.hid hk
  have HN := Lib.hid hc
  have P2 := Lib.hid p2
  have P3 := Lib.hid p3
  clear ha hn hs hc hk p1 p2 p3
  refine (callsIn_wide (n := 8)).1 ?_
  refine callsIn_of_wp_marks Tryd.func12 rfl trivial ?_ rfl
  simp only [Tryd.ntmps12, List.size_toArray, List.length_cons, List.length_nil, Nat.reduceAdd, Nat.reduceSub, Array.replicate_succ, Array.replicate_zero, List.push_toArray, List.append_toArray, List.nil_append, List.cons_append]
  gi_wp2_with fail
  refine ⟨trivial, (callsIn_wide.2 HC.out).mono ?_⟩
  rintro e w1 ⟨⟨_, h2⟩, hb1⟩
  obtain rfl := h2 HN.out
  have q2 : Boxed w1 (w.heap.size + 1 + 1) 37 (.slice none 0 0) := (hb1.block _ P2.out.lt).trans P2.out
  have q3 : Boxed w1 (w.heap.size + 1 + 1 + 1) 28 (.int .i64 0) := (hb1.block _ P3.out.lt).trans P3.out
  have kc2 := q2.cell
  have kf2 := q2.frozen
  have kc3 := (q3.other (show w.heap.size + 1 + 1 + 1 ≠ w.heap.size + 1 + 1 by omega) (.slice none 0 0)).cell
  have kf3 := (q3.other (show w.heap.size + 1 + 1 + 1 ≠ w.heap.size + 1 + 1 by omega) (.slice none 0 0)).frozen
  have hsz := hbW.size
  have HFIN := Lib.hid (show Boxed ((w1.setCell ⟨w.heap.size + 1 + 1, 0, none⟩ (.slice none 0 0)).setCell ⟨w.heap.size + 1 + 1 + 1, 0, none⟩ (.int .i64 k)) (w.heap.size + 1 + 1) 37 (.slice none 0 0) ∧ Boxed ((w1.setCell ⟨w.heap.size + 1 + 1, 0, none⟩ (.slice none 0 0)).setCell ⟨w.heap.size + 1 + 1 + 1, 0, none⟩ (.int .i64 k)) (w.heap.size + 1 + 1 + 1) 28 (.int .i64 k) ∧ Below w.heap.size w ((w1.setCell ⟨w.heap.size + 1 + 1, 0, none⟩ (.slice none 0 0)).setCell ⟨w.heap.size + 1 + 1 + 1, 0, none⟩ (.int .i64 k)) from
    ⟨(q2.set _).other (by omega) _, (q3.other (by omega) _).set _, belowSetT (belowSetT (belowThen hbW hb1) _ _ (by show w.heap.size ≤ w.heap.size + 1 + 1; omega)) _ _ (by show w.heap.size ≤ w.heap.size + 1 + 1 + 1; omega)⟩)
  rw [HK.out]
  gi_wp2
  exact ⟨_, resAll rfl rfl HFIN.out.1 HFIN.out.2.1, rfl, HFIN.out.2.2⟩
set_option maxRecDepth 100000 in
set_option maxHeartbeats 2000000 in
theorem iAllRange (N : Nat) (l : Prs) (n : Nat) (hn : l.length = n) (hs : n ≤ 65536) (hc : acyR N l = true) (A : Option Addr) (c : Nat) (lim : Int) (hlim : lim < 1 ∨ 1048576 < lim) (w : World) (ha : Rp w A c l) :
    Calls Tryd.prog 12 #[relV N A n c, .int .i64 lim] w fun e w' => e = .returned (.tuple #[.slice none 0 0, .int .i64 2]) ∧ Below w.heap.size w w' := by
  obtain ⟨W, hW⟩ : ∃ W, (((w.alloc (.cells #[.int .i64 N, .slice A n c] 24)).alloc (.cells #[.int .i64 lim] 3)).alloc (.cells #[.slice none 0 0] 37)).alloc (.cells #[.int .i64 0] 28) = W := ⟨_, rfl⟩
  have hbW : Below w.heap.size w W := by rw [← hW]; exact (((belowAlloc w _).alloc (by simp) _).alloc (by simp; omega) _).alloc (by simp; omega) _
  have HB0 : Hid (BoxR W w.heap.size N (.slice A n c)) := by rw [← hW]; exact Lib.hid ((((BoxR.new w N _).alloc _).alloc _).alloc _)
  have p1 : Boxed W (w.heap.size + 1) 3 (.int .i64 lim) := by
    rw [← hW]
    have h := Boxed.new (w.alloc (.cells #[.int .i64 N, .slice A n c] 24)) 3 (.int .i64 lim)
    simp only [World.size_alloc] at h
    exact (h.alloc _).alloc _
  have p2 : Boxed W (w.heap.size + 1 + 1) 37 (.slice none 0 0) := by
    rw [← hW]
    have h := Boxed.new ((w.alloc (.cells #[.int .i64 N, .slice A n c] 24)).alloc (.cells #[.int .i64 lim] 3)) 37 (.slice none 0 0)
    simp only [World.size_alloc] at h
    exact h.alloc _
  have p3 : Boxed W (w.heap.size + 1 + 1 + 1) 28 (.int .i64 0) := by
    rw [← hW]
    have h := Boxed.new (((w.alloc (.cells #[.int .i64 N, .slice A n c] 24)).alloc (.cells #[.int .i64 lim] 3)).alloc (.cells #[.slice none 0 0] 37)) 28 (.int .i64 0)
    simp only [World.size_alloc] at h
    exact h
  obtain ⟨z0, z1, _, _⟩ := HB0.out.facts
  have HC := Lib.hid (iAcyc N l n hn hs A c W (ha.below hbW))
  have HN := Lib.hid hc
  have P2 := Lib.hid p2
  have P3 := Lib.hid p3
  have P1 := Lib.hid p1
  clear ha hn hs hc p1 p2 p3
  refine (callsIn_wide (n := 8)).1 ?_
  refine callsIn_of_wp_marks Tryd.func12 rfl trivial ?_ rfl
  simp only [Tryd.ntmps12, List.size_toArray, List.length_cons, List.length_nil, Nat.reduceAdd, Nat.reduceSub, Array.replicate_succ, Array.replicate_zero, List.push_toArray, List.append_toArray, List.nil_append, List.cons_append]
  gi_wp2_with fail
  refine ⟨trivial, (callsIn_wide.2 HC.out).mono ?_⟩
  rintro e w1 ⟨⟨h2, _⟩, hb1⟩
  obtain ⟨g, rfl, hB⟩ := h2 HN.out
  clear hB
  have q1 : Boxed w1 (w.heap.size + 1) 3 (.int .i64 lim) := (hb1.block _ P1.out.lt).trans P1.out
  have kc1 := q1.cell
  have q2 : Boxed w1 (w.heap.size + 1 + 1) 37 (.slice none 0 0) := (hb1.block _ P2.out.lt).trans P2.out
  have q3 : Boxed w1 (w.heap.size + 1 + 1 + 1) 28 (.int .i64 0) := (hb1.block _ P3.out.lt).trans P3.out
  have kc2 := q2.cell
  have kf2 := q2.frozen
  have kc3 := (q3.other (show w.heap.size + 1 + 1 + 1 ≠ w.heap.size + 1 + 1 by omega) (.slice none 0 0)).cell
  have kf3 := (q3.other (show w.heap.size + 1 + 1 + 1 ≠ w.heap.size + 1 + 1 by omega) (.slice none 0 0)).frozen
  have hsz := hbW.size
  have HFIN := Lib.hid (show Boxed ((w1.setCell ⟨w.heap.size + 1 + 1, 0, none⟩ (.slice none 0 0)).setCell ⟨w.heap.size + 1 + 1 + 1, 0, none⟩ (.int .i64 2)) (w.heap.size + 1 + 1) 37 (.slice none 0 0) ∧ Boxed ((w1.setCell ⟨w.heap.size + 1 + 1, 0, none⟩ (.slice none 0 0)).setCell ⟨w.heap.size + 1 + 1 + 1, 0, none⟩ (.int .i64 2)) (w.heap.size + 1 + 1 + 1) 28 (.int .i64 2) ∧ Below w.heap.size w ((w1.setCell ⟨w.heap.size + 1 + 1, 0, none⟩ (.slice none 0 0)).setCell ⟨w.heap.size + 1 + 1 + 1, 0, none⟩ (.int .i64 2)) from
    ⟨(q2.set _).other (by omega) _, (q3.other (by omega) _).set _, belowSetT (belowSetT (belowThen hbW hb1) _ _ (by show w.heap.size ≤ w.heap.size + 1 + 1; omega)) _ _ (by show w.heap.size ≤ w.heap.size + 1 + 1 + 1; omega)⟩)
  by_cases hl : lim < 1
  · have e1 : decide (lim < 1) = true := by simpa using hl
    gi_wp2
    all_goals exact ⟨_, resAll rfl rfl HFIN.out.1 HFIN.out.2.1, rfl, HFIN.out.2.2⟩
  · have e1 : decide (lim < 1) = false := by simpa using hl
    have e2 : decide (lim > 1048576) = true := by simp; omega
    gi_wp2
    all_goals exact ⟨_, resAll rfl rfl HFIN.out.1 HFIN.out.2.1, rfl, HFIN.out.2.2⟩
end Go.Proofs.YtjioiaeiggjneaaDoor
