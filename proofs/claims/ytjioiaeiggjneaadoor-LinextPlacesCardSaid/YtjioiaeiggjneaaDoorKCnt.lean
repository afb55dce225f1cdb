/-
  The contract of continuations: a map that holds, for each downset, the number of orders in which the others can follow it.
-/
import Derived.Test.YtjioiaeiggjneaaDoorKVis
import Derived.Test.YtjioiaeiggjneaaDoorKLinF
namespace Go.Proofs.YtjioiaeiggjneaaDoor
open Go Go.RowKit Go.Shelf

theorem visAll {wb bb vb g N : Nat} {f : Nat → Nat → Bool} {A : Option Addr} {c : Nat} {W00 : World} (h00 : FixG N f A c W00) (hg0 : W00.heap.size ≤ g) (hN : N ≤ 64) (hK : ∀ D, VisT N f D → D.length ≤ 65536) (k : Nat) : VisSaid wb bb vb g N f A c k :=
  Nat.strongRecOn k fun _ ih => visStep h00 hg0 hN hK fun j hj => ih j hj
theorem fullOut (N : Nat) : outS N (fullS N) = 0 := by
  unfold outS
  rw [List.countP_eq_zero]
  intro a ha
  rw [List.mem_range] at ha
  rw [fullBit]
  simp [ha]
set_option maxRecDepth 100000 in
set_option maxHeartbeats 1000000 in
theorem iConts (N : Nat) (hN : N ≤ 64) (f : Nat → Nat → Bool) (hac : acyT N (tcT N f)) (hK : ∀ D, VisT N f D → D.length ≤ 65536) (A : Option Addr) (c : Nat) (w : World) (h : FixG N f A c w) :
    Calls Tryd.prog 29 #[.slice A N c] w fun e w' => ∃ g D, e = .returned (.tuple #[.map (some g), .int .i64 0]) ∧ MapT w' g D (valM N f) ∧ VisT N f D ∧ 0 ∈ D ∧ Below w.heap.size w w' := by
  obtain ⟨W, hW⟩ : ∃ W, w.alloc (.cells #[.slice A N c] 43) = W := ⟨_, rfl⟩
  have hbW : Below w.heap.size w W := by rw [← hW]; exact belowAlloc w _
  have hzW : W.heap.size = w.heap.size + 1 := by rw [← hW]; simp
  have hbx : Boxed W w.heap.size 43 (.slice A N c) := by rw [← hW]; exact Boxed.new w _ _
  have hmm := @run_makeMap Tryd.prog
  obtain ⟨X, hX⟩ : ∃ X, W.alloc (.map #[] 0) = X := ⟨_, rfl⟩
  have hbX : Below W.heap.size W X := by rw [← hX]; exact belowAlloc W _
  have hM0 : MapT X W.heap.size [] (valM N f) := by rw [← hX]; exact MapT.made (V := valM N f) W
  have hbx1 : Boxed X w.heap.size 43 (.slice A N c) := (hbX.block _ hbx.lt).trans hbx
  have kx := hbx1.cell
  have hF := Lib.hid (iFull N hN A c X)
  have hlt : fullS N < B64 := fullLt hN
  obtain ⟨Y, hput, hM1, hturn⟩ := hM0.put (by decide) (s := fullS N) (by simp) hlt 1 (valFull (fullOut N))
  rw [hzW] at hput
  have hYg : Chg X Y (fun q => q ≠ W.heap.size) := Chg.ofGrown hturn.grown fun q hq e => hq (Option.some.inj e).symm
  obtain ⟨V, hV⟩ : ∃ V, (Y.alloc (.cells #[.map (some (w.heap.size + 1))] 47)).alloc (.cells #[.func (.func 42) #[] #[.pointer (some ⟨Y.heap.size, 0, none⟩), .pointer (some ⟨w.heap.size, 0, none⟩), .pointer (some ⟨Y.heap.size + 1, 0, none⟩)]] 73) = V := ⟨_, rfl⟩
  have hbV : Below Y.heap.size Y V := by rw [← hV]; exact (belowAlloc Y _).alloc (by simp) _
  have hcV : Chg w V (fun q => q < w.heap.size) := by
    have h1 : Chg w X (fun q => q < w.heap.size) := Chg.ofBelow (belowThen hbW hbX) _
    have h2 : Chg w Y (fun q => q < w.heap.size) := h1.trans hYg fun i _ hi => by show i ≠ W.heap.size; omega
    exact h2.trans (Chg.ofBelow hbV (fun _ => True)) fun _ _ _ => trivial
  have q1 : Boxed V Y.heap.size 47 (.map (some (w.heap.size + 1))) := by rw [← hV]; exact (Boxed.new Y _ _).alloc _
  have q2 : Boxed V w.heap.size 43 (.slice A N c) := by
    have h1 : Boxed Y w.heap.size 43 (.slice A N c) := (hYg.block _ hbx1.lt (by omega)).trans hbx1
    exact (hbV.block _ h1.lt).trans h1
  have q3 : Boxed V (Y.heap.size + 1) 73 (.func (.func 42) #[] #[.pointer (some ⟨Y.heap.size, 0, none⟩), .pointer (some ⟨w.heap.size, 0, none⟩), .pointer (some ⟨Y.heap.size + 1, 0, none⟩)]) := by
    rw [← hV]
    have h := Boxed.new (Y.alloc (.cells #[.map (some (w.heap.size + 1))] 47)) 73 (.func (.func 42) #[] #[.pointer (some ⟨Y.heap.size, 0, none⟩), .pointer (some ⟨w.heap.size, 0, none⟩), .pointer (some ⟨Y.heap.size + 1, 0, none⟩)])
    rwa [World.size_alloc] at h
  rw [hzW] at hM1
  have q4 : MapT V (w.heap.size + 1) [fullS N] (valM N f) := hM1.chg (Chg.ofBelow hbV fun _ => True) trivial
  have hst : VisSt Y.heap.size w.heap.size (Y.heap.size + 1) (w.heap.size + 1) N f A c [fullS N] V := ⟨q1, q2, q3, q4, VisT.start hac, by simp, h.keep h hcV⟩
  have HV := Lib.hid hV
  have HC := Lib.hid hcV
  have HCALL := Lib.hid (visAll (wb := Y.heap.size) (bb := w.heap.size) (vb := Y.heap.size + 1) h (g := w.heap.size + 1) (by omega) hN hK (outS N 0) 0 [fullS N] V rfl (by decide) rchRefl hst)
  clear hM0 hM1 hturn hYg hbV hcV q1 q2 q3 q4 hst hV
  go_enter Tryd.func29, Tryd.ntmps29
  go_wp2_with fail
  refine hF.out.mono ?_
  rintro e w' ⟨rfl, rfl⟩
  go_wp2_with fail
  rw [HV.out]
  refine HCALL.out.mono ?_
  rintro e w2 ⟨rfl, hc2, D', _, _, h0, hst2⟩
  have k2 := hst2.hw.cell
  have HF := Lib.hid (show MapT w2 (w.heap.size + 1) D' (valM N f) ∧ VisT N f D' ∧ 0 ∈ D' ∧ Below w.heap.size w w2 from
    ⟨hst2.tab, hst2.vis, h0, ((HC.out).trans hc2 fun i hi _ => by show i ≠ w.heap.size + 1; omega).below fun _ h => h⟩)
  clear hc2 hst2 h0
  go_wp2
  go_ret2
  exact ⟨_, D', rfl, HF.out⟩
end Go.Proofs.YtjioiaeiggjneaaDoor

namespace Go.Proofs.YtjioiaeiggjneaaDoor
open Go Go.RowKit Go.Shelf

theorem valZero {N : Nat} {f : Nat → Nat → Bool} (hw : ways N f N 0 ≤ 9223372036854775807) : valM N f 0 = (ways N f N 0 : Int) := by
  unfold valM capW
  rw [outZero, if_pos hw]
/-- continuations' table. -/
def GivesW5 (N : Nat) (f : Nat → Nat → Bool) (w : World) (e : Ending) (w' : World) : Prop := ∃ g D, e = .returned (.tuple #[.map (some g), .int .i64 0]) ∧ MapT w' g D (valM N f) ∧ VisT N f D ∧ 0 ∈ D ∧ Below w.heap.size w w'
theorem iCountM (N : Nat) (hN : N ≤ 64) (f : Nat → Nat → Bool) (hac : acyT N (tcT N f)) (hK : ∀ D, VisT N f D → D.length ≤ 65536) (hw : ways N f N 0 ≤ 9223372036854775807) (A : Option Addr) (c : Nat) (w : World) (h : FixG N f A c w) :
    Calls Tryd.prog 17 #[.slice A N c] w (GivesW5 N f w) := by
  have HC := Lib.hid (iConts N hN f hac hK A c w h)
  obtain ⟨m, hm⟩ : ∃ m, ways N f N 0 = m := ⟨_, rfl⟩
  have hv := valZero hw
  rw [hm] at hv
  have HV := Lib.hid hv
  clear hv hw h hac hK hm
  go_enter Tryd.func17, Tryd.ntmps17
  go_wp2_with fail
  refine HC.out.mono ?_
  rintro e w1 ⟨g, D, rfl, hM, hV, h0, hb⟩
  have hlk := hM.look1 (x := 0) (by decide)
  rw [if_pos h0, HV.out] at hlk
  have hlk2 : (Instr.lookup 47 (.map (some g)) (.int .u64 0) false).run Tryd.prog w1 = .ok (.int .i64 (m : Int)) w1 := hlk
  have hne : ((m : Int) == -1) = false := by simp
  have HX := Lib.hid (And.intro hM (And.intro hV (And.intro h0 hb)))
  clear hM hV h0 hb hlk
  go_wp2
  go_ret2
  exact ⟨g, D, rfl, HX.out⟩
theorem errNz {N : Int} {l : Prs} (hc : acyR N l = false) : (errA N l == 0) = false ∧ (errA N l != 0) = true := by
  have h : errA N l ≠ 0 := by
    unfold errA
    split
    · rw [hc]; simp
    · simp
  constructor
  · simpa using h
  · simpa using h
set_option maxRecDepth 100000 in
theorem iDownNo (N : Int) (l : Prs) (n : Nat) (hn : l.length = n) (hs : n ≤ 65536) (hc : acyR N l = false) (A : Option Addr) (c : Nat) (w : World) (ha : Rp w A c l) :
    Calls Tryd.prog 13 #[relV N A n c] w fun e w' => e = .returned (.tuple #[.int .i64 0, .int .i64 (errA N l)]) ∧ Below w.heap.size w w' := by
  obtain ⟨W, hW⟩ : ∃ W, w.alloc (.cells #[.int .i64 N, .slice A n c] 24) = W := ⟨_, rfl⟩
  have hbW : Below w.heap.size w W := by rw [← hW]; exact belowAlloc w _
  have HB0 : Hid (BoxR W w.heap.size N (.slice A n c)) := by rw [← hW]; exact Lib.hid (BoxR.new w N _)
  obtain ⟨z0, z1, _, _⟩ := HB0.out.facts
  have HC := Lib.hid (iAcyc N l n hn hs A c W (ha.below hbW))
  obtain ⟨k, hk⟩ : ∃ k, errA N l = k := ⟨_, rfl⟩
  obtain ⟨hk0, hk1⟩ := errNz hc
  rw [hk] at hk0 hk1 ⊢
  have HK := Lib.hid hk
  have HN := Lib.hid hc
  clear ha hn hs hc hk
  go_enter Tryd.func13, Tryd.ntmps13
  go_wp2_with fail
  refine HC.out.mono ?_
  rintro e w1 ⟨⟨_, h2⟩, hb1⟩
  obtain rfl := h2 HN.out
  rw [HK.out]
  go_wp2
  go_ret2
  exact ⟨rfl, belowThen hbW hb1⟩
/-- What Downsets gives. -/
def GivesD (N : Nat) (f : Nat → Nat → Bool) (w : World) (e : Ending) (w' : World) : Prop := ∃ D : List Nat, e = .returned (.tuple #[.int .i64 (D.length : Int), .int .i64 0]) ∧ VisT N f D ∧ 0 ∈ D ∧ Below w.heap.size w w'
set_option maxRecDepth 100000 in
theorem iDownOk (N : Nat) (hN : N ≤ 64) (l : Prs) (n : Nat) (hn : l.length = n) (hs : n ≤ 65536) (hc : acyR N l = true) (hK : ∀ D, VisT N (hasP l) D → D.length ≤ 65536)
    (A : Option Addr) (c : Nat) (w : World) (ha : Rp w A c l) (hT : Tbl w) :
    Calls Tryd.prog 13 #[relV N A n c] w (GivesD N (hasP l) w) := by
  obtain ⟨W, hW⟩ : ∃ W, w.alloc (.cells #[.int .i64 N, .slice A n c] 24) = W := ⟨_, rfl⟩
  have hbW : Below w.heap.size w W := by rw [← hW]; exact belowAlloc w _
  have HB0 : Hid (BoxR W w.heap.size N (.slice A n c)) := by rw [← hW]; exact Lib.hid (BoxR.new w N _)
  obtain ⟨z0, z1, _, _⟩ := HB0.out.facts
  have HC := Lib.hid (iAcyc N l n hn hs A c W (ha.below hbW))
  have HTW := Lib.hid (hT.below hbW)
  have HM := Lib.hid (fun (g : Nat) X (hX : FixG N (hasP l) (some ⟨g, 0, none⟩) N X) => iConts N hN (hasP l) (acyQ hc) hK (some ⟨g, 0, none⟩) N X hX)
  have HN := Lib.hid hc
  clear ha hn hs hc hT hK
  go_enter Tryd.func13, Tryd.ntmps13
  go_wp2_with fail
  refine HC.out.mono ?_
  rintro e w1 ⟨⟨h1, _⟩, hb1⟩
  obtain ⟨g, rfl, hB⟩ := h1 HN.out
  have HM1 := Lib.hid (HM.out g w1 ⟨HTW.out.below hb1, hB⟩)
  have HB1 := Lib.hid (belowThen hbW hb1)
  clear h1 hB hb1
  go_wp2_with fail
  refine HM1.out.mono ?_
  rintro e w2 ⟨q, D, rfl, hM, hV, h0, hb⟩
  have hlk := fun ty => hM.len ty
  have HX := Lib.hid (And.intro hV h0)
  clear hM hV h0
  go_wp2
  go_ret2
  exact ⟨D, rfl, HX.out.1, HX.out.2, belowThen HB1.out hb⟩
end Go.Proofs.YtjioiaeiggjneaaDoor
