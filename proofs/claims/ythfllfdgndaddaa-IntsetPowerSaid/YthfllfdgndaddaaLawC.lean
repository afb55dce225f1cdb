/-
  The contract of the reference's Subsets, and the law IntsetSubsets: both sides list the same sets.
-/
import Derived.Test.YthfllfdgndaddaaGrow
import Derived.Test.YthfllfdgndaddaaLawA
namespace Go.Proofs.Ythfllfdgndaddaa
open Go.RowKit

/-- The lists that the reference keeps: the sets of length j, and all shorter ones. -/
structure SubRel (base : Nat) (s : List Int) (j i : Nat) (lev : Value) (vl : List Value) (out : Value) (vo : List Value) (w w' : World) : Prop where
  hlev : OwnL w' base lev vl
  hels : IsL w' base (fun _ => True) vl (combos s j)
  hout : OwnL w' base out vo
  houts : IsL w' base (fun _ => True) vo (upTo s i)
  hap : ∀ g, out.ownBlock = some g → lev.ownBlock ≠ some g
  hbel : Below base w w'

theorem OwnL.lit (w : World) (v : Value) (base : Nat) (h : base ≤ w.heap.size) : OwnL (w.alloc (.cells #[v] 22)) base (.slice (some ⟨w.heap.size, 0, none⟩) 1 1) [v] :=
  ⟨by simp, .inr ⟨w.heap.size, 1, #[v], rfl, h, heap_alloc_new w _, Nat.le_refl _, by simp [maxLen], rfl, rfl⟩⟩
theorem OwnL.alloc {w : World} {base : Nat} {v : Value} {vs : List Value} (h : OwnL w base v vs) (o : Obj) : OwnL (w.alloc o) base v vs := h.chg (Chg.alloc w o fun _ => True) fun _ _ => trivial
theorem IsL.alloc {w : World} {base : Nat} {F : Nat → Prop} {vs : List Value} {ls : List (List Int)} (h : IsL w base F vs ls) (o : Obj) : IsL (w.alloc o) base F vs ls := h.chg (Chg.alloc w o fun _ => True) fun _ _ _ => trivial

theorem subStart (s : List Int) (w : World) (base : Nat) (hb : base ≤ w.heap.size) : SubRel base s 0 0 (.slice (some ⟨w.heap.size + 1, 0, none⟩) 1 1) [.slice (some ⟨w.heap.size, 0, none⟩) 0 0] (.slice (some ⟨w.heap.size + 2, 0, none⟩) 0 0) [] w
    (((w.alloc (.cells #[] 3)).alloc (.cells #[.slice (some ⟨w.heap.size, 0, none⟩) 0 0] 22)).alloc (.cells #[] 22)) := by
  have e : ∀ (w : World) (o : Obj), (w.alloc o).heap.size = w.heap.size + 1 := fun w o => by simp
  have h1 := OwnI.made w base hb
  have h2 := OwnL.lit (w.alloc (.cells #[] 3)) (.slice (some ⟨w.heap.size, 0, none⟩) 0 0) base (by rw [e]; omega)
  have h3 := OwnL.made ((w.alloc (.cells #[] 3)).alloc (.cells #[.slice (some ⟨w.heap.size, 0, none⟩) 0 0] 22)) base (by rw [e, e]; omega)
  rw [e] at h2
  rw [e, e] at h3
  refine ⟨h2.alloc _, ?_, h3, trivial, ?_, ?_⟩
  · rw [combosZero]
    exact ⟨((h1.alloc _).alloc _), fun _ _ => trivial, trivial⟩
  · intro g hg hg'
    simp [Value.ownBlock] at hg hg'
    omega
  · exact (((Below.refl base w).alloc hb _).alloc (by rw [e]; omega) _).alloc (by rw [e, e]; omega) _

theorem subAppend {base : Nat} {s : List Int} {j : Nat} {lev out v1 : Value} {vl vo : List Value} {w wr w1 : World} (h : SubRel base s j j lev vl out vo w wr) (hb : base ≤ wr.heap.size)
    (o1 : OwnL w1 base v1 (vo ++ vl)) (g1 : wr.grownBy w1 out.ownBlock) (m1 : Moved wr out v1 vo.length vl.length) : SubRel base s j (j + 1) lev vl v1 (vo ++ vl) w w1 := by
  have c1 : Chg wr w1 (fun g => out.ownBlock ≠ some g) := Chg.ofGrown g1 fun _ h => h
  refine ⟨h.hlev.chg c1 fun g hg e => h.hap g e hg, ((h.hels.apart h.hout).chg c1 fun g hg _ => hg.2).mono fun _ _ => trivial, o1, ?_, fun g hg hg' => ?_, h.hbel.trans ⟨c1.os, c1.tape, c1.output, c1.size, fun k hk => c1.block k (by omega) fun e => ?_⟩⟩
  · exact IsL.append (((h.houts.apart h.hout).chg c1 fun g hg _ => hg.2).mono fun _ _ => trivial) (((h.hels.apart h.hout).chg c1 fun g hg _ => hg.2).mono fun _ _ => trivial)
  · rcases movedBlock m1 with e | e
    · rw [e] at hg; exact h.hap g hg hg'
    · rw [e] at hg; injection hg with hg
      have := (World.ownsRow.lt h.hlev g hg').2
      omega
  · have := (World.ownsRow.lt h.hout k e).1
    omega
theorem subGrow {base : Nat} {s : List Int} {j : Nat} {lev out v2 : Value} {vl vo vs2 : List Value} {w w1 w2 : World} (h : SubRel base s j (j + 1) lev vl out vo w w1) (hb : base ≤ w1.heap.size)
    (o2 : OwnL w2 w1.heap.size v2 vs2) (i2 : IsL w2 w1.heap.size (fun _ => True) vs2 (combos s (j + 1))) (b2 : Below w1.heap.size w1 w2) : SubRel base s (j + 1) (j + 1) v2 vs2 out vo w w2 := by
  have c1 : Chg w1 w2 (fun _ => True) := Chg.ofBelow b2 _
  refine ⟨ownMono o2 hb, i2.base' hb, h.hout.chg c1 fun _ _ => trivial, h.houts.chg c1 fun _ _ _ => trivial, fun g hg hg' => ?_, h.hbel.trans (b2.mono hb)⟩
  have h1 := (World.ownsRow.lt h.hout g hg).2
  have h2 := (World.ownsRow.lt o2 g hg').1
  omega

theorem combosBound {s : List Int} {k : Nat} (h : s.length ≤ 12) : (combos s k).length ≤ 4096 := by
  have h1 := lenCombosLe s k
  have h2 : (2 : Nat) ^ s.length ≤ 2 ^ 12 := Nat.pow_le_pow_right (by omega) h
  omega

set_option maxHeartbeats 1000000 in
theorem rSubsetsNo (l : List Int) (n : Nat) (hn : l.length = n) (hs : n ≤ 65536) (hbig : 12 < (mk l).length) (A : Option Addr) (c : Nat) (w : World) (ha : Rd w A c l) :
    Calls Try.prog 30 #[.slice A n c] w (GivesLs [] 4 w) := by
  have HA := Lib.hid ha; clear ha
  have HN := Lib.hid hn; clear hn
  have HL := lenMk l
  rw [HN.out] at HL
  obtain ⟨s, hsm⟩ : ∃ s, mk l = s := ⟨_, rfl⟩
  rw [hsm] at hbig HL
  have HS := Lib.hid hsm; clear hsm
  go_enter Try.func30, Try.ntmps30
  go_wp2_with fail
  refine (rMakeN' l n HN.out s HS.out hs A c _ HA.out).mono ?_
  rintro e w1 ⟨A1, c1, rfl, r1, b1⟩
  go_wp2
  go_ret2
  exact ⟨_, [], rfl, OwnL.nil _ _, trivial, b1⟩

set_option maxHeartbeats 2000000 in
theorem rSubsetsYes (l s : List Int) (hs' : mk l = s) (n : Nat) (hn : l.length = n) (hs : n ≤ 65536) (hbig : s.length ≤ 12) (A : Option Addr) (c : Nat) (w : World) (ha : Rd w A c l) :
    Calls Try.prog 30 #[.slice A n c] w (GivesLs (upTo s (s.length + 1)) 0 w) := by
  have HA := Lib.hid ha; clear ha
  have HN := Lib.hid hn; clear hn
  have HSR : Hid (Srt s) := by rw [← hs']; exact srtMk l
  have HS := Lib.hid hs'; clear hs'
  go_enter Try.func30, Try.ntmps30
  go_wp2_with fail
  refine (rMakeN' l n HN.out s HS.out hs A c _ HA.out).mono ?_
  rintro e w1 ⟨A1, c1, rfl, r1, b1⟩
  obtain ⟨m, hm⟩ : ∃ m, s.length = m := ⟨_, rfl⟩
  rw [hm] at hbig ⊢
  have HM := Lib.hid hm; clear hm
  have R1 := Lib.hid r1; clear r1
  have REL0 := Lib.hid (subStart s w1 w1.heap.size (Nat.le_refl _))
  go_wp2
  go_loopw [5, 6, 7] (fun lev out i wr => ∃ (j : Nat) (vl vo : List Value), j ≤ m + 1 ∧ i = .int .i64 j ∧ Hid (SubRel w1.heap.size s j j lev vl out vo w1 wr)) (fun _ _ i _ => m + 1 - (intOf i).toNat)
  case atStart => exact ⟨0, _, _, Nat.zero_le _, rfl, REL0⟩
  case round =>
    clear REL0
    obtain ⟨j, vl, vo, hj, rfl, REL⟩ := hrel
    by_cases hlt : j < m + 1
    · have hb12 : s.length ≤ 12 := by rw [HM.out]; exact hbig
      have hbr := REL.out.hbel.size
      obtain ⟨AL, cl, rfl, hrl, _⟩ := REL.out.hlev.rds
      have hvl : vl.length ≤ 4096 := by rw [REL.out.hels.len]; exact combosBound hb12
      have hvo : vo.length ≤ 1000000 := by rw [REL.out.houts.len]; exact upToBound hb12 (by omega)
      obtain ⟨nl, hnl⟩ : ∃ nl, vl.length = nl := ⟨_, rfl⟩
      have hvl' := hvl
      rw [hnl] at REL ⊢ hvl'
      have HNL := Lib.hid hnl; clear hnl
      go_wp2_with (first
        | (at_builtin; refine appL _ rfl (.tmp 22) (.tmp 23) rfl w1.heap.size _ _ rfl REL.out.hout AL nl cl vl rfl HNL.out.symm hrl REL.out.hels.oneCell (by omega) hbr ?_; intro v2 w2 o2 g2 m2)
        | fail)
      have m2' := m2
      rw [← HNL.out] at m2'
      have REL1 := Lib.hid (subAppend REL.out hbr o2 g2 m2')
      clear m2 m2' g2 o2
      have hb2 : w1.heap.size ≤ w2.heap.size := REL1.out.hbel.size
      obtain ⟨AL', cl', e', rl⟩ := RdL.ofOwn REL1.out.hlev REL1.out.hels
      have hAL : AL' = AL ∧ cl' = cl := by injection e' with e1 _ e3; exact ⟨e1.symm, e3.symm⟩
      obtain ⟨rfl, rfl⟩ := hAL
      refine (rGrow (combos s j) s nl m (by rw [← HNL.out, REL1.out.hels.len]) HM.out _ (growCombos HSR.out) (by have := combosBound (k := j + 1) hb12; omega) (fun x hx => by rw [lenOfCombo hx]; omega) AL' A1 cl' c1 _ rl (R1.out.below REL1.out.hbel)).mono ?_
      rintro e w3 ⟨v3, vs3, rfl, o3, i3, b3⟩
      have REL2 := Lib.hid (subGrow REL1.out hb2 o3 i3 b3)
      clear o3 i3 b3 rl e'
      go_wp2
      go_roundw
      case rel => exact ⟨j + 1, vs3, _, by omega, by go_num, REL2⟩
      case measure => simp [intOf]; omega
    · obtain rfl : j = m + 1 := by omega
      go_wp2
      go_ret2
      rw [HM.out]
      exact ⟨_, vo, rfl, ownMono REL.out.hout b1.size, REL.out.houts.base' b1.size, belowThen b1 REL.out.hbel⟩

theorem GivesLs.rd {ls : List (List Int)} {err : Int} {w w' : World} {e : Ending} (h : GivesLs ls err w e w') : ∃ A c, e = .returned (.tuple #[.slice A ls.length c, .int .i64 err]) ∧ RdL w' A c ls ∧ Below w.heap.size w w' := by
  obtain ⟨v, vs, rfl, o, i, b⟩ := h
  obtain ⟨A, c, rfl, r⟩ := RdL.ofOwn o i
  exact ⟨A, c, rfl, r, b⟩

theorem bothSubsets (l : List Int) : ∃ (ls : List (List Int)) (err : Int) (N : Nat), ls.length = N ∧
    (∀ (n : Nat) (_ : l.length = n) (_ : n ≤ 65536) (A : Option Addr) (c : Nat) (w : World) (_ : Rd w A c l), Calls Try.prog 29 #[.slice A n c] w fun e w' => ∃ A c, e = .returned (.tuple #[.slice A N c, .int .i64 err]) ∧ RdL w' A c ls ∧ Below w.heap.size w w') ∧
    (∀ (n : Nat) (_ : l.length = n) (_ : n ≤ 65536) (A : Option Addr) (c : Nat) (w : World) (_ : Rd w A c l), Calls Try.prog 30 #[.slice A n c] w fun e w' => ∃ A c, e = .returned (.tuple #[.slice A N c, .int .i64 err]) ∧ RdL w' A c ls ∧ Below w.heap.size w w') := by
  by_cases h : (mk l).length ≤ 12
  · exact ⟨upTo (mk l) ((mk l).length + 1), 0, _, rfl, fun n hn hs A c w ha => (iSubsetsYes l _ rfl n hn hs h A c w ha).mono fun _ _ h => h.rd, fun n hn hs A c w ha => (rSubsetsYes l _ rfl n hn hs h A c w ha).mono fun _ _ h => h.rd⟩
  · exact ⟨[], 4, _, rfl, fun n hn hs A c w ha => (iSubsetsNo l n hn hs (by omega) A c w ha).mono fun _ _ h => h.rd, fun n hn hs A c w ha => (rSubsetsNo l n hn hs (by omega) A c w ha).mono fun _ _ h => h.rd⟩

set_option maxHeartbeats 2000000 in
theorem lawSubsets (l : List Int) (n : Nat) (hn : l.length = n) (A : Option Addr) (c : Nat) (w : World) (ha : Rd w A c l) :
    Calls Try.prog 6 #[.slice A n c] w (LawOk w) := by
  have HA := Lib.hid ha; clear ha
  have HN := Lib.hid hn; clear hn
  by_cases hs : n ≤ 30
  · obtain ⟨ls, err, N, hN, hi, hr⟩ := bothSubsets l
    have HI := Lib.hid hi; clear hi
    have HRR := Lib.hid hr; clear hr
    have HNN := Lib.hid hN; clear hN
    go_enter Try.func6, Try.ntmps6
    go_wp2_with fail
    refine (HI.out n HN.out (by omega) A c _ HA.out).mono ?_
    rintro e w1 ⟨A1, c1, rfl, r1, b1⟩
    go_wp2_with fail
    refine (HRR.out n HN.out (by omega) A c _ (HA.out.below b1)).mono ?_
    rintro e w2 ⟨A2, c2, rfl, r2, b2⟩
    go_wp2_with fail
    refine (awakeOk _).mono ?_
    rintro e w3 ⟨rfl, b3⟩
    go_wp2_with fail
    refine (rLists ls N HNN.out A1 A2 c1 c2 _ (r1.below (belowThen b2 b3)) (r2.below b3)).mono ?_
    rintro e w' ⟨rfl, q, rfl⟩
    go_wp2
    go_ret
    exact ⟨by simp, belowThen b1 (belowThen b2 (belowThen b3 (belowN w3 q)))⟩
  · go_enter Try.func6, Try.ntmps6
    go_wp2_with fail
    refine (awakeOk _).mono ?_
    rintro e w1 ⟨rfl, b1⟩
    go_wp2
    go_ret
    exact ⟨rfl, b1⟩
end Go.Proofs.Ythfllfdgndaddaa
