/-
  The contract of All: too many extensions.
-/
import Derived.Test.YtjioiaeiggjneaaDoorKLinL
import Derived.Test.YtjioiaeiggjneaaDoorKLists
import Derived.Test.YtjioiaeiggjneaaDoorShelf
namespace Go.Proofs.YtjioiaeiggjneaaDoor
open Go Go.RowKit Go.Shelf
attribute [local go_sem] Oper.semAt_some
theorem entersExt : ∀ args w, (callFunc 27 args).run Tryd.prog w = .ok (.enter 27 args) w := enters_of Tryd.func27 (by kernel_rfl) rfl
theorem ownNC {W W' : World} {b B : Nat} {v : Value} {l : List Int} (h : OwnI W b v l) (hc : Chg W W' (fun q => ¬ NC W B q)) : OwnI W' b v l := ownChg h hc fun q hq hn => by
  obtain ⟨o, ho, hoc⟩ := ownCells h hq
  obtain ⟨_, o', ho', hoc'⟩ := hn
  rw [ho] at ho'; cases ho'; rw [hoc] at hoc'; cases hoc'
theorem befOther {W W' : World} {g b c N : Nat} {f : Nat → Nat → Bool} {T : TypeId} {v : Value} (h : Bef W (some ⟨g, 0, none⟩) c N f) (hB : Boxed W b T v) (hv : ∀ n, v ≠ .int .u64 n) (hc : Chg W W' (fun q => q ≠ b)) : Bef W' (some ⟨g, 0, none⟩) c N f :=
  ⟨h.le, h.max, fun hp => by
    obtain ⟨ad, e, lt, hcell⟩ := h.at_ hp
    have hne : ad.block ≠ b := fun eb => by
      rw [List.length_map, List.length_range] at hp
      have h1 := hcell 0 (.int .u64 (prdS N f 0)) (by rw [List.getElem?_map, List.getElem?_range hp]; rfl)
      injection e with e
      subst e
      have h2 := hB.cell
      have eb : g = b := eb
      subst eb
      have h3 : W.cell? ⟨g, 0, none⟩ = some (.int .u64 (prdS N f 0)) := h1
      rw [h2] at h3
      injection h3 with h3
      exact hv _ h3
    exact ⟨ad, e, Nat.lt_of_lt_of_le lt hc.size, fun j u hu => (World.cell?_of_block (by rw [adB]; exact hc.block _ lt hne)).trans (hcell j u hu)⟩⟩
/-- The variables of All while it counts. -/
structure CntSt (b f : Nat) (lim : Int) (n : Nat) (v : Value) (e : Int) (W : World) : Prop where
  hlim : Boxed W (b + 1) 3 (.int .i64 lim)
  res : Boxed W (b + 1 + 1) 37 v
  err : Boxed W (b + 1 + 1 + 1) 28 (.int .i64 e)
  found : Boxed W f 3 (.int .i64 n)
theorem CntSt.keep {b f n B : Nat} {lim e : Int} {v : Value} {W W' : World} (h : CntSt b f lim n v e W) (hc : ∀ q, q < B → W'.heap[q]? = W.heap[q]?) (h1 : b + 1 + 1 + 1 < B) (h2 : f < B) : CntSt b f lim n v e W' :=
  ⟨(hc _ (by omega)).trans h.hlim, (hc _ (by omega)).trans h.res, (hc _ h1).trans h.err, (hc _ h2).trans h.found⟩
set_option maxRecDepth 100000 in
set_option maxHeartbeats 2000000 in
theorem iAllMany (N : Nat) (hN : N ≤ 64) (l : Prs) (n : Nat) (hn : l.length = n) (hs : n ≤ 65536) (hc : acyR N l = true) (A : Option Addr) (c : Nat) (lim : Int) (hl1 : 1 ≤ lim) (hl2 : lim ≤ 1048576) (hm : lim < (exts N (hasP l) N 0).length) (w : World) (ha : Rp w A c l) (hT : Tbl w) :
    Calls Tryd.prog 12 #[relV N A n c, .int .i64 lim] w fun e w' => e = .returned (.tuple #[.slice none 0 0, .int .i64 4]) ∧ Below w.heap.size w w' := by
  obtain ⟨W, hW⟩ : ∃ W, (((w.alloc (.cells #[.int .i64 N, .slice A n c] 24)).alloc (.cells #[.int .i64 lim] 3)).alloc (.cells #[.slice none 0 0] 37)).alloc (.cells #[.int .i64 0] 28) = W := ⟨_, rfl⟩
  have hbW : Below w.heap.size w W := by rw [← hW]; exact (((belowAlloc w _).alloc (by simp) _).alloc (by simp; omega) _).alloc (by simp; omega) _
  have HB0 : Hid (BoxR W w.heap.size N (.slice A n c)) := by rw [← hW]; exact Lib.hid ((((BoxR.new w N _).alloc _).alloc _).alloc _)
  have p1 : Boxed W (w.heap.size + 1) 3 (.int .i64 lim) := by
    rw [← hW]
    have h := Boxed.new (w.alloc (.cells #[.int .i64 N, .slice A n c] 24)) 3 (.int .i64 lim)
    simp only [World.size_alloc] at h
    exact (h.alloc _).alloc _
  have p2 : Boxed W (w.heap.size + 1 + 1) 37 (.slice none 0 0) := by
    rw [← hW]
    have h := Boxed.new ((w.alloc (.cells #[.int .i64 N, .slice A n c] 24)).alloc (.cells #[.int .i64 lim] 3)) 37 (.slice none 0 0)
    simp only [World.size_alloc] at h
    exact h.alloc _
  have p3 : Boxed W (w.heap.size + 1 + 1 + 1) 28 (.int .i64 0) := by
    rw [← hW]
    have h := Boxed.new (((w.alloc (.cells #[.int .i64 N, .slice A n c] 24)).alloc (.cells #[.int .i64 lim] 3)).alloc (.cells #[.slice none 0 0] 37)) 28 (.int .i64 0)
    simp only [World.size_alloc] at h
    exact h
  obtain ⟨z0, z1, _, _⟩ := HB0.out.facts
  have HC := Lib.hid (iAcyc N l n hn hs A c W (ha.below hbW))
  have HN := Lib.hid hc
  have P2 := Lib.hid p2
  have P3 := Lib.hid p3
  have P1 := Lib.hid p1
  have HTB := Lib.hid hT.block
  have HT := Lib.hid (hT.below hbW)
  clear ha hn hs hc p1 p2 p3 hT
  refine (callsIn_wide (n := 8)).1 ?_
  refine callsIn_of_wp_marks Tryd.func12 rfl trivial ?_ rfl
  simp only [Tryd.ntmps12, List.size_toArray, List.length_cons, List.length_nil, Nat.reduceAdd, Nat.reduceSub, Array.replicate_succ, Array.replicate_zero, List.push_toArray, List.append_toArray, List.nil_append, List.cons_append]
  gi_wp2_with fail
  refine ⟨trivial, (callsIn_wide.2 HC.out).mono ?_⟩
  rintro e w1 ⟨⟨h2, _⟩, hb1⟩
  obtain ⟨g, rfl, hB⟩ := h2 HN.out
  have hf0 : FixG N (hasP l) (some ⟨g, 0, none⟩) N w1 := ⟨HT.out.below hb1, hB⟩
  clear hB
  have q1 : Boxed w1 (w.heap.size + 1) 3 (.int .i64 lim) := (hb1.block _ P1.out.lt).trans P1.out
  have kc1 := q1.cell
  have q2 : Boxed w1 (w.heap.size + 1 + 1) 37 (.slice none 0 0) := (hb1.block _ P2.out.lt).trans P2.out
  have q3 : Boxed w1 (w.heap.size + 1 + 1 + 1) 28 (.int .i64 0) := (hb1.block _ P3.out.lt).trans P3.out
  have hsz := hbW.size
  have e1 : decide (lim < 1) = false := by simpa using hl1
  have e2 : decide (lim > 1048576) = false := by simpa using hl2
  obtain ⟨V, hV⟩ : ∃ V, w1.alloc (.cells #[.int .i64 0] 3) = V := ⟨_, rfl⟩
  have hz1 : w.heap.size + 1 + 1 + 1 + 1 ≤ w1.heap.size := by have := q3.lt; omega
  have hzV : w1.heap.size < V.heap.size := by rw [← hV]; simp
  have hbV : Below w1.heap.size w1 V := by rw [← hV]; exact belowAlloc w1 _
  have r4 : Boxed V w1.heap.size 3 (.int .i64 0) := by rw [← hV]; exact Boxed.new w1 _ _
  have r1 : Boxed V (w.heap.size + 1) 3 (.int .i64 lim) := (hbV.block _ q1.lt).trans q1
  have r2 : Boxed V (w.heap.size + 1 + 1) 37 (.slice none 0 0) := (hbV.block _ q2.lt).trans q2
  have r3 : Boxed V (w.heap.size + 1 + 1 + 1) 28 (.int .i64 0) := (hbV.block _ q3.lt).trans q3
  have hfV : FixG N (hasP l) (some ⟨g, 0, none⟩) N V := hf0.keep hf0 (Chg.ofBelow hbV _)
  have hf1 : FixG N (hasP l) (some ⟨g, 0, none⟩) N w1 := hf0
  have HBV := Lib.hid (belowThen (belowThen hbW hb1) hbV)
  have HSQ := Lib.hid (extsS 7 N hN (hasP l) (some ⟨g, 0, none⟩) N V)
  have HV := Lib.hid hV
  clear hV
  gi_wp2
  rw [HV.out]
  refine rangeBoundS (F := Fence.wide) (n := 8) rfl (by omega) (gf := 27) (bd := #[.slice (some ⟨g, 0, none⟩) N N]) rfl trivial entersExt HSQ.out (Below.refl _ _) (fun x args X h => by obtain ⟨_, v, rfl, _⟩ := h; simp)
    (fun X Y h hc => hfV.keep h (hc.mono fun q hq hn => by have := hn.1; omega)) (fun x args X Y h hc => by obtain ⟨b, v, rfl, hr⟩ := h; exact ⟨b, v, rfl, ownNC hr hc⟩)
    (fun pre S X => (∀ q, S q → V.heap.size ≤ q) ∧ V.heap.size ≤ X.heap.size ∧ CntSt w.heap.size w1.heap.size lim pre.length (.slice none 0 0) 0 X ∧ Below w.heap.size w X ∧ (pre.length : Int) ≤ lim)
    (fun cd pre S X => cd = .ret ∧ (∀ q, S q → V.heap.size ≤ q) ∧ V.heap.size ≤ X.heap.size ∧ CntSt w.heap.size w1.heap.size lim pre.length (.slice none 0 0) 4 X ∧ Below w.heap.size w X)
    ?hI ?hIx ?h0 hfV (fun args => { tmps := #[relV (N : Int) A n c, .int .i64 lim, .pointer (some ⟨w.heap.size, 0, none⟩), .pointer (some ⟨w.heap.size + 1, 0, none⟩), .pointer (some ⟨w.heap.size + 1 + 1, 0, none⟩), .pointer (some ⟨w.heap.size + 1 + 1 + 1, 0, none⟩), .slice (some ⟨g, 0, none⟩) N N, .int .i64 0, .pointer (some ⟨w1.heap.size, 0, none⟩), undef, undef, .tuple #[.slice (some ⟨g, 0, none⟩) N N, .int .i64 0], .agg #[.int .i64 N, .slice A n c], .tuple #[.slice (some ⟨g, 0, none⟩) N N, .int .i64 0], .slice (some ⟨g, 0, none⟩) N N, .int .i64 0, .int .i64 0, .bool false, undef, .int .i64 lim, .bool false, .bool false, .int .i64 lim, .bool false, .bool false, .slice (some ⟨g, 0, none⟩) N N, .func (.func 27) #[.slice (some ⟨g, 0, none⟩) N N] #[], args.getD 0 undef, undef, undef, undef, undef, undef, undef, undef, undef, undef, undef, undef, undef, undef, undef, undef, undef], defers := [] }) ?assign ?body ?done ?stop
  case h0 => exact ⟨fun _ h => h.elim, Nat.le_refl _, ⟨r1, r2, r3, r4⟩, HBV.out, by simp; omega⟩
  case hI =>
    rintro pre S X Y ⟨s1, s2, s3, s4, s5⟩ hc
    have hq : ∀ q, q < V.heap.size → Y.heap[q]? = X.heap[q]? := fun q hq => hc.block q (by omega) ⟨fun h => by have := s1 q h; omega, fun h => by have := h.1; omega⟩
    exact ⟨fun q h => h.elim (s1 q) fun h => by omega, Nat.le_trans s2 hc.size, s3.keep hq (by omega) (by omega), ⟨hc.os.trans s4.os, hc.tape.trans s4.tape, hc.output.trans s4.output, Nat.le_trans s4.size hc.size, fun q hq2 => (hq q (by omega)).trans (s4.block q hq2)⟩, s5⟩
  case hIx =>
    rintro cd pre S X Y ⟨s0, s1, s2, s3, s4⟩ hc
    have hq : ∀ q, q < V.heap.size → Y.heap[q]? = X.heap[q]? := fun q hq => hc.block q (by omega) ⟨fun h => by have := s1 q h; omega, fun h => by have := h.1; omega⟩
    exact ⟨s0, fun q h => h.elim (s1 q) fun h => by omega, Nat.le_trans s2 hc.size, s3.keep hq (by omega) (by omega), ⟨hc.os.trans s4.os, hc.tape.trans s4.tape, hc.output.trans s4.output, Nat.le_trans s4.size hc.size, fun q hq2 => (hq q (by omega)).trans (s4.block q hq2)⟩⟩
  case assign =>
    intro lr args X K ha hK
    obtain ⟨v, rfl⟩ := Array.size_eq_one_iff.1 ha
    gi_wp2
    exact hK
  case done =>
    rintro R S X hR ⟨_, _, _, _, s5⟩ _ _
    omega
  case stop =>
    rintro R cd pre S X hR ⟨rfl, s1, s2, s3, s4⟩ _ hK
    have cZ : ∀ o', Chg X (X.putObj R o') (fun q => q ≠ R) := fun o' => ⟨rfl, rfl, rfl, by simp, fun q _ hq => World.putObj_heap_other hq⟩
    have HFIN : Hid (∀ o', CntSt w.heap.size w1.heap.size lim pre.length (.slice none 0 0) 4 (X.putObj R o') ∧ Below w.heap.size w (X.putObj R o')) := Lib.hid fun o' =>
      ⟨s3.keep (B := V.heap.size) (fun q hq => World.putObj_heap_other (by omega)) (by omega) (by omega), ⟨s4.os, s4.tape, s4.output, by simpa using s4.size, fun q hq => (World.putObj_heap_other (by omega)).trans (s4.block q hq)⟩⟩
    gi_wp2
    refine ⟨by simp, .inl ⟨_, _, rfl, run_takeDeferred hK, ?_⟩⟩
    obtain ⟨f1, f2⟩ := HFIN.out (.deferred none)
    exact ⟨_, resAll rfl rfl f1.res f1.err, rfl, f2⟩
  case body =>
    rintro lr pre x post S args X hL ⟨s1, s2, s3, s4, s5⟩ hg hA hlow
    obtain ⟨k, hk⟩ : ∃ k, pre.length = k := ⟨_, rfl⟩
    rw [hk] at s3 s5
    obtain ⟨k1, hk1⟩ : ∃ k1, k + 1 = k1 := ⟨_, rfl⟩
    have hk2 : (pre ++ [x]).length = k1 := by rw [List.length_append, hk, ← hk1]; rfl
    have hz3 : w1.heap.size < V.heap.size := by omega
    have hw : IntKind.i64.wrap ((k : Int) + 1) = (k1 : Int) := by rw [IntKind.wrap_i64]; omega
    obtain ⟨Y, hY⟩ : ∃ Y, X.setCell ⟨w1.heap.size, 0, none⟩ (.int .i64 (k1 : Int)) = Y := ⟨_, rfl⟩
    have cY : Chg X Y (fun q => q ≠ w1.heap.size) := by rw [← hY]; exact Chg.setCell X ⟨w1.heap.size, 0, none⟩ _
    have sY : CntSt w.heap.size w1.heap.size lim k1 (.slice none 0 0) 0 Y := by rw [← hY]; exact ⟨s3.hlim.other (by omega) _, s3.res.other (by omega) _, s3.err.other (by omega) _, s3.found.set _⟩
    have kY : KeepsFrom V.heap.size X Y := by rw [← hY]; exact (KeepsOthers.setCell X _ _).from _
    have gY : FixG N (hasP l) (some ⟨g, 0, none⟩) N Y := hf1.keep hg (cY.mono fun q hq => by omega)
    have bY : Below w.heap.size w Y := ⟨cY.os.trans s4.os, cY.tape.trans s4.tape, cY.output.trans s4.output, Nat.le_trans s4.size cY.size, fun q hq => (cY.block q (by have := s4.size; omega) (by omega)).trans (s4.block q hq)⟩
    have kf := s3.found.cell
    have ff := s3.found.frozen
    have kf2 := sY.found.cell
    have kl2 := sY.hlim.cell
    have kr := sY.res.cell
    have fr := sY.res.frozen
    by_cases hgt : lim < (k1 : Int)
    · have hd : decide ((k1 : Int) > lim) = true := by simpa using hgt
      obtain ⟨Z, hZ⟩ : ∃ Z, (Y.setCell ⟨w.heap.size + 1 + 1, 0, none⟩ (.slice none 0 0)) = Z := ⟨_, rfl⟩
      have cZ : Chg Y Z (fun q => q ≠ w.heap.size + 1 + 1) := by rw [← hZ]; exact Chg.setCell Y ⟨w.heap.size + 1 + 1, 0, none⟩ _
      have sZ : CntSt w.heap.size w1.heap.size lim k1 (.slice none 0 0) 0 Z := by rw [← hZ]; exact ⟨sY.hlim.other (by omega) _, sY.res.set _, sY.err.other (by omega) _, sY.found.other (by omega) _⟩
      have kZ : KeepsFrom V.heap.size Y Z := by rw [← hZ]; exact (KeepsOthers.setCell Y _ _).from _
      obtain ⟨T, hT2⟩ : ∃ T, (Z.setCell ⟨w.heap.size + 1 + 1 + 1, 0, none⟩ (.int .i64 4)) = T := ⟨_, rfl⟩
      have cT : Chg Z T (fun q => q ≠ w.heap.size + 1 + 1 + 1) := by rw [← hT2]; exact Chg.setCell Z ⟨w.heap.size + 1 + 1 + 1, 0, none⟩ _
      have sT : CntSt w.heap.size w1.heap.size lim k1 (.slice none 0 0) 4 T := by rw [← hT2]; exact ⟨sZ.hlim.other (by omega) _, sZ.res.other (by omega) _, sZ.err.set _, sZ.found.other (by omega) _⟩
      have kT : KeepsFrom V.heap.size Z T := by rw [← hT2]; exact (KeepsOthers.setCell Z _ _).from _
      have ke := sZ.err.cell
      have fe := sZ.err.frozen
      have c3 : Chg X T (fun q => V.heap.size ≤ q) := ((cY.mono (G := fun q => V.heap.size ≤ q) fun q h => by omega).trans (cZ.mono (G := fun q => V.heap.size ≤ q) fun q h => by omega) fun _ _ h => h).trans (cT.mono (G := fun q => V.heap.size ≤ q) fun q h => by omega) fun _ _ h => h
      have gZ : FixG N (hasP l) (some ⟨g, 0, none⟩) N Z := ⟨tblKeep gY.tbl (cZ.block _ gY.tbl.block (by have := HTB.out; omega)), befOther gY.bef sY.res (fun _ h => by cases h) cZ⟩
      have gT : FixG N (hasP l) (some ⟨g, 0, none⟩) N T := ⟨tblKeep gZ.tbl (cT.block _ gZ.tbl.block (by have := HTB.out; omega)), befOther gZ.bef sZ.err (fun _ h => by cases h) cT⟩
      have bT : Below w.heap.size w T := ⟨c3.os.trans s4.os, c3.tape.trans s4.tape, c3.output.trans s4.output, Nat.le_trans s4.size c3.size, fun q hq => (cT.block q (by have := s4.size; have := cY.size; have := cZ.size; omega) (by omega)).trans ((cZ.block q (by have := s4.size; have := cY.size; omega) (by omega)).trans (bY.block q hq))⟩
      have HFIN := Lib.hid (And.intro ((kY.trans kZ).trans kT) (And.intro sT (And.intro gT (And.intro bT (And.intro c3 c3.size)))))
      clear kY kZ kT sT gT gZ bT c3 cY cZ cT gY bY sY sZ s3 s4
      gi_wp2
      refine ⟨HFIN.out.1, ⟨rfl, s1, ?_, ?_, HFIN.out.2.2.2.1⟩, HFIN.out.2.2.1, HFIN.out.2.2.2.2.1.mono fun q hq => s1 q hq⟩
      · have := HFIN.out.2.2.2.2.2; omega
      · rw [hk2]; exact HFIN.out.2.1
    · have hd : decide ((k1 : Int) > lim) = false := by simpa using hgt
      have HFIN := Lib.hid (And.intro kY (And.intro sY (And.intro gY (And.intro bY cY))))
      have hzY := cY.size
      clear kY sY gY bY cY s3 s4
      gi_wp2
      refine ⟨HFIN.out.1, ⟨HFIN.out.2.2.1, HFIN.out.2.2.2.2.mono fun q hq => by have := s1 q hq; omega⟩, s1, by omega, ?_, HFIN.out.2.2.2.1, ?_⟩
      · rw [hk2]; exact HFIN.out.2.1
      · rw [hk2]; omega
end Go.Proofs.YtjioiaeiggjneaaDoor

namespace Go.Proofs.YtjioiaeiggjneaaDoor
open Go Go.RowKit Go.Shelf

theorem iClone (l : List Int) (hl : l.length ≤ 65536) (b : Nat) (v : Value) (w : World) (h : OwnI w b v l) : Calls Tryd.prog 28 #[v] w fun e w' => ∃ v', e = .returned v' ∧ OwnI w' w.heap.size v' l ∧ Below w.heap.size w w' := by
  rcases h.2 with ⟨rfl, h0⟩ | ⟨g, cap, cur, rfl, hb, hg, hc, hm, hs, ht⟩
  · have e : l = [] := List.eq_nil_of_length_eq_zero h0
    subst e
    refine (Tryd.slices_Clone_int_nil 0 0 w).mono ?_
    rintro e w' ⟨rfl, rfl⟩
    exact ⟨_, rfl, OwnI.nil _ _, Below.refl _ _⟩
  · refine (Tryd.slices_Clone_int g 0 l.length cap l w (Nat.le_refl _) (by omega) fun j hj => ?_).mono ?_
    · have h1 := World.ownsRow.cellAt h j (by omega)
      rw [Nat.zero_add, h1]
      unfold iv
      rw [List.getElem?_map, List.getElem?_eq_getElem hj, List.getD_eq_getElem?_getD, List.getElem?_eq_getElem hj]
      rfl
    · rintro e w' ⟨v', rfl, h1, _, h3⟩
      rw [List.take_length] at h1
      exact ⟨v', rfl, h1, h3⟩
theorem IsL.cells {w : World} {base : Nat} {F : Nat → Prop} : ∀ {vs : List Value} {ls : List (List Int)}, IsL w base F vs ls → IsL w base (fun g => F g ∧ g < w.heap.size ∧ ∃ o : Obj, w.heap[g]? = some o ∧ o.isCells = true) vs ls
  | [], [], _ => trivial
  | _ :: _, _ :: _, h => ⟨h.1, fun g hg => ⟨h.2.1 g hg, (h.1.lt hg).2, ownCells h.1 hg⟩, IsL.cells h.2.2⟩
/-- What All has collected: an owned row of owned rows, none of them in S. -/
structure ColSt (base q : Nat) (S : Nat → Prop) (v : Value) (vs : List Value) (ls : List (List Int)) (W : World) : Prop where
  box : Boxed W q 37 v
  row : OwnL W base v vs
  off : ∀ g, v.ownBlock = some g → ¬ S g
  els : IsL W base (fun g => ¬ S g) vs ls
theorem ColSt.keep {base q B : Nat} {S : Nat → Prop} {v : Value} {vs : List Value} {ls : List (List Int)} {A A' : World} (h : ColSt base q S v vs ls A) (hq : ¬ S q) (hc : Chg A A' (fun q => ¬ S q ∧ ¬ NC A B q)) : ColSt base q (joinS S A A') v vs ls A' := by
  have hnc : ∀ g, (∃ o : Obj, A.heap[g]? = some o ∧ o.isCells = true) → ¬ NC A B g := fun g ⟨o, ho, hoc⟩ ⟨_, o', ho', hoc'⟩ => by rw [ho] at ho'; cases ho'; rw [hoc] at hoc'; cases hoc'
  have hnj : ∀ g, ¬ S g → g < A.heap.size → ¬ joinS S A A' g := fun g h1 h2 h3 => h3.elim h1 fun h => by omega
  refine ⟨(hc.block _ h.box.lt ⟨hq, hnc _ ⟨_, h.box, rfl⟩⟩).trans h.box, h.row.chg hc fun g hg => ⟨h.off g hg, hnc g (ownCells h.row hg)⟩, fun g hg => hnj g (h.off g hg) (World.ownsRow.lt h.row g hg).2, ?_⟩
  exact ((h.els.cells).chg (G := fun g => ¬ S g ∧ ¬ NC A B g) hc fun g h1 _ => ⟨h1.1, hnc g h1.2.2⟩).mono fun g h1 => hnj g h1.1 h1.2.1
end Go.Proofs.YtjioiaeiggjneaaDoor
