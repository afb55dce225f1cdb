/-
  The contract of Rank.
-/
import Derived.Test.YtjioiaeiggjneaaDoorKRkS
import Derived.Test.YtjioiaeiggjneaaDoorKCnt
import Derived.Test.YtjioiaeiggjneaaDoorKLinW
namespace Go.Proofs.YtjioiaeiggjneaaDoor
open Go Go.RowKit Go.Shelf
attribute [local go_sem] Oper.semAt_some

set_option maxRecDepth 100000 in
theorem iRankNo (N : Int) (l : Prs) (n : Nat) (hn : l.length = n) (hs : n ≤ 65536) (hc : acyR N l = false) (A : Option Addr) (c : Nat) (B : Option Addr) (m d : Nat) (w : World) (ha : Rp w A c l) :
    Calls Tryd.prog 6 #[relV N A n c, .slice B m d] w fun e w' => e = .returned (.tuple #[.int .i64 0, .int .i64 (errA N l)]) ∧ Below w.heap.size w w' := by
  obtain ⟨W, hW⟩ : ∃ W, w.alloc (.cells #[.int .i64 N, .slice A n c] 24) = W := ⟨_, rfl⟩
  have hbW : Below w.heap.size w W := by rw [← hW]; exact belowAlloc w _
  have HB0 : Hid (BoxR W w.heap.size N (.slice A n c)) := by rw [← hW]; exact Lib.hid (BoxR.new w N _)
  obtain ⟨z0, z1, _, _⟩ := HB0.out.facts
  have HC := Lib.hid (iAcyc N l n hn hs A c W (ha.below hbW))
  obtain ⟨k, hk⟩ : ∃ k, errA N l = k := ⟨_, rfl⟩
  obtain ⟨hk0, hk1⟩ := errNz hc
  rw [hk] at hk0 hk1 ⊢
  have HK := Lib.hid hk
  have HN := Lib.hid hc
  clear ha hn hs hc hk
  refine (callsIn_wide (n := 8)).1 ?_
  refine callsIn_of_wp_marks Tryd.func6 rfl trivial ?_ rfl
  simp only [Tryd.ntmps6, List.size_toArray, List.length_cons, List.length_nil, Nat.reduceAdd, Nat.reduceSub, Array.replicate_succ, Array.replicate_zero, List.push_toArray, List.append_toArray, List.nil_append, List.cons_append]
  gi_wp2_with fail
  refine ⟨trivial, (callsIn_wide.2 HC.out).mono ?_⟩
  rintro e w1 ⟨⟨_, h2⟩, hb1⟩
  obtain rfl := h2 HN.out
  rw [HK.out]
  gi_wp2
  exact ⟨_, results_tmp2 rfl _ _ _, rfl, belowThen hbW hb1⟩
set_option maxRecDepth 100000 in
set_option maxHeartbeats 1000000 in
theorem iRankNone (N : Nat) (hN : N ≤ 64) (l : Prs) (n : Nat) (hn : l.length = n) (hs : n ≤ 65536) (hc : acyR N l = true) (o : List Int) (m : Nat) (hm : o.length = m) (hal : allowB N (hasP l) o = false) (A : Option Addr) (c : Nat) (B : Option Addr) (d : Nat) (w : World) (ha : Rp w A c l) (hT : Tbl w) (ho : Rd w B d o) :
    Calls Tryd.prog 6 #[relV N A n c, .slice B m d] w fun e w' => e = .returned (.tuple #[.int .i64 0, .int .i64 5]) ∧ Below w.heap.size w w' := by
  obtain ⟨W, hW⟩ : ∃ W, w.alloc (.cells #[.int .i64 N, .slice A n c] 24) = W := ⟨_, rfl⟩
  have hbW : Below w.heap.size w W := by rw [← hW]; exact belowAlloc w _
  have HB0 : Hid (BoxR W w.heap.size N (.slice A n c)) := by rw [← hW]; exact Lib.hid (BoxR.new w N _)
  obtain ⟨z0, z1, _, _⟩ := HB0.out.facts
  have HC := Lib.hid (iAcyc N l n hn hs A c W (ha.below hbW))
  have HAL := Lib.hid (fun (g : Nat) X (hX : Below W.heap.size W X) (hB : Bef X (some ⟨g, 0, none⟩) N N (hasP l)) => hal ▸ iAllow N hN (hasP l) (some ⟨g, 0, none⟩) N o m hm B d X hB ((hT.below hbW).below hX) ((ho.below hbW).below hX))
  have HN := Lib.hid hc
  clear ha hn hs hc hT ho hm hal
  refine (callsIn_wide (n := 8)).1 ?_
  refine callsIn_of_wp_marks Tryd.func6 rfl trivial ?_ rfl
  simp only [Tryd.ntmps6, List.size_toArray, List.length_cons, List.length_nil, Nat.reduceAdd, Nat.reduceSub, Array.replicate_succ, Array.replicate_zero, List.push_toArray, List.append_toArray, List.nil_append, List.cons_append]
  gi_wp2_with fail
  refine ⟨trivial, (callsIn_wide.2 HC.out).mono ?_⟩
  rintro e w1 ⟨⟨h1, _⟩, hb1⟩
  obtain ⟨g, rfl, hB⟩ := h1 HN.out
  have HA1 := Lib.hid (HAL.out g w1 hb1 hB)
  have HB1 := Lib.hid (belowThen hbW hb1)
  clear h1 hB hb1
  gi_wp2_with fail
  refine ⟨trivial, (callsIn_wide.2 HA1.out).mono ?_⟩
  rintro e w2 ⟨rfl, hb2⟩
  gi_wp2
  exact ⟨_, results_tmp2 rfl _ _ _, rfl, belowThen HB1.out hb2⟩
set_option maxRecDepth 100000 in
set_option maxHeartbeats 1000000 in
theorem iRankOk (N : Nat) (hN : N ≤ 64) (l : Prs) (n : Nat) (hn : l.length = n) (hs : n ≤ 65536) (hc : acyR N l = true) (hK : ∀ D, VisT N (hasP l) D → D.length ≤ 65536) (hw : ways N (hasP l) N 0 ≤ 9223372036854775807)
    (o : List Int) (m : Nat) (hm : o.length = m) (hal : allowB N (hasP l) o = true) (A : Option Addr) (c : Nat) (B : Option Addr) (d : Nat) (w : World) (ha : Rp w A c l) (hT : Tbl w) (ho : Rd w B d o) :
    Calls Tryd.prog 6 #[relV N A n c, .slice B m d] w fun e w' => e = .returned (.tuple #[.int .i64 (rnk N (hasP l) N 0 (nats o) : Int), .int .i64 0]) ∧ Below w.heap.size w w' := by
  obtain ⟨W, hW⟩ : ∃ W, w.alloc (.cells #[.int .i64 N, .slice A n c] 24) = W := ⟨_, rfl⟩
  have hbW : Below w.heap.size w W := by rw [← hW]; exact belowAlloc w _
  have HB0 : Hid (BoxR W w.heap.size N (.slice A n c)) := by rw [← hW]; exact Lib.hid (BoxR.new w N _)
  obtain ⟨z0, z1, _, _⟩ := HB0.out.facts
  have HC := Lib.hid (iAcyc N l n hn hs A c W (ha.below hbW))
  have HAL := Lib.hid (fun (g : Nat) X (hX : Below W.heap.size W X) (hB : Bef X (some ⟨g, 0, none⟩) N N (hasP l)) => hal ▸ iAllow N hN (hasP l) (some ⟨g, 0, none⟩) N o m hm B d X hB ((hT.below hbW).below hX) ((ho.below hbW).below hX))
  have HM := Lib.hid (fun (g : Nat) X (hX : FixG N (hasP l) (some ⟨g, 0, none⟩) N X) => iCountM N hN (hasP l) (acyQ hc) hK hw (some ⟨g, 0, none⟩) N X hX)
  have hal2 : o.length = N ∧ okI N (hasP l) 0 o = true := by
    unfold allowB at hal
    rwa [Bool.and_eq_true, decide_eq_true_iff] at hal
  have HOK := Lib.hid hal2
  have hmN : m = N := hm.symm.trans hal2.1
  subst hmN
  have HTW := Lib.hid (hT.below hbW)
  have HRO := Lib.hid (fun X (hX : Below W.heap.size W X) => (ho.below hbW).below hX)
  have HN := Lib.hid hc
  have HL := Lib.hid hm
  have HWY := Lib.hid hw
  have hle := ho.le
  have hmx : d ≤ 9223372036854775807 := ho.max
  rw [hm] at hle
  clear ha hn hs hc hT ho hm hal hal2 hK hw
  refine (callsIn_wide (n := 8)).1 ?_
  refine callsIn_of_wp_marks Tryd.func6 rfl trivial ?_ rfl
  simp only [Tryd.ntmps6, List.size_toArray, List.length_cons, List.length_nil, Nat.reduceAdd, Nat.reduceSub, Array.replicate_succ, Array.replicate_zero, List.push_toArray, List.append_toArray, List.nil_append, List.cons_append]
  gi_wp2_with fail
  refine ⟨trivial, (callsIn_wide.2 HC.out).mono ?_⟩
  rintro e w1 ⟨⟨h1, _⟩, hb1⟩
  obtain ⟨g, rfl, hB⟩ := h1 HN.out
  have HA1 := Lib.hid (HAL.out g w1 hb1 hB)
  have HB1 := Lib.hid (belowThen hbW hb1)
  have HF1 := Lib.hid (show FixG m (hasP l) (some ⟨g, 0, none⟩) m w1 from ⟨HTW.out.below hb1, hB⟩)
  have HR1 := Lib.hid (HRO.out w1 hb1)
  clear h1 hB hb1
  gi_wp2_with fail
  refine ⟨trivial, (callsIn_wide.2 HA1.out).mono ?_⟩
  rintro e w2 ⟨rfl, hb2⟩
  have HF2 := Lib.hid (HF1.out.keep HF1.out (Chg.ofBelow hb2 _))
  have HM2 := Lib.hid (HM.out g w2 HF2.out)
  have HB2 := Lib.hid (belowThen HB1.out hb2)
  have HR2 := Lib.hid (HR1.out.below hb2)
  clear hb2
  gi_wp2_with fail
  refine ⟨trivial, (callsIn_wide.2 HM2.out).mono ?_⟩
  rintro e w3 ⟨q, D, rfl, hM, hV, h0, hb3⟩
  have HF3 := Lib.hid (HF2.out.keep HF2.out (Chg.ofBelow hb3 _))
  have HR3 := Lib.hid (HR2.out.below hb3)
  have HB3 := Lib.hid (belowThen HB2.out hb3)
  have HMD := Lib.hid (And.intro hM (And.intro hV h0))
  clear hM hV h0 hb3
  obtain ⟨V, hV⟩ : ∃ V, ((w3.alloc (.cells #[.map (some q)] 47)).alloc (.cells #[.int .i64 0] 3)).alloc (.cells #[.int .u64 0] 51) = V := ⟨_, rfl⟩
  have HV : Hid (RkB w3 q 0 0 V) := by rw [← hV]; exact Lib.hid (rkNew w3 q)
  have HVE := Lib.hid hV
  clear hV
  gi_wp2_with fail
  rw [HVE.out]
  obtain ⟨INV, hINV⟩ : ∃ INV : Act → World → Prop, INV = (fun a' w' => ∃ (u : Nat → Value) (Ds : List Nat) (k s r : Nat), a' = { tmps := #[relV (m : Int) A n c, .slice B m d, .pointer (some ⟨w.heap.size, 0, none⟩), undef, .int .i64 0, .int .i64 0, .slice (some ⟨g, 0, none⟩) m m, .int .i64 0, .pointer (some ⟨w3.heap.size, 0, none⟩), .pointer (some ⟨w3.heap.size + 1, 0, none⟩), .pointer (some ⟨w3.heap.size + 1 + 1, 0, none⟩), u 11, u 12, u 13, .tuple #[.slice (some ⟨g, 0, none⟩) m m, .int .i64 0], .agg #[.int .i64 (m : Int), .slice A n c], .tuple #[.slice (some ⟨g, 0, none⟩) m m, .int .i64 0], .slice (some ⟨g, 0, none⟩) m m, .int .i64 0, .int .i64 0, .bool false, undef, .slice (some ⟨g, 0, none⟩) m m, .slice B m d, .bool true, .bool false, .tuple #[.map (some q), .int .i64 0], .slice (some ⟨g, 0, none⟩) m m, .tuple #[.map (some q), .int .i64 0], .map (some q), .int .i64 0, .int .i64 0, .bool false, undef, .slice B m d, .int .i64 (m : Int), .int .i64 (k : Int), u 37, u 38, u 39, u 40, u 41, u 42, u 43, u 44, u 45, u 46, u 47, u 48, u 49, u 50, u 51, u 52, u 53, u 54, u 55, u 56, u 57, u 58, undef], defers := Ds.map markR } ∧ Hid (RkB w3 q s r w') ∧ Hid (RkTo m (hasP l) o k s r) ∧ Hid (OpenR Ds w' ∧ Ds.Nodup ∧ ∀ D ∈ Ds, w3.heap.size + 1 + 1 + 1 ≤ D) ∧ k ≤ m) := ⟨_, rfl⟩
  obtain ⟨MU, hMU⟩ : ∃ MU : Act → World → Nat, MU = (fun a' _ => m - (intOf (a'.tmps.getD 36 undef)).toNat) := ⟨_, rfl⟩
  have HINV := Lib.hid hINV
  have HMU := Lib.hid hMU
  clear hINV hMU
  refine wpIn_loop INV MU ?_ ?_
  · rw [HINV.out]
    exact ⟨fun _ => undef, [], 0, 0, 0, rfl, HV, Lib.hid (rkStart HOK.out.2), Lib.hid ⟨(fun _ h => by cases h), List.nodup_nil, (fun _ h => by cases h)⟩, Nat.zero_le _⟩
  intro a' wl hi
  rw [HINV.out] at hi
  obtain ⟨u, Ds, k, s, r, rfl, HS, HR, HO, hk⟩ := hi
  dsimp only
  by_cases hlt : k < m
  · have hko : k < o.length := by rw [HL.out]; exact hlt
    obtain ⟨a, hoa, hax, hok⟩ := rkGet HR.out hko
    have hro := HR3.out.below HS.out.bel
    obtain ⟨ad, hB, _, hcell⟩ := Rd.one hro hko
    rw [hoa] at hcell
    subst hB
    have hk0 : (0 : Int) ≤ k := by omega
    have hk1 : (k : Int) < m := by omega
    obtain ⟨X, hX⟩ : ∃ X, wl.alloc (.cells #[.int .i64 (a : Int)] 3) = X := ⟨_, rfl⟩
    have hbX : Below wl.heap.size wl X := by rw [← hX]; exact belowAlloc wl _
    have HA : Hid (Boxed X wl.heap.size 3 (.int .i64 (a : Int))) := by rw [← hX]; exact Lib.hid (Boxed.new wl _ _)
    have HSX := Lib.hid (HS.out.below hbX)
    have HFX := Lib.hid (HF3.out.keep HF3.out (Chg.ofBelow HSX.out.bel _))
    have hs64 := HR.out.toPlc.lt hN
    have HNX := Lib.hid (iNext m hN (hasP l) (some ⟨g, 0, none⟩) m s X HFX.out.bef HFX.out.tbl)
    have kd : (wl.alloc (.cells #[.int .i64 (a : Int)] 3)).cell? ⟨w3.heap.size + 1 + 1, 0, none⟩ = some (.int .u64 (s : Int)) := by rw [hX]; exact HSX.out.bd.cell
    have HXE := Lib.hid hX
    have HOX := Lib.hid (HO.out.1.chg (Chg.ofBelow hbX fun _ => True) fun _ _ => trivial)
    have hzX : wl.heap.size < X.heap.size := HA.out.lt
    clear hX hbX hro
    gi_wp2_with fail
    rw [HXE.out]
    refine ⟨trivial, (callsIn_wide.2 HNX.out).mono ?_⟩
    rintro e X2 ⟨rfl, hb2⟩
    have HS2 := Lib.hid (HSX.out.below hb2)
    have HA2 : Hid (Boxed X2 wl.heap.size 3 (.int .i64 (a : Int))) := Lib.hid ((hb2.block _ HA.out.lt).trans HA.out)
    have HO2 := Lib.hid (HOX.out.chg (Chg.ofBelow hb2 fun _ => True) fun _ _ => trivial)
    have HF2X := Lib.hid (HF3.out.keep HF3.out (Chg.ofBelow HS2.out.bel _))
    have hz2 : wl.heap.size < X2.heap.size := HA2.out.lt
    have hseq := numsB 7 (by omega) (nxtS m (hasP l) s) (nxtSLt hN (hasP l) s) X2 HF2X.out.tbl
    rw [nxtSBits hN] at hseq
    have HSQ := Lib.hid hseq
    clear hseq kd hb2
    gi_wp2
    refine rangeBound (F := Fence.wide) (n := 8) rfl (by omega) (gf := 19) (bd := #[.int .u64 (nxtS m (hasP l) s)]) rfl trivial enters47 HSQ.out (fun h k hT => k (h hT)) keepT_b (Below.refl _ _) (fun _ => rfl)
      (fun pre W => ∃ r', RkIn m (hasP l) k s r a pre r' ∧ RkB w3 q s r' W ∧ Boxed W wl.heap.size 3 (.int .i64 (a : Int)) ∧ OpenR Ds W)
      (fun c p W => c = .exit 2 ∧ ∃ pre post r', nxtL m (hasP l) s = pre ++ a :: post ∧ RkIn m (hasP l) k s r a pre r' ∧ RkB w3 q s r' W ∧ Boxed W wl.heap.size 3 (.int .i64 (a : Int)) ∧ OpenR Ds W) ?hI ?hIx ⟨r, rkIn0, HS2.out, HA2.out, HO2.out⟩
      (fun x => { tmps := #[relV (m : Int) A n c, .slice (some ad) m d, .pointer (some ⟨w.heap.size, 0, none⟩), undef, .int .i64 0, .int .i64 0, .slice (some ⟨g, 0, none⟩) m m, .int .i64 0, .pointer (some ⟨w3.heap.size, 0, none⟩), .pointer (some ⟨w3.heap.size + 1, 0, none⟩), .pointer (some ⟨w3.heap.size + 1 + 1, 0, none⟩), u 11, .pointer (some ⟨wl.heap.size, 0, none⟩), .int .i64 (x : Int), .tuple #[.slice (some ⟨g, 0, none⟩) m m, .int .i64 0], .agg #[.int .i64 (m : Int), .slice A n c], .tuple #[.slice (some ⟨g, 0, none⟩) m m, .int .i64 0], .slice (some ⟨g, 0, none⟩) m m, .int .i64 0, .int .i64 0, .bool false, undef, .slice (some ⟨g, 0, none⟩) m m, .slice (some ad) m d, .bool true, .bool false, .tuple #[.map (some q), .int .i64 0], .slice (some ⟨g, 0, none⟩) m m, .tuple #[.map (some q), .int .i64 0], .map (some q), .int .i64 0, .int .i64 0, .bool false, undef, .slice (some ad) m d, .int .i64 (m : Int), .int .i64 (k : Int), .bool true, .pointer (some (ad.add k)), .int .i64 (a : Int), .slice (some ⟨g, 0, none⟩) m m, .int .u64 (s : Int), .int .u64 (nxtS m (hasP l) s : Int), .func (.func 19) #[.int .u64 (nxtS m (hasP l) s : Int)] #[], .int .i64 (x : Int), u 45, u 46, u 47, u 48, u 49, u 50, u 51, u 52, u 53, u 54, u 55, u 56, u 57, u 58, undef], defers := [] }) ?assign ?body ?done ?stop
    case assign =>
      intro lr x Y K hK
      gi_wp2
      exact hK
    case body =>
      rintro lr pre x post Y hLL ⟨r', hin, hsY, haY, hoY⟩
      have ka := haY.cell
      by_cases hxa : x = a
      · subst hxa
        have he : ((x : Int) == (x : Int)) = true := by simp
        gi_wp2
        exact ⟨(KeepsOthers.refl _).from _, rfl, pre, post, r', hLL, hin, hsY, haY, hoY⟩
      · have hxm : x ∈ nxtL m (hasP l) s := by rw [hLL]; simp
        have he : ((x : Int) == (a : Int)) = false := by simp; omega
        obtain ⟨hin2, hle2⟩ := rkMiss HR.out hko hlt hoa hxa hLL hin
        have hx64 : x < 64 := by have := (nxtMem.1 hxm).1; omega
        obtain ⟨v, hv⟩ : ∃ v, ways m (hasP l) (m - (k + 1)) (addS s x) = v := ⟨_, rfl⟩
        have hval := HR.out.toPlc.val hlt hxm HWY.out
        rw [hv] at hval hin2 hle2
        have htot := rkLt (N := m) (f := hasP l) (l := nats o) (by unfold nats; rw [List.length_map, HL.out]) (okNats HOK.out.2).1
        have hbnd : r' + v ≤ 9223372036854775807 := by have := HWY.out; omega
        have hxD : addS s x ∈ D := (HMD.out.2.1.mem HMD.out.2.2).2 (rchNext HR.out.rch hxm)
        have HLK := Lib.hid (fun Z (hZ : Below w3.heap.size w3 Z) => lookB HMD.out.1 hZ (addLt hs64 hx64) hxD hval)
        have HWI := Lib.hid (fun Z => iWith s x hs64 hx64 Z)
        have kr := hsY.br.cell
        have km := hsY.bm.cell
        have kd := hsY.bd.cell
        have fr := hsY.br.frozen
        have hlk := HLK.out Y.drew hsY.drew.bel
        have hsum : IntKind.i64.wrap ((r' : Int) + (v : Int)) = ((r' + v : Nat) : Int) := by rw [IntKind.wrap_i64]; omega
        have HFIN := Lib.hid (show KeepsFrom X2.heap.size Y ((Y.setCell ⟨w3.heap.size + 1, 0, none⟩ (.int .i64 ((r' : Int) + (v : Int)))).drew) ∧ (Tbl Y → Tbl ((Y.setCell ⟨w3.heap.size + 1, 0, none⟩ (.int .i64 ((r' : Int) + (v : Int)))).drew)) ∧ (∃ r2, RkIn m (hasP l) k s r a (pre ++ [x]) r2 ∧ RkB w3 q s r2 ((Y.setCell ⟨w3.heap.size + 1, 0, none⟩ (.int .i64 ((r' : Int) + (v : Int)))).drew) ∧ Boxed ((Y.setCell ⟨w3.heap.size + 1, 0, none⟩ (.int .i64 ((r' : Int) + (v : Int)))).drew) wl.heap.size 3 (.int .i64 (a : Int)) ∧ OpenR Ds ((Y.setCell ⟨w3.heap.size + 1, 0, none⟩ (.int .i64 ((r' : Int) + (v : Int)))).drew)) from by
          have hz := HS.out.lt
          have e : (r' : Int) + (v : Int) = ((r' + v : Nat) : Int) := by simp
          rw [e]
          have hb := (hsY.setR (r' + v)).drew
          refine ⟨((KeepsOthers.setCell Y _ _).trans (KeepsOthers.drew _)).from _, fun _ => (HF3.out.keep HF3.out (Chg.ofBelow hb.bel _)).tbl, r' + v, hin2, hb, ?_, ?_⟩
          · exact haY.other (by omega) _
          · exact hoY.keep fun D hD => heap_setCell_other _ ⟨w3.heap.size + 1, 0, none⟩ D _ (show D ≠ w3.heap.size + 1 from by have := HO.out.2.2 D hD; omega))
        clear hin hin2 hle2 htot hbnd hxD hval hxm hsY haY hoY hv
        gi_wp2
        gi_region_with (refine ⟨trivial, (CallsIn.inRound lr (callsIn_wide.2 (HWI.out _))).mono ?_⟩; rintro e w' ⟨rfl, rfl⟩)
        all_goals exact HFIN.out
    case hI =>
      rintro pre X0 Y row ⟨r', h1, h2, h3, h4⟩ hgr hr
      have hc : Chg X0 Y (fun q => row ≠ some q) := Chg.ofGrown hgr fun _ h => h
      have hz := HS.out.lt
      have hlo : ∀ b, b < X2.heap.size → row ≠ some b := fun b hb e => by have := (hr b e).1; omega
      refine ⟨r', h1, h2.chg hc fun b hb => hlo b (by omega), (hc.block _ h3.lt (hlo _ (by omega))).trans h3, h4.chg hc fun D hD => hlo D (by have := HO2.out.lt hD; omega)⟩
    case hIx =>
      rintro c pre0 X0 Y row ⟨hce, pre, post, r', h0, h1, h2, h3, h4⟩ hgr hr
      have hc : Chg X0 Y (fun q => row ≠ some q) := Chg.ofGrown hgr fun _ h => h
      have hz := HS.out.lt
      have hlo : ∀ b, b < X2.heap.size → row ≠ some b := fun b hb e => by have := (hr b e).1; omega
      exact ⟨hce, pre, post, r', h0, h1, h2.chg hc fun b hb => hlo b (by omega), (hc.block _ h3.lt (hlo _ (by omega))).trans h3, h4.chg hc fun D hD => hlo D (by have := HO2.out.lt hD; omega)⟩
    case done =>
      rintro E Z hE ⟨r', h1, _⟩ hK2
      exact absurd hax h1.no
    case stop =>
      rintro E c p Z hE ⟨hce, pre, post, r', hLp, hin, hsZ, haZ, hoZ⟩ hK2
      subst hce
      have hz := HS.out.lt
      have ka := haZ.cell
      have kd := hsZ.bd.cell
      have fd := hsZ.bd.frozen
      have hm64 : a < 64 := by have := (nxtMem.1 hax).1; omega
      have HWA := Lib.hid (fun Y => iWith s a hs64 hm64 Y)
      have HNX2 := Lib.hid (rkHit HR.out hko hlt hoa hax hok hLp hin)
      have HFIN := Lib.hid (show RkB w3 q (addS s a) r' (Z.setCell ⟨w3.heap.size + 1 + 1, 0, none⟩ (.int .u64 (addS s a : Int))) ∧ (OpenR (E :: Ds) (Z.setCell ⟨w3.heap.size + 1 + 1, 0, none⟩ (.int .u64 (addS s a : Int))) ∧ (E :: Ds).Nodup ∧ ∀ D ∈ E :: Ds, w3.heap.size + 1 + 1 + 1 ≤ D) from by
        refine ⟨hsZ.setD _, fun D hD => ?_, List.nodup_cons.2 ⟨fun h => ?_, HO.out.2.1⟩, fun D hD => ?_⟩
        · rcases List.mem_cons.1 hD with rfl | hD
          · exact (heap_setCell_other _ ⟨w3.heap.size + 1 + 1, 0, none⟩ D _ (show D ≠ w3.heap.size + 1 + 1 from by omega)).trans hK2
          · exact (heap_setCell_other _ ⟨w3.heap.size + 1 + 1, 0, none⟩ D _ (show D ≠ w3.heap.size + 1 + 1 from by have := HO.out.2.2 D hD; omega)).trans (hoZ D hD)
        · have := HO2.out.lt h; omega
        · rcases List.mem_cons.1 hD with rfl | hD
          · omega
          · exact HO.out.2.2 D hD)
      clear hsZ haZ hoZ hK2 hin
      gi_wp2_with fail
      refine ⟨trivial, (callsIn_wide.2 (HWA.out _)).mono ?_⟩
      rintro e w' ⟨rfl, rfl⟩
      gi_wp2
      refine ⟨?_, ?_⟩
      · rw [HINV.out]
        exact ⟨fun i => (#[undef, undef, undef, undef, undef, undef, undef, undef, undef, undef, undef, u 11, .pointer (some ⟨wl.heap.size, 0, none⟩), u 13, undef, undef, undef, undef, undef, undef, undef, undef, undef, undef, undef, undef, undef, undef, undef, undef, undef, undef, undef, undef, undef, undef, undef, .bool true, .pointer (some (ad.add k)), .int .i64 (a : Int), .slice (some ⟨g, 0, none⟩) m m, .int .u64 (s : Int), .int .u64 (nxtS m (hasP l) s : Int), .func (.func 19) #[.int .u64 (nxtS m (hasP l) s : Int)] #[], u 44, u 45, u 46, u 47, u 48, u 49, u 50, u 51, u 52, u 53, u 54, .int .u64 (s : Int), .int .i64 (a : Int), .int .u64 (addS s a : Int), .int .i64 ((k + 1 : Nat) : Int)] : Array Value).getD i undef, E :: Ds, k + 1, addS s a, r', rfl, Lib.hid HFIN.out.1, HNX2, Lib.hid HFIN.out.2, hlt⟩
      · rw [HMU.out]
        show m - (intOf (.int .i64 ((k : Int) + 1))).toNat < m - (intOf (.int .i64 (k : Int))).toNat
        simp only [intOf]
        omega
  · have HD := Lib.hid (rkDone HR.out (by rw [HL.out]; omega))
    have hz := HS.out.lt
    have kr := HS.out.br.cell
    gi_wp2
    refine leaveR (B := w3.heap.size) (K := fun X => Below w.heap.size w X) (fun X D hD hd hK => belowPutR hK (by have := HB3.out.size; omega)) (fun X hK => ?_) Ds wl HO.out.2.1 (fun D hD => by have := HO.out.2.2 D hD; omega) HO.out.1 (belowThen HB3.out HS.out.bel)
    exact ⟨_, results_tmp2 rfl _ _ _, by rw [HD.out]; rfl, hK⟩
end Go.Proofs.YtjioiaeiggjneaaDoor
