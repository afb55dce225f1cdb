/-
  The contract of the reference's grow: it extends each of the given sets at its end by each larger element.
-/
import Derived.Test.YthfllfdgndaddaaAwake
namespace Go.Proofs.Ythfllfdgndaddaa
open Go.RowKit

theorem extApp (x a b : List Int) : ext x (a ++ b) = ext x a ++ ext x b := by unfold ext; rw [List.filter_append, List.map_append]
theorem extYes {x s : List Int} {k : Nat} (hk : k < s.length) (h : x = [] ∨ x.getLastD 0 < s[k]) : ext x (s.take (k + 1)) = ext x (s.take k) ++ [x ++ [s[k]]] := by
  rw [List.take_succ_eq_append_getElem hk, extApp]
  congr 1
  have e : (x.isEmpty || decide (x.getLastD 0 < s[k])) = true := by
    rcases h with rfl | h
    · rfl
    · rw [decide_eq_true h]; simp
  unfold ext
  rw [List.filter_cons, e]
  rfl
theorem extNo {x s : List Int} {k : Nat} (hk : k < s.length) (h : x ≠ []) (h' : ¬ x.getLastD 0 < s[k]) : ext x (s.take (k + 1)) = ext x (s.take k) := by
  rw [List.take_succ_eq_append_getElem hk, extApp]
  have e : (x.isEmpty || decide (x.getLastD 0 < s[k])) = false := by
    rw [decide_eq_false h']
    cases x
    · exact absurd rfl h
    · rfl
  have : ext x [s[k]] = [] := by
    unfold ext
    rw [List.filter_cons, e]
    rfl
  rw [this, List.append_nil]
theorem growSucc {ls : List (List Int)} {s : List Int} {i : Nat} (h : i < ls.length) : growL (ls.take (i + 1)) s = growL (ls.take i) s ++ ext ls[i] s := by
  unfold growL
  rw [List.take_succ_eq_append_getElem h, List.flatMap_append]
  simp
theorem growLen {ls : List (List Int)} {s : List Int} {i k : Nat} (h : i < ls.length) : (growL (ls.take i) s ++ ext ls[i] (s.take k)).length ≤ (growL ls s).length := by
  have e1 : growL ls s = growL (ls.take i) s ++ growL (ls.drop i) s := by unfold growL; rw [← List.flatMap_append, List.take_append_drop]
  have e2 : growL (ls.drop i) s = ext ls[i] s ++ growL (ls.drop (i + 1)) s := by rw [List.drop_eq_getElem_cons h]; rfl
  have e3 : ext ls[i] s = ext ls[i] (s.take k) ++ ext ls[i] (s.drop k) := by rw [← extApp, List.take_append_drop]
  rw [e1, e2, e3]
  simp only [List.length_append]
  omega
theorem lastAt {x : List Int} (h : 0 < x.length) : x.getLastD 0 = x[x.length - 1] := by
  rw [List.getLastD_eq_getLast?, List.getLast?_eq_getElem?, List.getElem?_eq_getElem (by omega)]
  rfl

theorem pushed {F : Nat → Prop} {ls : List (List Int)} {vs : List Value} {va v1 : Value} {c : List Int} {base : Nat} {w w1 w2 : World} {o : Obj} (hb : base ≤ w.heap.size) (hva : OwnL w base va vs) (hls : IsL w base F vs ls)
    (o1 : OwnI w1 w.heap.size v1 c) (b1 : Below w.heap.size w w1) (g2 : (w1.alloc o).grownBy w2 va.ownBlock) :
    IsL w2 base (fun _ => True) (vs ++ [v1]) (ls ++ [c]) ∧ Below base w w2 := by
  have c1 : Chg w w2 (fun g => va.ownBlock ≠ some g) := ((Chg.ofBelow b1 fun _ => True).trans (Chg.alloc w1 o fun _ => True) fun _ _ _ => trivial).mono (fun _ _ => trivial) |>.trans (Chg.ofGrown g2 (F := fun g => va.ownBlock ≠ some g) fun _ h => h) fun _ _ h => h
  have c2 : Chg w1 w2 (fun g => va.ownBlock ≠ some g) := (Chg.alloc w1 o fun g => va.ownBlock ≠ some g).trans (Chg.ofGrown g2 (F := fun g => va.ownBlock ≠ some g) fun _ h => h) fun _ _ h => h
  refine ⟨IsL.append (((hls.apart hva).chg c1 fun g h _ => h.2).mono fun _ _ => trivial) ⟨ownMono (OwnI.chg o1 c2 fun g hg e => ?_) hb, fun _ _ => trivial, trivial⟩, ⟨c1.os, c1.tape, c1.output, c1.size, fun k hk => c1.block k (by omega) fun e => ?_⟩⟩
  · have h1 := (o1.lt hg).1
    have h2 := (World.ownsRow.lt hva g e).2
    omega
  · have := (World.ownsRow.lt hva k e).1
    omega

theorem stepB {w w1 : World} {n : Nat} {o : Obj} (h : Below w.heap.size ((w.drewN n).alloc o) w1) : Below w.heap.size w w1 := stepA (belowN w n) h
theorem cellB {w wr w1 : World} {bd : Addr} {d k : Nat} {s : List Int} (h : Rd w (some bd) d s) (hb : Below w.heap.size w wr) (b1 : Below wr.heap.size wr w1) (hk : k < s.length) : w1.cell? (bd.add k) = some (.int .i64 s[k]) := by
  obtain ⟨ad', e, _, hc⟩ := ((h.below hb).below b1).one hk
  injection e with e; subst e; exact hc
def GivesS (ls : List (List Int)) (w : World) (e : Ending) (w' : World) : Prop :=
  ∃ v vs, e = .returned v ∧ OwnL w' w.heap.size v vs ∧ IsL w' w.heap.size (fun _ => True) vs ls ∧ Below w.heap.size w w'

set_option maxHeartbeats 4000000 in
theorem rGrow (ls : List (List Int)) (s : List Int) (n m : Nat) (hn : ls.length = n) (hm : s.length = m) (r : List (List Int)) (hr : growL ls s = r) (hbig : r.length ≤ 1000000) (hsml : ∀ x ∈ ls, x.length ≤ 1000) (A B : Option Addr) (c d : Nat) (w : World) (ha : RdL w A c ls) (hb : Rd w B d s) :
    Calls Try.prog 42 #[.slice A n c, .slice B m d] w (GivesS r w) := by
  have hla := ha.le
  have hlb := hb.le
  rw [hn] at hla
  rw [hm] at hlb
  have hca := ha.max
  have hcb := hb.max
  unfold maxLen at hca hcb
  have HA := Lib.hid ha; clear ha
  have HB := Lib.hid hb; clear hb
  have HN := Lib.hid hn; clear hn
  have HM := Lib.hid hm; clear hm
  have HR := Lib.hid hr; clear hr
  have HSM := Lib.hid hsml; clear hsml
  have hO := Lib.hid (OwnL.made w w.heap.size (Nat.le_refl _))
  go_enter Try.func42, Try.ntmps42
  go_wp2
  go_loopw [5, 6] (fun o i wr => ∃ (j : Nat) (vs : List Value), j ≤ n ∧ i = .int .i64 j ∧ Hid (OwnL wr w.heap.size o vs ∧ IsL wr w.heap.size (fun _ => True) vs (growL (ls.take j) s) ∧ Below w.heap.size w wr)) (fun _ i _ => n - (intOf i).toNat)
  case atStart => exact ⟨0, [], Nat.zero_le _, rfl, hO.out, trivial, (Below.refl _ _).alloc (Nat.le_refl _) _⟩
  case round =>
    clear hO
    obtain ⟨j, vs, hj, rfl, REL⟩ := hrel
    by_cases hlt : j < n
    · have hjl : j < ls.length := by rw [HN.out]; exact hlt
      obtain ⟨x, hx⟩ : ∃ x, ls[j] = x := ⟨_, rfl⟩
      have HX := Lib.hid hx; clear hx
      go_wp2
      obtain ⟨wo, rfl⟩ : ∃ wo : World, wo = wr := ⟨_, rfl⟩
      go_loopw [5, 7] (fun o i wr => ∃ (k : Nat) (vs : List Value), k ≤ m ∧ i = .int .i64 k ∧ Hid (OwnL wr w.heap.size o vs ∧ IsL wr w.heap.size (fun _ => True) vs (growL (ls.take j) s ++ ext x (s.take k)) ∧ Below w.heap.size w wr)) (fun _ i _ => m - (intOf i).toNat)
      case atStart => exact ⟨0, vs, Nat.zero_le _, rfl, by have h := REL.out; rw [show ext x (s.take 0) = [] from rfl, List.append_nil]; exact h⟩
      case round =>
        clear REL
        obtain ⟨k, vs, hk, rfl, REL⟩ := hrel
        by_cases hlt : k < m
        · have hks : k < s.length := by rw [HM.out]; exact hlt
          have hbw : w.heap.size ≤ wr.heap.size := REL.out.2.2.size
          obtain ⟨bd, rfl, hbl, hd⟩ := (HB.out.below REL.out.2.2).one hks
          obtain ⟨y, hy⟩ : ∃ y, s[k] = y := ⟨_, rfl⟩
          rw [hy] at hd
          have HY := Lib.hid hy; clear hy
          obtain ⟨ad, A', c', rfl, hc, hrx⟩ := (HA.out.below REL.out.2.2).one hjl
          rw [HX.out] at hc hrx
          have hxs : x.length ≤ 1000 := by rw [← HX.out]; exact HSM.out _ (List.getElem_mem hjl)
          have hvl : vs.length ≤ 1000000 := by
            have h1 := growLen (ls := ls) (s := s) (k := k) hjl
            rw [HX.out, HR.out] at h1
            rw [REL.out.2.1.len]
            omega
          obtain ⟨nx, hnx⟩ : ∃ nx, x.length = nx := ⟨_, rfl⟩
          have hxl := hxs
          rw [hnx] at hc hxs
          have hcA : ∀ q, ((wr.drewN q).alloc (.cells #[] 3)).cell? (ad.add j) = some (.slice A' nx c') := fun q => (World.cell?_alloc_lt (wr.drewN q) _ _ (World.block_lt_of_cell? wr _ hc)).trans hc
          have HCA := Lib.hid hcA; clear hcA
          have HNX := Lib.hid hnx; clear hnx
          by_cases h0 : nx = 0
          · have HE := Lib.hid ((extYes (x := x) hks (Or.inl (List.eq_nil_of_length_eq_zero (by rw [HNX.out]; exact h0)))).trans (by rw [HY.out]))
            subst h0
            have HNX0 := HNX
            go_wp2
            go_quiet (fail)
            have hcA := HCA.out
            go_wp2_with (first
              | (at_builtin; refine appI _ rfl (.tmp 47) (.tmp 51) rfl wr.heap.size _ [] rfl (OwnI.made _ wr.heap.size (Nat.le_refl _)) _ 0 c' x rfl HNX.out.symm ((hrx.drewN _).alloc _) (by simp; omega) (by simp) ?_; intro v1 w1 o1 _ b1; have B1 := stepB b1; rw [List.nil_append] at o1; have hy1 := cellB HB.out REL.out.2.2 B1 hks; rw [HY.out] at hy1)
              | (at_builtin; refine appI _ rfl (.tmp 53) (.tmp 58) rfl wr.heap.size _ _ rfl (o1.alloc _) (some ⟨w1.heap.size, 0, none⟩) 1 1 [y] rfl rfl (Rd.lit w1 [y] 3 (by simp)) (by simp; omega) (by have := B1.size; simp; omega) ?_; intro v2 w2 o2 _ b2; have B2 := stepA B1 b2; obtain ⟨A2, c2, e2, r2, _⟩ := o2.rd; obtain ⟨N, hN⟩ : ∃ N, (x ++ [y]).length = N := ⟨_, rfl⟩; rw [hN] at e2; have HNN := Lib.hid hN; clear hN; subst e2)
              | (at_builtin; refine appL _ rfl (.tmp 60) (.tmp 62) rfl w.heap.size _ _ rfl ((REL.out.1.chg (Chg.ofBelow B2 fun _ => True) fun _ _ => trivial).chg (Chg.alloc w2 _ fun _ => True) fun _ _ => trivial) (some ⟨w2.heap.size, 0, none⟩) 1 1 [.slice A2 N c2] rfl rfl (Rds.lit w2 [.slice A2 N c2] 22 (by simp [maxLen])) (by simp [Value.oneCell']) (by simp; omega) (by have := B2.size; simp; omega) ?_; intro v3 w3 o3 g3 _))
            have P := pushed hbw REL.out.1 REL.out.2.1 o2 B2 g3
            have R3 : Hid (OwnL w3 w.heap.size v3 (vs ++ [.slice A2 N c2]) ∧ IsL w3 w.heap.size (fun _ => True) (vs ++ [.slice A2 N c2]) (growL (ls.take j) s ++ ext x (s.take (k + 1))) ∧ Below w.heap.size w w3) :=
              ⟨o3, by rw [HE.out, ← List.append_assoc]; exact P.1, REL.out.2.2.trans P.2⟩
            clear P
            go_roundw
            case rel => exact ⟨k + 1, _, by omega, by go_num, R3⟩
            case measure => simp [intOf]; omega
          · have hnx0 : 0 < nx := by omega
            have hz : ((nx : Int) == 0) = false := by simp; omega
            obtain ⟨ed, rfl, hel, he⟩ := hrx.one (k := nx - 1) (by rw [HNX.out]; omega)
            obtain ⟨z, hzz⟩ : ∃ z, x[nx - 1]'(by rw [HNX.out]; omega) = z := ⟨_, rfl⟩
            rw [hzz] at he
            have hlast : x.getLastD 0 = z := by rw [lastAt (by rw [HNX.out]; omega), ← hzz]; simp only [HNX.out]
            have HLAST := Lib.hid hlast; clear hlast hzz
            have s1 : IntKind.i64.wrap ((nx : Int) - 1) = ((nx - 1 : Nat) : Int) := by
              rw [IntWalk.i64_in _ (by omega)]; omega
            have S1 := Lib.hid s1; clear s1
            by_cases hlz : z < y
            · have HE := Lib.hid ((extYes (x := x) hks (Or.inr (by rw [HLAST.out, HY.out]; exact hlz))).trans (by rw [HY.out]))
              have s1 := S1.out
              go_wp2
              go_quiet (fail)
              clear s1
              have hcA := HCA.out
              go_wp2_with (first
                | (at_builtin; refine appI _ rfl (.tmp 47) (.tmp 51) rfl wr.heap.size _ [] rfl (OwnI.made _ wr.heap.size (Nat.le_refl _)) _ nx c' x rfl HNX.out.symm ((hrx.drewN _).alloc _) (by simp; omega) (by simp) ?_; intro v1 w1 o1 _ b1; have B1 := stepB b1; rw [List.nil_append] at o1; have hy1 := cellB HB.out REL.out.2.2 B1 hks; rw [HY.out] at hy1)
                | (at_builtin; refine appI _ rfl (.tmp 53) (.tmp 58) rfl wr.heap.size _ _ rfl (o1.alloc _) (some ⟨w1.heap.size, 0, none⟩) 1 1 [y] rfl rfl (Rd.lit w1 [y] 3 (by simp)) (by simp; omega) (by have := B1.size; simp; omega) ?_; intro v2 w2 o2 _ b2; have B2 := stepA B1 b2; obtain ⟨A2, c2, e2, r2, _⟩ := o2.rd; obtain ⟨N, hN⟩ : ∃ N, (x ++ [y]).length = N := ⟨_, rfl⟩; rw [hN] at e2; have HNN := Lib.hid hN; clear hN; subst e2)
                | (at_builtin; refine appL _ rfl (.tmp 60) (.tmp 62) rfl w.heap.size _ _ rfl ((REL.out.1.chg (Chg.ofBelow B2 fun _ => True) fun _ _ => trivial).chg (Chg.alloc w2 _ fun _ => True) fun _ _ => trivial) (some ⟨w2.heap.size, 0, none⟩) 1 1 [.slice A2 N c2] rfl rfl (Rds.lit w2 [.slice A2 N c2] 22 (by simp [maxLen])) (by simp [Value.oneCell']) (by simp; omega) (by have := B2.size; simp; omega) ?_; intro v3 w3 o3 g3 _))
              have P := pushed hbw REL.out.1 REL.out.2.1 o2 B2 g3
              have R3 : Hid (OwnL w3 w.heap.size v3 (vs ++ [.slice A2 N c2]) ∧ IsL w3 w.heap.size (fun _ => True) (vs ++ [.slice A2 N c2]) (growL (ls.take j) s ++ ext x (s.take (k + 1))) ∧ Below w.heap.size w w3) :=
                ⟨o3, by rw [HE.out, ← List.append_assoc]; exact P.1, REL.out.2.2.trans P.2⟩
              clear P
              go_roundw
              case rel => exact ⟨k + 1, _, by omega, by go_num, R3⟩
              case measure => simp [intOf]; omega

            · have HE := Lib.hid (extNo (x := x) hks (by intro e; have := HNX.out; rw [e] at this; simp at this; omega) (by rw [HLAST.out, HY.out]; exact hlz))
              have s1 := S1.out
              have hlz' : y ≤ z := by omega
              go_wp2
              go_quiet (fail)
              clear s1
              go_wp2
              go_roundw
              case rel => exact ⟨k + 1, vs, by omega, by go_num, by rw [HE.out]; exact ⟨REL.out.1, REL.out.2.1.chg (Chg.drewN wr _ fun _ => True) fun _ _ _ => trivial, belowDrewN REL.out.2.2 _⟩⟩
              case measure => simp [intOf]; omega
        · obtain rfl : k = m := by omega
          have REL2 : Hid (OwnL wr w.heap.size u5 vs ∧ IsL wr w.heap.size (fun _ => True) vs (growL (ls.take (j + 1)) s) ∧ Below w.heap.size w wr) := by
            have h := REL.out
            rw [growSucc hjl, HX.out]
            rw [List.take_of_length_le (l := s) (by rw [HM.out]; exact Nat.le_refl _)] at h
            exact h
          clear REL
          go_wp2
          go_roundw
          case rel => exact ⟨j + 1, vs, by omega, by go_num, REL2⟩
          case measure => simp [intOf]; omega
    · obtain rfl : j = n := by omega
      have REL2 : Hid (OwnL wr w.heap.size u5 vs ∧ IsL wr w.heap.size (fun _ => True) vs r ∧ Below w.heap.size w wr) := by
        have h := REL.out
        rw [List.take_of_length_le (by rw [HN.out]; exact Nat.le_refl _), HR.out] at h
        exact h
      go_wp2
      go_ret
      exact ⟨_, vs, rfl, REL2.out⟩
end Go.Proofs.Ythfllfdgndaddaa
