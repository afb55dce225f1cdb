/-
  The contracts of the helpers of the law InstRename: mapping, image and plain.
-/
import Derived.Test.YtidjpmmagfcojaaDoorInsE
namespace Go.Proofs.YtidjpmmagfcojaaDoor
open Go Go.RowKit

theorem dgsSucc (m : Nat) {k : Nat} (hk : k < 8) : (dgs m).take (k + 1) = (dgs m).take k ++ [((dg m k : Nat) : Int)] := by
  rw [List.take_succ_eq_append_getElem (by rw [dgsLen]; exact hk)]
  simp [dgs]
theorem dgCast {w : World} {base : Nat} {v : Value} {l : List Int} {x y : Int} (h : OwnI w base v (l ++ [x])) (e : y = x) : OwnI w base v (l ++ [y]) := by rw [e]; exact h
set_option maxRecDepth 100000 in
set_option maxHeartbeats 400000 in
theorem lMap (m : Nat) (hm : m < 4294967296) (w : World) :
    Calls Tryd.prog 34 #[.int .u32 (m : Int)] w fun e w' => ∃ A c, e = .returned (.slice A 8 c) ∧ Rd w' A c (dgs m) ∧ Below w.heap.size w w' := by
  have hO := Lib.hid (OwnI.made w w.heap.size (Nat.le_refl _))
  go_enter Tryd.func34, Tryd.ntmps34
  go_wp2_with fail
  go_loopw [3, 4] (fun o i wr => ∃ k : Nat, k ≤ 8 ∧ i = .int .i64 k ∧ OwnI wr w.heap.size o ((dgs m).take k) ∧ Below w.heap.size w wr) (fun _ i _ => 8 - (intOf i).toNat)
  case atStart => exact ⟨0, Nat.zero_le _, rfl, hO.out, belowAlloc w _⟩
  case round =>
    obtain ⟨k, hk, rfl, os, hb⟩ := hrel
    by_cases hlt : k < 8
    · have HOS := Lib.hid os; clear os
      have HT := Lib.hid (dgsSucc m hlt)
      have hlen : ((dgs m).take k).length ≤ 8 := by rw [List.length_take]; omega
      have hz := hb.size
      have hkk : k = 0 ∨ k = 1 ∨ k = 2 ∨ k = 3 ∨ k = 4 ∨ k = 5 ∨ k = 6 ∨ k = 7 := by omega
      rcases hkk with rfl | rfl | rfl | rfl | rfl | rfl | rfl | rfl
      · go_wp2_with (first
          | (at_builtin; refine appI _ rfl (.tmp 10) (.tmp 18) rfl w.heap.size _ _ rfl (HOS.out.alloc _) (some ⟨wr.heap.size, 0, none⟩) 1 1 [((m : Int) % 8)] rfl rfl (Rd.lit wr [((m : Int) % 8)] 3 (by simp)) (by rw [List.length_singleton]; omega) (by rw [World.size_alloc]; omega) ?_; intro v1 w1 o1 _ b1; have B1 := hb.trans ((belowAl3 wr hz (.cells (iv [((m : Int) % 8)]).toArray 3)).trans b1))
          | fail)
        go_roundw
        case rel => exact ⟨1, by omega, by go_num, (by rw [HT.out]; exact dgCast o1 (by simp [dg])), B1⟩
        case measure => simp [intOf]
      · go_wp2_with (first
          | (at_builtin; refine appI _ rfl (.tmp 10) (.tmp 18) rfl w.heap.size _ _ rfl (HOS.out.alloc _) (some ⟨wr.heap.size, 0, none⟩) 1 1 [((m : Int) / 8 % 8)] rfl rfl (Rd.lit wr [((m : Int) / 8 % 8)] 3 (by simp)) (by rw [List.length_singleton]; omega) (by rw [World.size_alloc]; omega) ?_; intro v1 w1 o1 _ b1; have B1 := hb.trans ((belowAl3 wr hz (.cells (iv [((m : Int) / 8 % 8)]).toArray 3)).trans b1))
          | fail)
        go_roundw
        case rel => exact ⟨2, by omega, by go_num, (by rw [HT.out]; exact dgCast o1 (by simp [dg])), B1⟩
        case measure => simp [intOf]
      · go_wp2_with (first
          | (at_builtin; refine appI _ rfl (.tmp 10) (.tmp 18) rfl w.heap.size _ _ rfl (HOS.out.alloc _) (some ⟨wr.heap.size, 0, none⟩) 1 1 [((m : Int) / 64 % 8)] rfl rfl (Rd.lit wr [((m : Int) / 64 % 8)] 3 (by simp)) (by rw [List.length_singleton]; omega) (by rw [World.size_alloc]; omega) ?_; intro v1 w1 o1 _ b1; have B1 := hb.trans ((belowAl3 wr hz (.cells (iv [((m : Int) / 64 % 8)]).toArray 3)).trans b1))
          | fail)
        go_roundw
        case rel => exact ⟨3, by omega, by go_num, (by rw [HT.out]; exact dgCast o1 (by simp [dg])), B1⟩
        case measure => simp [intOf]
      · go_wp2_with (first
          | (at_builtin; refine appI _ rfl (.tmp 10) (.tmp 18) rfl w.heap.size _ _ rfl (HOS.out.alloc _) (some ⟨wr.heap.size, 0, none⟩) 1 1 [((m : Int) / 512 % 8)] rfl rfl (Rd.lit wr [((m : Int) / 512 % 8)] 3 (by simp)) (by rw [List.length_singleton]; omega) (by rw [World.size_alloc]; omega) ?_; intro v1 w1 o1 _ b1; have B1 := hb.trans ((belowAl3 wr hz (.cells (iv [((m : Int) / 512 % 8)]).toArray 3)).trans b1))
          | fail)
        go_roundw
        case rel => exact ⟨4, by omega, by go_num, (by rw [HT.out]; exact dgCast o1 (by simp [dg])), B1⟩
        case measure => simp [intOf]
      · go_wp2_with (first
          | (at_builtin; refine appI _ rfl (.tmp 10) (.tmp 18) rfl w.heap.size _ _ rfl (HOS.out.alloc _) (some ⟨wr.heap.size, 0, none⟩) 1 1 [((m : Int) / 4096 % 8)] rfl rfl (Rd.lit wr [((m : Int) / 4096 % 8)] 3 (by simp)) (by rw [List.length_singleton]; omega) (by rw [World.size_alloc]; omega) ?_; intro v1 w1 o1 _ b1; have B1 := hb.trans ((belowAl3 wr hz (.cells (iv [((m : Int) / 4096 % 8)]).toArray 3)).trans b1))
          | fail)
        go_roundw
        case rel => exact ⟨5, by omega, by go_num, (by rw [HT.out]; exact dgCast o1 (by simp [dg])), B1⟩
        case measure => simp [intOf]
      · go_wp2_with (first
          | (at_builtin; refine appI _ rfl (.tmp 10) (.tmp 18) rfl w.heap.size _ _ rfl (HOS.out.alloc _) (some ⟨wr.heap.size, 0, none⟩) 1 1 [((m : Int) / 32768 % 8)] rfl rfl (Rd.lit wr [((m : Int) / 32768 % 8)] 3 (by simp)) (by rw [List.length_singleton]; omega) (by rw [World.size_alloc]; omega) ?_; intro v1 w1 o1 _ b1; have B1 := hb.trans ((belowAl3 wr hz (.cells (iv [((m : Int) / 32768 % 8)]).toArray 3)).trans b1))
          | fail)
        go_roundw
        case rel => exact ⟨6, by omega, by go_num, (by rw [HT.out]; exact dgCast o1 (by simp [dg])), B1⟩
        case measure => simp [intOf]
      · go_wp2_with (first
          | (at_builtin; refine appI _ rfl (.tmp 10) (.tmp 18) rfl w.heap.size _ _ rfl (HOS.out.alloc _) (some ⟨wr.heap.size, 0, none⟩) 1 1 [((m : Int) / 262144 % 8)] rfl rfl (Rd.lit wr [((m : Int) / 262144 % 8)] 3 (by simp)) (by rw [List.length_singleton]; omega) (by rw [World.size_alloc]; omega) ?_; intro v1 w1 o1 _ b1; have B1 := hb.trans ((belowAl3 wr hz (.cells (iv [((m : Int) / 262144 % 8)]).toArray 3)).trans b1))
          | fail)
        go_roundw
        case rel => exact ⟨7, by omega, by go_num, (by rw [HT.out]; exact dgCast o1 (by simp [dg])), B1⟩
        case measure => simp [intOf]
      · go_wp2_with (first
          | (at_builtin; refine appI _ rfl (.tmp 10) (.tmp 18) rfl w.heap.size _ _ rfl (HOS.out.alloc _) (some ⟨wr.heap.size, 0, none⟩) 1 1 [((m : Int) / 2097152 % 8)] rfl rfl (Rd.lit wr [((m : Int) / 2097152 % 8)] 3 (by simp)) (by rw [List.length_singleton]; omega) (by rw [World.size_alloc]; omega) ?_; intro v1 w1 o1 _ b1; have B1 := hb.trans ((belowAl3 wr hz (.cells (iv [((m : Int) / 2097152 % 8)]).toArray 3)).trans b1))
          | fail)
        go_roundw
        case rel => exact ⟨8, by omega, by go_num, (by rw [HT.out]; exact dgCast o1 (by simp [dg])), B1⟩
        case measure => simp [intOf]
    · obtain rfl : k = 8 := by omega
      rw [List.take_of_length_le (by rw [dgsLen]; exact Nat.le_refl _)] at os
      obtain ⟨A, c, rfl, r1, _⟩ := os.rd
      rw [dgsLen]
      go_wp2
      go_ret
      exact ⟨A, c, rfl, r1, hb⟩

theorem lPlain (op a b c obj n fn ord : Int) (w : World) :
    Calls Tryd.prog 38 #[.agg #[.int .i64 op, .int .i64 a, .int .i64 b, .int .i64 c, .int .i64 obj, .int .i64 n, .int .i64 fn, .int .i64 ord]] w fun e w' => e = .returned (.agg #[.int .i64 op, .int .i64 0, .int .i64 0, .int .i64 0, .int .i64 obj, .int .i64 n, .int .i64 fn, .int .i64 ord]) ∧ Below w.heap.size w w' := by
  go_enter Tryd.func38, Tryd.ntmps38
  go_wp2
  refine bodyPost_ret ((Blk.new1 w _ _ _).res rfl _ rfl Tryd.underlying52 rfl infoInst) rfl ?_
  exact ⟨rfl, (belowAlloc w _).alloc (by simp) _⟩

theorem takeMap (f : Int → Int) {u : List Int} {k : Nat} (hk : k < u.length) : (u.take (k + 1)).map f = (u.take k).map f ++ [f u[k]] := by
  rw [List.take_succ_eq_append_getElem hk, List.map_append]; rfl
set_option maxHeartbeats 1000000 in
theorem lImage (u g : List Int) (nu : Nat) (hnu : u.length = nu) (hu8 : nu ≤ 8) (hg : g.length = 8) (hu : ∀ x ∈ u, 0 ≤ x ∧ x < 8) (r : List Int) (hr : mk (u.map (mpL g)) = r) (nr : Nat) (hnr : r.length = nr) (A B : Option Addr) (c d : Nat) (w : World) (ha : Rd w A c u) (hb : Rd w B d g) :
    Calls Tryd.prog 40 #[.slice A nu c, .slice B 8 d] w fun e w' => ∃ A' c', e = .returned (.slice A' nr c') ∧ Rd w' A' c' r ∧ Below w.heap.size w w' := by
  obtain ⟨bb, off, rfl, hbb, hf⟩ := rdFlat hb (by omega)
  have HA := Lib.hid ha
  have HF : Hid (∀ j (hj : j < g.length), w.cell? ⟨bb, off + j, none⟩ = some (.int .i64 g[j])) := Lib.hid hf
  have HU := Lib.hid hu
  have HR := Lib.hid hr
  have HNR := Lib.hid hnr
  have HG := Lib.hid hg
  have HN := Lib.hid hnu
  have hle := hb.le
  have hmx := hb.max
  have hla := ha.le
  have hma := ha.max
  unfold maxLen at hmx hma
  rw [hg] at hle
  rw [hnu] at hla
  clear ha hb hu hr hnr hg hf hnu
  have hO := Lib.hid (OwnI.made w w.heap.size (Nat.le_refl _))
  go_enter Tryd.func40, Tryd.ntmps40
  go_wp2_with fail
  go_loopw [5, 6] (fun o i wr => ∃ k : Nat, k ≤ nu ∧ i = .int .i64 k ∧ OwnI wr w.heap.size o ((u.take k).map (mpL g)) ∧ Below w.heap.size w wr) (fun _ i _ => nu - (intOf i).toNat)
  case atStart => exact ⟨0, Nat.zero_le _, rfl, hO.out, belowAlloc w _⟩
  case round =>
    obtain ⟨k, hk, rfl, os, hb⟩ := hrel
    have hz := hb.size
    by_cases hlt : k < nu
    · have hku : k < u.length := by rw [HN.out]; exact hlt
      obtain ⟨ad, rfl, _, hc⟩ := (HA.out.below hb).one hku
      have hx := HU.out _ (List.getElem_mem hku)
      have HT := Lib.hid (takeMap (mpL g) hku)
      obtain ⟨x, hxe⟩ : ∃ x : Nat, u[k] = x := ⟨u[k].toNat, by omega⟩
      have hx8 : x < 8 := by omega
      rw [hxe] at hc HT
      have hy := (hb.cell hbb).trans (HF.out x (by rw [HG.out]; exact hx8))
      rw [mpAt x (by rw [HG.out]; exact hx8)] at hy
      generalize mpL g x = y at hy HT
      have HOS := Lib.hid os; clear os hxe hx
      have hlen : ((u.take k).map (mpL g)).length ≤ 8 := by rw [List.length_map, List.length_take]; omega
      have hx0 : (0 : Int) ≤ x := by omega
      have hx88 : (x : Int) < 8 := by omega
      go_wp2_with (first
          | (at_builtin; refine appI _ rfl (.tmp 14) (.tmp 22) rfl w.heap.size _ _ rfl (HOS.out.alloc _) (some ⟨wr.heap.size, 0, none⟩) 1 1 [y] rfl rfl (Rd.lit wr [y] 3 (by simp)) (by rw [List.length_singleton]; omega) (by rw [World.size_alloc]; omega) ?_; intro v1 w1 o1 _ b1; have B1 := hb.trans ((belowAl3 wr hz (.cells (iv [y]).toArray 3)).trans b1))
          | fail)
      go_roundw
      case rel => exact ⟨k + 1, by omega, by go_num, (by rw [HT.out]; exact o1), B1⟩
      case measure => simp [intOf]; omega
    · obtain rfl : k = nu := by omega
      rw [List.take_of_length_le (by rw [HN.out]; exact Nat.le_refl _)] at os
      obtain ⟨A', c', rfl, r1, _⟩ := os.rd
      have hlen : (u.map (mpL g)).length ≤ 8 := by rw [List.length_map, HN.out]; exact hu8
      have HR1 := Lib.hid r1; clear r1
      go_wp2_with fail
      refine (rMakeN (u.map (mpL g)) _ (by simp) r HR.out (by omega) A' c' _ HR1.out).mono ?_
      rintro e w3 ⟨A3, c3, rfl, r3, b3⟩
      have B3 := hb.trans (b3.mono hz)
      rw [HNR.out]
      go_wp2
      go_ret
      exact ⟨A3, c3, rfl, r3, B3⟩
end Go.Proofs.YtidjpmmagfcojaaDoor
