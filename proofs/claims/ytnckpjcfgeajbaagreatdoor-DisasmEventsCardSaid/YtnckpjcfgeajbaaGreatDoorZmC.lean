/-
  The contract of disasm.sentence: a first word and those that function values give, or their first error.
-/
import Derived.Test.YtnckpjcfgeajbaaGreatDoorDsPre
import Derived.Maps.AppendAt
import Derived.Test.YtnckpjcfgeajbaaGreatDoorZmB
import Derived.Test.YtnckpjcfgeajbaaGreatDoorZmA
namespace Go.Proofs.YtnckpjcfgeajbaaGreatDoor
open Go Go.RowKit

section
variable {w w' : World} {A : Option Addr} {c : Nat} {xs : List Value}
end

section
variable {P : Program} (w : World)

end

end Go.Proofs.YtnckpjcfgeajbaaGreatDoor

namespace Go.Proofs.YtnckpjcfgeajbaaGreatDoor
open Go Go.RowKit

theorem ownOne (w : World) (s : ByteArray) (base : Nat) (hb : base ≤ w.heap.size) : OwnT (w.alloc (.cells #[.string s] 9)) base (.slice (some ⟨w.heap.size, 0, none⟩) 1 1) [s] :=
  ⟨rfl, .inr ⟨w.heap.size, 1, _, rfl, hb, Blk.new w _ _, Nat.le_refl _, by decide, rfl, rfl⟩⟩
/-- The words so far. -/
def wsK (first : ByteArray) (ws : List Wd) (k : Nat) : List ByteArray := first :: (ws.take k).map fun x => bs x.t
theorem wsKnext {first : ByteArray} {ws : List Wd} {k : Nat} (h : k < ws.length) : wsK first ws k ++ [bs ws[k].t] = wsK first ws (k + 1) := by
  unfold wsK
  rw [List.take_succ_eq_append_getElem h, List.map_append]; rfl
theorem wsKlen (first : ByteArray) {ws : List Wd} {k : Nat} (h : k ≤ ws.length) : (wsK first ws k).length = k + 1 := by
  unfold wsK
  rw [List.length_cons, List.length_map, List.length_take]; omega
theorem sntBad {ws : List Wd} : ∀ {acc : List UInt8} {k : Nat} (h : k < ws.length), (∀ j (hj : j < ws.length), j < k → ws[j].e = 0) → ws[k].e ≠ 0 → snt acc ws = .no ws[k].e := by
  induction ws with
  | nil => intro acc k h; simp at h
  | cons x r ih =>
    intro acc k h h0 h1
    rw [snt]
    rcases k with _ | k
    · have h1 : ¬ x.e = 0 := h1
      rw [if_neg h1]; rfl
    · have hx : x.e = 0 := h0 0 (by simp) (by omega)
      rw [if_pos hx]
      exact ih (k := k) (by simpa using h) (fun j hj hjk => h0 (j + 1) (by simpa using hj) (by omega)) h1
theorem sntGood {ws : List Wd} {acc : List UInt8} (h : ∀ j (hj : j < ws.length), ws[j].e = 0) : snt acc ws = .ok (Lib.join (acc :: ws.map (·.t)) [32]) := by
  rw [Lib.join_cons]
  exact sntAll fun x hx => by
    obtain ⟨j, hj, rfl⟩ := List.getElem_of_mem hx
    exact h j hj
theorem gvNo (E : Int) : gvW (.no E) = .returned (.tuple #[.string ⟨#[]⟩, .int .i64 E]) := rfl
theorem wsJoin (first : ByteArray) (ws : List Wd) : (wsK first ws ws.length).map (·.data.toList) = first.data.toList :: ws.map (·.t) := by
  unfold wsK
  rw [List.take_length, List.map_cons, List.map_map]
  exact congrArg _ (List.map_congr_left fun x _ => bsTo x.t)
theorem wsBound {first : ByteArray} (hf : first.size ≤ 1000) {ws : List Wd} (hws : ∀ x ∈ ws, x.t.length ≤ 1000) (hn : ws.length ≤ 16) : (Lib.join (first.data.toList :: ws.map (·.t)) [32]).length ≤ 140737488355328 := by
  rw [Lib.join_cons, List.length_append]
  have h1 := joinTailLen (l := ws.map (·.t)) (B := 1000) fun x hx => by
    obtain ⟨y, hy, rfl⟩ := List.mem_map.1 hx
    exact hws y hy
  rw [List.length_map] at h1
  have h2 := Nat.mul_le_mul_right 1001 hn
  have h3 : first.data.toList.length = first.size := rfl
  omega
theorem OwnT.below {w w' : World} {base : Nat} {v : Value} {l : List ByteArray} (h : OwnT w base v l) (_ : base ≤ w.heap.size) (hb : Below w.heap.size w w') : OwnT w' base v l :=
  ownChgK h (Chg.ofBelow hb fun _ => True) fun _ _ => trivial
/-- Where the words lie. -/
theorem OwnT.at {w : World} {base : Nat} {v : Value} {l : List ByteArray} (h : OwnT w base v l) (hl : 0 < l.length) : ∃ g c, v = .slice (some ⟨g, 0, none⟩) l.length c ∧ l.length ≤ c ∧ g < w.heap.size ∧ ∀ (j : Nat) x, l[j]? = some x → w.cell? ⟨g, 0 + j, none⟩ = some (.string x) := by
  obtain ⟨A, c, e, hr⟩ := h.rd
  rcases h.2 with ⟨hv, h0⟩ | ⟨g, cap, cur, hv, hbg, hg, hnc, hcm, hcs, htake⟩
  · omega
  · have hx : (sv l).length = l.length := svLen l
    refine ⟨g, cap, hv, by omega, (Array.getElem?_eq_some_iff.1 hg).1, fun j x hj => ?_⟩
    have := World.ownsRow.cells h (g := g) (by rw [hv]; rfl)
    have hj2 : (sv l)[j]? = some (.string x) := by rw [sv, List.getElem?_map, hj]; rfl
    have h2 := this j _ hj2
    have hadd : (⟨g, 0, none⟩ : Addr).add j = ⟨g, 0 + j, none⟩ := by unfold Addr.add; split <;> simp_all
    rw [hadd] at h2
    exact h2
set_option maxRecDepth 100000 in
set_option maxHeartbeats 4000000 in
theorem iSentence (first : ByteArray) (hf : first.size ≤ 1000) (ws : List Wd) (hws : ∀ x ∈ ws, x.t.length ≤ 1000) (A : Option Addr) (n c : Nat) (w : World) (hl : WdL w A n c ws) :
    Calls Tryz.prog 56 #[.string first, .slice A n c] w fun e w' => e = gvW (snt first.data.toList ws) ∧ Below w.heap.size w w' := by
  have hle := hl.le
  have hmx := hl.max
  have HN := Lib.hid hl.len
  have HL := Lib.hid (fun X (hX : Below w.heap.size w X) => hl.below hX)
  obtain ⟨r, hr⟩ : ∃ r, snt first.data.toList ws = r := ⟨_, rfl⟩
  rw [hr]
  have HR := Lib.hid hr
  have HF := Lib.hid hf
  have HWS := Lib.hid hws
  have HO := Lib.hid (ownOne w first w.heap.size (Nat.le_refl _))
  have HB0 := Lib.hid (belowAlloc w (.cells #[.string first] 9))
  have HIN : 0 < n → ∃ b, A = some ⟨b, 0, none⟩ := fun h0 => by
    obtain ⟨b, e, _⟩ := hl.at_ h0
    exact ⟨b, e⟩
  have HIN := Lib.hid HIN
  clear hl hr hf hws
  go_enter Tryz.func56, Tryz.ntmps56
  go_wp2
  go_loopw [6, 15] (fun vw vi wr => ∃ k : Nat, k ≤ n ∧ vi = .int .i64 k ∧ OwnT wr w.heap.size vw (wsK first ws k) ∧ Below w.heap.size w wr ∧ Hid (∀ j (hj : j < ws.length), j < k → ws[j].e = 0)) (fun _ i _ => n - (intOf i).toNat)
  case atStart => exact ⟨0, Nat.zero_le _, rfl, HO.out, HB0.out, Lib.hid fun j _ h => by omega⟩
  case round =>
    obtain ⟨k, hk, rfl, os, hb, HA⟩ := hrel
    by_cases hlt : k < n
    · obtain ⟨b, rfl⟩ := HIN.out (by omega)
      have HKL : Hid (k < ws.length) := Lib.hid (by rw [HN.out]; exact hlt)
      obtain ⟨b2, e2, _, hat⟩ := (HL.out wr hb).at_ (by omega)
      injection e2 with e2
      injection e2 with e2
      subst e2
      obtain ⟨f, L, hc, ⟨f2, L2, e3, he, hcall⟩⟩ := hat k HKL.out
      injection e3 with e3 _ e4
      injection e3 with e3
      subst e3
      subst e4
      have HC := Lib.hid (hcall wr (Below.refl _ _))
      have HOS := Lib.hid os
      have HB := Lib.hid hb
      have hk0 : (0 : Int) ≤ k := by omega
      have hk1 : (k : Int) < n := by omega
      have HE := Lib.hid (show ws[k]'HKL.out = ws[k]'HKL.out from rfl)
      obtain ⟨x, hx⟩ : ∃ x, ws[k]'HKL.out = x := ⟨_, rfl⟩
      have HX := Lib.hid hx
      rw [hx] at HC
      clear hat hcall hx HE
      obtain ⟨t, ex⟩ := x
      by_cases h0 : ex = 0
      · subst h0
        have HNX := Lib.hid (show wsK first ws k ++ [bs t] = wsK first ws (k + 1) by have := wsKnext (first := first) HKL.out; rw [HX.out] at this; exact this)
        have HAN : Hid (∀ j (hj : j < ws.length), j < k + 1 → ws[j].e = 0) := Lib.hid fun j hj hjk => by
          rcases Nat.lt_or_ge j k with h' | h'
          · exact HA.out j hj h'
          · have e : j = k := by omega
            subst e
            rw [HX.out]
        have hwl : (wsK first ws k).length ≤ 100 := by rw [wsKlen first (by rw [HN.out]; exact hk)]; omega
        have HWL := Lib.hid hwl
        clear hwl
        go_wp2_with fail
        refine HC.out.mono ?_
        rintro e w2 ⟨he2, b2⟩
        have he2 : e = .returned (.tuple #[.string (bs t), .int .i64 0]) := he2
        subst he2
        have O2 := Lib.hid (show OwnT w2 w.heap.size _ _ from HOS.out.below (HB.out.size) b2)
        have B2 := Lib.hid (belowThen HB.out b2)
        clear b2
        generalize bs t = s at *
        go_wp2_with (at_builtin; refine appT _ rfl (.tmp 27) (.tmp 29) rfl w.heap.size _ _ rfl (O2.out.alloc _) (some ⟨w2.heap.size, 0, none⟩) 1 1 [s] rfl rfl (svLit w2 s) (by have := HWL.out; simp; omega) (by have := B2.out.size; simp; omega) ?_; intro v3 w3 o3 b3; have B3 := stepA B2.out b3; rw [HNX.out] at o3)
        go_roundw
        case rel => exact ⟨k + 1, by omega, by go_num, o3, B3, HAN⟩
        case measure => simp [intOf]; omega
      · have h0' : (ex != 0) = true := by simpa using h0
        have HZ := Lib.hid (show Wd.no ex = r by
          have := sntBad (acc := first.data.toList) HKL.out HA.out (by rw [HX.out]; exact h0)
          rw [HR.out, HX.out] at this
          exact this.symm)
        clear h0
        go_wp2_with fail
        refine HC.out.mono ?_
        rintro e w2 ⟨he2, b2⟩
        have he2 : e = .returned (.tuple #[.string (bs t), .int .i64 ex]) := he2
        subst he2
        have B2 := Lib.hid (belowThen HB.out b2)
        clear b2
        generalize bs t = s at *
        go_wp2
        go_ret2
        exact ⟨by rw [← HZ.out]; rfl, B2.out⟩
    · have hkn : k = n := by omega
      subst hkn
      have HZ := Lib.hid (show Wd.ok (Lib.join (first.data.toList :: ws.map (·.t)) [32]) = r by
        rw [← HR.out]
        exact (sntGood fun j hj => HA.out j hj (by rw [← HN.out]; exact hj)).symm)
      have hwk : wsK first ws k = wsK first ws ws.length := by rw [HN.out]
      rw [hwk] at os
      have hlw := wsKlen first (Nat.le_refl ws.length)
      obtain ⟨g, cc, rfl, hcc, hgl, hcells⟩ := os.at (by rw [hlw]; omega)
      have HJ := Lib.hid (fun hlen => Tryz.strings_Join g 0 cc (wsK first ws ws.length) ⟨#[32]⟩ wr hcells hgl (by rw [hlw, HN.out]; omega) hcc hlen)
      have HJ2 := Lib.hid (HJ.out (by rw [wsJoin]; exact wsBound HF.out HWS.out (by rw [HN.out]; omega)))
      have HB := Lib.hid hb
      rw [wsJoin] at HJ2
      generalize (wsK first ws ws.length).length = q at HJ2 ⊢
      have HJ3 := HJ2
      clear hcells hwk hlw HJ os hgl hcc hb
      go_wp2_with fail
      refine HJ2.out.mono ?_
      rintro e w2 ⟨rfl, b2⟩
      have B2 := Lib.hid (belowThen HB.out b2)
      clear b2
      go_wp2
      go_ret2
      exact ⟨by rw [← HZ.out]; rfl, B2.out⟩
end Go.Proofs.YtnckpjcfgeajbaaGreatDoor
