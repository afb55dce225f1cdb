/-
  The specification's Leaders.
-/
import Derived.Test.YtpkagpobobmnfaaGreatDoorCCt
import Derived.Test.YtpkagpobobmnfaaGreatDoorCRow
import Derived.Test.YtpkagpobobmnfaaGreatDoorCCf
namespace Go.Proofs.YtpkagpobobmnfaaGreatDoor
open Go Go.RowKit Go.Shelf

theorem infoBool9 : (Tryz.prog.info? 4).map (fun i => (i.zero, i.size, i.bytes)) = some (some (.bool false), 1, 1) := by kernel_rfl
end Go.Proofs.YtpkagpobobmnfaaGreatDoor

namespace Go.Proofs.YtpkagpobobmnfaaGreatDoor
open Go Go.RowKit Go.Shelf

theorem RowB.bools9 {w : World} {g n : Nat} {E : Nat → Bool} (h : RowB w g n E) {a : Addr} {u : Value} (hu : w.cell? a = some u) (hb : ∀ b, u ≠ .bool b) : a.block ≠ g := by
  intro e
  rcases h.2 with ⟨h2, _⟩ | ⟨k, cap, cur, hv, _, hg, hn, hm, hs, ht⟩
  · cases h2
  · injection hv with e1 _ e3
    injection e1 with e1
    injection e1 with e1
    subst e1; subst e3
    unfold World.cell? at hu
    rw [e, hg] at hu
    simp only at hu
    split at hu
    · cases hu
    · have h1 : cur.toList[a.off]? = some u := by simpa using hu
      have h2 : a.off < cur.toList.length := (List.getElem?_eq_some_iff.1 h1).1
      rw [List.take_of_length_le (by rw [Array.length_toList]; omega)] at ht
      rw [ht, List.getElem?_map] at h1
      cases e2 : (bl n E)[a.off]? with
      | none => rw [e2] at h1; cases h1
      | some b => rw [e2] at h1; exact hb b (by simpa using h1.symm)
set_option maxRecDepth 100000 in
theorem cutBH (A : Option Addr) (n c k : Nat) (hk : k ≤ c) (W : World) : (Instr.sliceAt 74 (.slice A n c) none (some (.int .i64 (k : Int))) none).run Tryz.prog W = .ok (.slice A k c) W := by
  rw [run_sliceAt_slice (h := Tryz.underlying74), run_slice_h (ht := Tryz.underlying74) (h0 := by omega) (h2 := by omega)]
  have : (sizeOf (Tryz.prog.elem 74)).run Tryz.prog W = .ok 1 W := by kernel_rfl
  rw [this]
  simp [Result.andThen, sliced]
  intro _
  cases A <;> rfl
def isZ (x : Nat) : Bool := decide (x = 0)
theorem wtFirst {n : Nat} {g : Nat → List Nat} {d : Int} : PsT n g (avd n d) isZ 0 (updB (fun _ => false) 0 (d != 0)) :=
  psStart (fun _ hx => (avdIff.1 hx).1) fun x hx => by
    have := (avdIff.1 hx).2
    unfold updB isZ
    by_cases e : x = 0
    · subst e
      rw [if_pos rfl, decide_eq_true rfl]
      simp
      omega
    · rw [if_neg e, decide_eq_false e]
theorem wtFirstN {d : Int} {x : Nat} (h : updB (fun _ => false) 0 (d != 0) x = true) : (x : Int) ≠ d := by
  unfold updB at h
  split at h
  · rename_i e
    subst e
    simp at h
    omega
  · cases h
/-- A pass over the table T that has seen the instructions below i: it holds E now. -/
structure WtSt (n : Nat) (g : Nat → List Nat) (d : Int) (T : Nat → Bool) (i : Nat) (E : Nat → Bool) : Prop where
  up : ∀ x, avd n d x = true → T x = true → E x = true
  sub : ∀ x, avd n d x = true → E x = true → ∃ s, isZ s = true ∧ Rc g (avd n d) s x
  cl : ∀ j, j < i → avd n d j = true → T j = true → ∀ y, y ∈ g j → avd n d y = true → E y = true
  no : ∀ x, E x = true → (x : Int) ≠ d
section
variable {n : Nat} {g : Nat → List Nat} {d : Int} {T E : Nat → Bool} {i p : Nat}
theorem wtStart (h : PsT n g (avd n d) isZ p T) (hn : ∀ x, T x = true → (x : Int) ≠ d) : WtSt n g d T 0 T := ⟨fun _ _ h => h, h.sub, (fun _ h => absurd h (Nat.not_lt_zero _)), hn⟩
theorem wtNext (h : PsT n g (avd n d) isZ p T) (hw : WtSt n g d T n E) : PsT n g (avd n d) isZ (p + 1) E :=
  psNext (fun _ hx => (avdIff.1 hx).1) h hw.up hw.sub fun i hi hT => hw.cl i (avdIff.1 hi).1 hi hT
theorem wtNo (h : WtSt n g d T i E) (hE : E i = false) : WtSt n g d T (i + 1) E := ⟨h.up, h.sub, fun j hj ha hT => by
  by_cases e : j = i
  · subst e
    rw [h.up j ha hT] at hE
    cases hE
  · exact h.cl j (by omega) ha hT, h.no⟩
/-- Among the successors l of i those below k have been put in. -/
structure WtIn (n : Nat) (g : Nat → List Nat) (d : Int) (T : Nat → Bool) (i : Nat) (l : List Int) (k : Nat) (E : Nat → Bool) : Prop extends WtSt n g d T i E where
  me : E i = true
  put : ∀ (j y : Nat), j < k → l[j]? = some (y : Int) → (y : Int) ≠ d → E y = true
theorem wtIn0 {l : List Int} (h : WtSt n g d T i E) (hE : E i = true) : WtIn n g d T i l 0 E := ⟨h, hE, fun _ _ h => absurd h (Nat.not_lt_zero _)⟩
theorem wtPut {l : List Int} {k y : Nat} (h : WtIn n g d T i l k E) (hi : i < n) (hy : y ∈ g i) (hl : l[k]? = some (y : Int)) (hd : (y : Int) ≠ d) : WtIn n g d T i l (k + 1) (with_ E y) := by
  refine ⟨⟨fun x ha hT => withIff.2 (.inl (h.up x ha hT)), fun x ha hx => ?_, fun j hj ha hT z hz hza => withIff.2 (.inl (h.cl j hj ha hT z hz hza)), fun x hx => ?_⟩, withIff.2 (.inl h.me), fun j z hj hlz hz => ?_⟩
  · rcases withIff.1 hx with hx | rfl
    · exact h.sub x ha hx
    · obtain ⟨s, hs, hr⟩ := h.sub i (avdIff.2 ⟨hi, h.no i h.me⟩) h.me
      exact ⟨s, hs, hr.snoc hy ha⟩
  · rcases withIff.1 hx with hx | rfl
    · exact h.no x hx
    · exact hd
  · by_cases e : j = k
    · subst e
      rw [hl] at hlz
      have : (y : Int) = z := Option.some.inj hlz
      exact withIff.2 (.inr (by omega))
    · exact withIff.2 (.inl (h.put j z (by omega) hlz hz))
theorem wtKeep {l : List Int} {k y : Nat} (h : WtIn n g d T i l k E) (hl : l[k]? = some (y : Int)) (hd : (y : Int) = d) : WtIn n g d T i l (k + 1) E :=
  ⟨h.toWtSt, h.me, fun j z hj hlz hz => by
    by_cases e : j = k
    · subst e
      rw [hl] at hlz
      have : (y : Int) = z := Option.some.inj hlz
      omega
    · exact h.put j z (by omega) hlz hz⟩
theorem wtEnd {l : List Int} {k : Nat} (h : WtIn n g d T i l k E) (hk : l.length ≤ k) (hl : ∀ y, y ∈ g i → (y : Int) ∈ l) : WtSt n g d T (i + 1) E := ⟨h.up, h.sub, fun j hj ha hT y hy hya => by
  by_cases e : j = i
  · subst e
    obtain ⟨q, hq⟩ := List.mem_iff_getElem?.1 (hl y hy)
    exact h.put q y (Nat.lt_of_lt_of_le (List.getElem?_eq_some_iff.1 hq).1 hk) hq (avdIff.1 hya).2
  · exact h.cl j (by omega) ha hT y hy hya, h.no⟩
theorem wtRes (h : PsT n g (avd n d) isZ n T) (hn : ∀ x, T x = true → (x : Int) ≠ d) {x : Nat} (hx : x < n) : T x = rcB n g d x := by
  rw [Bool.eq_iff_iff, rcIff]
  by_cases e : (x : Int) = d
  · exact ⟨fun h => absurd e (hn x h), fun h => absurd e (avdIff.1 h.right).2⟩
  · rw [psEnd h (avdIff.2 ⟨hx, e⟩)]
    unfold isZ
    exact ⟨fun ⟨s, hs, hr⟩ => (of_decide_eq_true hs) ▸ hr, fun hr => ⟨0, rfl, hr⟩⟩
end
/-- The call returns a table of Booleans. -/
def GivesT9 (n : Nat) (F : Nat → Bool) (w : World) (e : Ending) (w' : World) : Prop := ∃ gb n1 E, e = .returned (.slice (some ⟨gb, 0, none⟩) n n1) ∧ RowB w' gb n1 E ∧ n ≤ n1 ∧ n1 ≤ 4096 ∧ (∀ x, x < n → E x = F x) ∧ w.heap.size ≤ gb ∧ Below w.heap.size w w'
set_option maxRecDepth 100000 in
set_option maxHeartbeats 4000000 in
theorem rWithout (nm : ByteArray) (C : List I8) (hok : CfOk C) (n : Nat) (hn : C.length = n) (d : Int) (A : Option Addr) (c : Nat) (w : World) (hr : RdE 8 EI w A c C) :
    Calls Tryz.prog 35 #[fnV nm A n c, .int .i64 d] w (GivesT9 n (rcB n (sc C) d) w) := by
  obtain ⟨W, hW⟩ : ∃ W, w.alloc (.cells #[.string nm, .slice A n c] 24) = W := ⟨_, rfl⟩
  have hbW : Below w.heap.size w W := by rw [← hW]; exact belowAlloc w _
  have hB : Blk W w.heap.size 24 #[.string nm, .slice A n c] := by rw [← hW]; exact Blk.new w _ _
  have HKB := Lib.hid (fun X (hX : Below W.heap.size W X) => (⟨(hB.below' hX).cell 0, (hB.below' hX).cell 1⟩ : X.cell? ⟨w.heap.size, 0, none⟩ = some (.string nm) ∧ X.cell? ⟨w.heap.size, 1, none⟩ = some (.slice A n c)))
  obtain ⟨k0, k1⟩ := HKB.out W (Below.refl _ _)
  have HSC := Lib.hid (fun i (hi : i < n) X (hX : Below W.heap.size W X) => rSucc nm C hok n hn i hi A c X ((hr.below stabI hbW).below stabI hX))
  have HLE := Lib.hid (fun i y (hy : y ∈ sc C i) => (scLe hok hy).2)
  rw [hn] at HLE
  have HMEM := Lib.hid (fun i (x : Int) => scSMem (C := C) (k := i) (x := x))
  unfold fnV at HSC ⊢
  have hle := hr.le
  have hmx := hr.max
  have h64 := hok.len
  rw [hn] at hle h64
  unfold maxLen at hmx
  obtain ⟨i0, hi, hz0, hz1, hz2⟩ := info_parts infoBool9
  obtain ⟨n1, hn1⟩ : ∃ n1, n + 1 = n1 := ⟨_, rfl⟩
  have hwn : IntKind.i64.wrap ((n : Int) + 1) = (n1 : Int) := by rw [IntKind.wrap_i64]; omega
  have HBY := Lib.hid (show i0.bytes * n1 ≤ 281474976710656 by rw [hz2]; omega)
  have HNM := Lib.hid (show n1 ≤ maxLen by unfold maxLen; omega)
  obtain ⟨g, hg⟩ : ∃ g, sc C = g := ⟨_, rfl⟩
  rw [hg] at HLE HMEM ⊢
  obtain ⟨sl, hsl⟩ : ∃ sl, scS C = sl := ⟨_, rfl⟩
  rw [hsl] at HSC HMEM
  have HSL := Lib.hid (fun i => (show (sl i).length ≤ 2 by rw [← hsl]; exact scSLen))
  have hcut := cutBH
  have HCUT := Lib.hid (fun gb => cutBH (some ⟨gb, 0, none⟩) n1 n1 n (by omega))
  have HBW := Lib.hid hbW
  have HWE := Lib.hid hW
  clear hB hW hr hok hn hg hsl hbW hcut
  go_enter Tryz.func35, Tryz.ntmps35
  go_wp2_with (first
    | (at_make; rw [HWE.out]; refine wpList_make_full _ rfl (.tmp 13) (.tmp 13) 74 rfl 0 4 i0 _ 1 Tryz.underlying74 hi hz0 hz1 .i64 .i64 _ _ n1 rfl rfl rfl rfl HBY.out HNM.out (Nat.zero_le _) ?_; intro w2 o2 g2; have hrow := RowB.made o2; have hbe : Below W.heap.size W w2 := (Below.refl _ W).grown g2 (Nat.le_refl _) (fun k hk => by cases hk); have f0 := hrow.frozen 0; have c0 := hrow.cell (i := 0) (by omega); have HR0 := Lib.hid (hrow.put 0 (d != 0)); have HBE := Lib.hid hbe; clear o2 g2 hrow hbe)
    | fail)
  have hzw : W.heap.size ≤ W.heap.size := Nat.le_refl _
  have HB1 := Lib.hid (belowSet9 HBE.out ⟨W.heap.size, 0, none⟩ (.bool (d != 0)) hzw)
  have HP0 := Lib.hid (wtFirst (n := n) (g := g) (d := d))
  have HN0 := Lib.hid (fun x (h : updB (fun _ => false) 0 (d != 0) x = true) => wtFirstN h)
  clear k0 k1 hi hz0 hz1 hz2 HBE f0 c0
  go_loopw [6] (fun v X => ∃ (p : Nat) (T : Nat → Bool), p ≤ n ∧ v = .int .i64 p ∧ Hid (PsT n g (avd n d) isZ p T) ∧ Hid (∀ x, T x = true → (x : Int) ≠ d) ∧ Hid (RowB X W.heap.size n1 T) ∧ Hid (Below W.heap.size W X)) (fun v _ => n - (intOf v).toNat)
  case atStart => exact ⟨0, _, Nat.zero_le _, rfl, HP0, HN0, HR0, HB1⟩
  case round =>
    clear HP0 HN0 HR0 HB1
    obtain ⟨p, T, hp, rfl, HP, HNO, HRW, HB⟩ := hrel
    obtain ⟨k0, k1⟩ := HKB.out wr HB.out
    by_cases hpn : p < n
    · have HW0 := Lib.hid (wtStart HP.out HNO.out)
      go_wp2_with fail
      clear k0 k1
      go_loopw [7] (fun v X => ∃ (i : Nat) (E : Nat → Bool), i ≤ n ∧ v = .int .i64 i ∧ Hid (WtSt n g d T i E) ∧ Hid (RowB X W.heap.size n1 E) ∧ Hid (Below W.heap.size W X)) (fun v _ => n - (intOf v).toNat)
      case atStart => exact ⟨0, T, Nat.zero_le _, rfl, HW0, HRW, HB⟩
      case round =>
        clear HW0 HRW HB
        obtain ⟨i, E, hi, rfl, HWS, HRW, HB⟩ := hrel
        obtain ⟨k0, k1⟩ := HKB.out wr HB.out
        by_cases hin : i < n
        · have HC := Lib.hid (HSC.out i hin wr HB.out)
          go_wp2_with fail
          refine HC.out.mono ?_
          rintro e w4 ⟨A8, c8, rfl, r8, b4⟩
          have hq2 := HSL.out i
          obtain ⟨q, hq⟩ : ∃ q, (sl i).length = q := ⟨_, rfl⟩
          have hle8 := r8.le
          have hmx8 := r8.max
          rw [hq] at hle8 hq2 ⊢
          unfold maxLen at hmx8
          have HQ := Lib.hid hq
          have HR4 := Lib.hid (HRW.out.chg (Chg.ofBelow b4 fun _ => True) trivial)
          have HB4 := Lib.hid (belowThen HB.out b4)
          have HR8 := Lib.hid r8
          have HNE : Hid (∀ ad, A8 = some ad → 0 < (sl i).length → ad.block ≠ W.heap.size) := Lib.hid fun ad ha hl => by
            obtain ⟨ad', e', _, hc⟩ := r8.one hl
            rw [ha] at e'
            injection e' with e'
            subst e'
            have := HR4.out.bools9 hc (fun b e => by cases e)
            rwa [addBlock] at this
          clear r8 b4 hq k0 k1 HRW HB
          cases hE : E i with
          | false =>
            have HWN := Lib.hid (wtNo HWS.out hE)
            have hEi := Lib.hid hE
            clear hE
            go_wp2_with fail
            go_loopw [9] (fun v X => v = .int .i64 0 ∧ Hid (RowB X W.heap.size n1 E) ∧ Hid (Below W.heap.size W X)) (fun _ _ => 0)
            case atStart => exact ⟨rfl, HR4, HB4⟩
            case round =>
              clear HR4 HB4
              obtain ⟨rfl, HR5, HB5⟩ := hrel
              have ce := HR5.out.cell (i := i) (by omega)
              rw [hEi.out] at ce
              have hi0 : (0 : Int) ≤ i := by omega
              have hi1 : (i : Int) < n1 := by omega
              by_cases hq0 : 0 < q
              · have d1 : decide ((0 : Int) < (q : Int)) = true := decide_eq_true (by omega)
                go_wp2
                all_goals first
                  | (exfalso; omega)
                  | go_roundw
                all_goals first
                  | exact ⟨i + 1, E, by omega, by go_num, HWN, HR5, HB5⟩
                  | (simp only [intOf]; omega)
              · have d1 : decide ((0 : Int) < (q : Int)) = false := decide_eq_false (by omega)
                go_wp2
                all_goals first
                  | (exfalso; omega)
                  | go_roundw
                all_goals first
                  | exact ⟨i + 1, E, by omega, by go_num, HWN, HR5, HB5⟩
                  | (simp only [intOf]; omega)
          | true =>
            have HW0 := Lib.hid (wtIn0 (l := sl i) HWS.out hE)
            clear hE
            go_wp2_with fail
            go_loopw [9] (fun v X => ∃ (k : Nat) (E' : Nat → Bool), k ≤ q ∧ v = .int .i64 k ∧ Hid (WtIn n g d T i (sl i) k E') ∧ Hid (RowB X W.heap.size n1 E') ∧ Hid (Rd X A8 c8 (sl i)) ∧ Hid (Below W.heap.size W X)) (fun v _ => q - (intOf v).toNat)
            case atStart => exact ⟨0, E, Nat.zero_le _, rfl, HW0, HR4, HR8, HB4⟩
            case round =>
              clear HW0 HR4 HR8 HB4
              obtain ⟨k, E', hk, rfl, HWI, HR5, HR9, HB5⟩ := hrel
              have ce := HR5.out.cell (i := i) (by omega)
              rw [HWI.out.me] at ce
              have hi0 : (0 : Int) ≤ i := by omega
              have hi1 : (i : Int) < n1 := by omega
              have hk0 : (0 : Int) ≤ k := by omega
              by_cases hkq : k < q
              · have hkl : k < (sl i).length := by rw [HQ.out]; exact hkq
                have hk1 : (k : Int) < q := by omega
                have d1 : decide ((k : Int) < (q : Int)) = true := decide_eq_true (by omega)
                obtain ⟨ad, eA, _, cl⟩ := HR9.out.one hkl
                have hne := HNE.out ad eA (by omega)
                obtain ⟨y, hy, hyx⟩ := (HMEM.out i (sl i)[k]).1 (List.getElem_mem hkl)
                rw [hyx] at cl
                have HGK := Lib.hid (show (sl i)[k]? = some (y : Int) by rw [List.getElem?_eq_getElem hkl, hyx])
                have hyn := HLE.out i y hy
                have hy1 : y < n1 := by omega
                have hy0 : (0 : Int) ≤ y := by omega
                have hy2 : (y : Int) < n1 := by omega
                by_cases hyd : (y : Int) = d
                · have hb9 : ((y : Int) != d) = false := by simpa using hyd
                  have HNX := Lib.hid (wtKeep HWI.out HGK.out hyd)
                  subst eA
                  clear hy hyx hyd
                  go_wp2
                  all_goals first
                    | (exfalso; omega)
                    | go_roundw
                  all_goals first
                    | exact ⟨k + 1, E', by omega, by go_num, HNX, HR5, HR9, HB5⟩
                    | (simp only [intOf]; omega)
                · have hb9 : ((y : Int) != d) = true := by simpa using hyd
                  have HNX := Lib.hid (wtPut HWI.out hin hy HGK.out hyd)
                  have HR6 := Lib.hid (HR5.out.set y)
                  have HB6 := Lib.hid (belowSet9 HB5.out ⟨W.heap.size, y, none⟩ (.bool true) hzw)
                  have HR10 := Lib.hid (HR9.out.chg (Chg.setCell wr ⟨W.heap.size, y, none⟩ (.bool true)) HNE.out)
                  have cy := HR5.out.cell hy1
                  have fy := HR5.out.frozen y
                  subst eA
                  clear hy hyx hyd
                  go_wp2
                  all_goals first
                    | (exfalso; omega)
                    | go_roundw
                  all_goals first
                    | exact ⟨k + 1, with_ E' y, by omega, by go_num, HNX, HR6, HR10, HB6⟩
                    | (simp only [intOf]; omega)
              · have d1 : decide ((k : Int) < (q : Int)) = false := decide_eq_false (by omega)
                have HWN := Lib.hid (wtEnd HWI.out (by rw [HQ.out]; omega) fun y hy => (HMEM.out i (y : Int)).2 ⟨y, hy, rfl⟩)
                go_wp2
                all_goals first
                  | (exfalso; omega)
                  | go_roundw
                all_goals first
                  | exact ⟨i + 1, E', by omega, by go_num, HWN, HR5, HB5⟩
                  | (simp only [intOf]; omega)
        · obtain rfl : i = n := by omega
          have HPN := Lib.hid (wtNext HP.out HWS.out)
          have HNN := Lib.hid HWS.out.no
          go_wp2
          all_goals first
            | (exfalso; omega)
            | go_roundw
          all_goals first
            | exact ⟨p + 1, E, by omega, by go_num, HPN, HNN, HRW, HB⟩
            | (simp only [intOf]; omega)
    · obtain rfl : p = n := by omega
      have HFN := Lib.hid (fun x (hx : x < p) => wtRes HP.out HNO.out hx)
      have HFB := Lib.hid (belowThen HBW.out HB.out)
      have hcut := HCUT.out W.heap.size
      have hzz := HBW.out.size
      go_wp2
      all_goals first
        | (exfalso; omega)
        | (go_ret; exact ⟨W.heap.size, n1, T, rfl, HRW.out, by omega, by omega, HFN.out, by omega, HFB.out⟩)
end Go.Proofs.YtpkagpobobmnfaaGreatDoor
