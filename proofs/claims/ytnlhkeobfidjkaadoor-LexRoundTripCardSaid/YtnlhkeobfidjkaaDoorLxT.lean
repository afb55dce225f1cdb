/-
  The contract of the specification's token: the token that begins a text, or its error.
-/
import Derived.Test.YtnlhkeobfidjkaaDoorLxR
import Derived.Test.YtnlhkeobfidjkaaDoorLxS
import Derived.Test.YtnlhkeobfidjkaaDoorRefParse
namespace Go.Proofs.YtnlhkeobfidjkaaDoor
open Go Go.RowKit

/-- The token at the beginning of a text: kind, text, number, error. -/
def refT : List UInt8 → Int × List UInt8 × Int × Int
  | [] => (0, [], 0, 14)
  | c :: r => if cls c ≤ 2 then (0, [], 0, 14) else match mkTok parE parV (cls c) (c :: r.take (more c r)) 0 with
    | .ok t => (t.kind, t.text, t.n, 0)
    | .error e => (0, [], 0, e.1)
theorem impU8 (p q : UInt8 → Bool) (h : ((List.range 256).all fun n => !p (UInt8.ofNat n) || q (UInt8.ofNat n)) = true) {c : UInt8} (hp : p c = true) : q c = true := by
  have := allU8 (fun c => !p c || q c) h c
  simp only [hp] at this
  simpa using this
theorem clsSym {c : UInt8} (h : isSym c = true) : cls c = 5 := by have := impU8 isSym (fun c => cls c == 5) (by decide +kernel) h; simpa using this
theorem clsLet {c : UInt8} (h : isLet c = true) : cls c = 3 := by have := impU8 isLet (fun c => cls c == 3) (by decide +kernel) h; simpa using this
theorem clsNum {c : UInt8} (h : (c == 45 || isDg c) = true) : cls c = 4 := by have := impU8 (fun c => c == 45 || isDg c) (fun c => cls c == 4) (by decide +kernel) h; simpa using this
theorem clsNone {c : UInt8} (h : (c == 10 || isSym c || isLet c || (c == 45 || isDg c)) = false) : cls c ≤ 2 := by
  have := impU8 (fun c => !(c == 10 || isSym c || isLet c || (c == 45 || isDg c))) (fun c => decide (cls c ≤ 2)) (by decide +kernel) (c := c) (by simp only [h]; rfl)
  simpa using this
section
variable {s : ByteArray} (h0 : 0 < s.size)
include h0
theorem dat0 : s.data.toList = s[0] :: s.data.toList.drop 1 := by have := dropAt s h0; rwa [List.drop_zero] at this
theorem refLine (h : s[0] = 10) : refT s.data.toList = (4, [10], 0, 0) := by
  rw [dat0 h0, refT, h, cls10, if_neg (by decide)]
  have : more 10 (s.data.toList.drop 1) = 0 := by
    unfold more; rw [cls10]
    cases s.data.toList.drop 1 with
    | nil => rfl
    | cons a u => rw [List.takeWhile_cons]; simp [rst]
  rw [this]; rfl
theorem refSym (h : isSym s[0] = true) : refT s.data.toList = (3, (s.extract 0 1).data.toList, 0, 0) := by
  have hc := clsSym h
  have hm : more s[0] (s.data.toList.drop 1) = 0 := by
    unfold more; rw [hc]
    cases s.data.toList.drop 1 with
    | nil => rfl
    | cons a u => rw [List.takeWhile_cons]; simp [rst]
  have e1 : (s.extract 0 1).data.toList = [s[0]] := by rw [Lib.extract_data, List.drop_zero, dat0 h0]; rfl
  rw [e1, dat0 h0, refT, hc, if_neg (by decide), hm]; rfl
variable {M : Nat} (hM : 1 + ((s.data.toList.drop 1).takeWhile isWd).length = M)
include hM
theorem refText (hc : cls s[0] = 3 ∨ cls s[0] = 4) : (s.extract 0 M).data.toList = s[0] :: (s.data.toList.drop 1).take (more s[0] (s.data.toList.drop 1)) := by
  have hm : more s[0] (s.data.toList.drop 1) = M - 1 := by
    have e : rst (cls s[0]) = isWd := by rcases hc with h | h <;> rw [h] <;> rfl
    unfold more; rw [e]; omega
  rw [Lib.extract_data, List.drop_zero, Nat.sub_zero, hm]
  conv => lhs; rw [dat0 h0, show M = (M - 1) + 1 by omega, List.take_succ_cons]
theorem refWord (h : isLet s[0] = true) : refT s.data.toList = (1, (s.extract 0 M).data.toList, 0, 0) := by
  have hc := clsLet h
  have e := refText h0 hM (.inl hc)
  conv => lhs; rw [dat0 h0]
  rw [refT, ← e, hc, if_neg (by decide)]; rfl
theorem refNum (h : (s[0] == 45 || isDg s[0]) = true) : refT s.data.toList = if parE (s.extract 0 M).data.toList = 0 then (2, (s.extract 0 M).data.toList, parV (s.extract 0 M).data.toList, 0) else (0, [], 0, parE (s.extract 0 M).data.toList) := by
  have hc := clsNum h
  have e := refText h0 hM (.inr hc)
  conv => lhs; rw [dat0 h0]
  rw [refT, ← e, hc, if_neg (by decide)]
  show (match (if parE _ = 0 then _ else _ : Except (Int × Nat) Tok) with | .ok t => _ | .error e => _) = _
  split <;> (rename_i h; split at h) <;> cases h <;> simp_all
end
theorem refNone {s : ByteArray} (h0 : 0 < s.size) (h : (s[0] == 10 || isSym s[0] || isLet s[0] || (s[0] == 45 || isDg s[0])) = false) : refT s.data.toList = (0, [], 0, 14) := by
  rw [dat0 h0, refT, if_pos (clsNone h)]
/-- What token gives behind its loop: a letter begins the text, a minus sign, a digit; the text, its number, its error. -/
def refIf (le mi dg : Bool) (T : List UInt8) (V N : Int) : Int × List UInt8 × Int × Int := if le then (1, T, 0, 0) else if (mi || dg) then (if N = 0 then (2, T, V, 0) else (0, [], 0, N)) else (0, [], 0, 14)
theorem stored4 {W : World} {b : Nat} {T : TypeId} {x y z t : Value} (h : Blk W b T #[x, y, z, t]) (u v p q : Value) : Blk ((((W.setCell ⟨b, 0, none⟩ u).setCell ⟨b, 1, none⟩ v).setCell ⟨b, 2, none⟩ p).setCell ⟨b, 3, none⟩ q) b T #[u, v, p, q] := (((h.set 0 u).set 1 v).set 2 p).set 3 q
theorem below4 {W X : World} {B b : Nat} (h : Below B W X) (hb : B ≤ b) (u v p q : Value) : Below B W ((((X.setCell ⟨b, 0, none⟩ u).setCell ⟨b, 1, none⟩ v).setCell ⟨b, 2, none⟩ p).setCell ⟨b, 3, none⟩ q) := (((h.setCell hb u).setCell hb v).setCell hb p).setCell hb q
theorem boxF4 {w : World} {b : Nat} {T : TypeId} {x y z t : Value} (h : Blk w b T #[x, y, z, t]) : w.cell? ⟨b, 0, none⟩ = some x ∧ w.cell? ⟨b, 1, none⟩ = some y ∧ w.cell? ⟨b, 2, none⟩ = some z ∧ w.cell? ⟨b, 3, none⟩ = some t ∧ w.frozen? ⟨b, 0, none⟩ = false ∧ w.frozen? ⟨b, 1, none⟩ = false ∧ w.frozen? ⟨b, 2, none⟩ = false ∧ w.frozen? ⟨b, 3, none⟩ = false := ⟨h.cell 0, h.cell 1, h.cell 2, h.cell 3, h.frozen 0, h.frozen 1, h.frozen 2, h.frozen 3⟩
theorem infoTok4 : (Tryd.prog.info? 40).map (·.size) = some 4 := by kernel_rfl
/-- What token returns. -/
def tokV (t : Int × List UInt8 × Int × Int) : Ending := .returned (.tuple #[.agg #[.int .i64 t.1, .string (bs t.2.1), .int .i64 t.2.2.1, .int .i64 0], .int .i64 t.2.2.2])
set_option maxRecDepth 100000 in
set_option maxHeartbeats 4000000 in
theorem rToken (s : ByteArray) (h0 : 0 < s.size) (hs : s.size ≤ 281474976710656) (w : World) : Calls Tryd.prog 20 #[.string s] w fun e w' => e = tokV (refT s.data.toList) ∧ Below w.heap.size w w' := by
  obtain ⟨M, hM⟩ : ∃ M, 1 + ((s.data.toList.drop 1).takeWhile isWd).length = M := ⟨_, rfl⟩
  have HM := Lib.hid hM
  have hMs : M ≤ s.size := by
    have h1 := (List.takeWhile_prefix (l := s.data.toList.drop 1) isWd).length_le
    rw [List.length_drop] at h1
    have e : s.data.toList.length = s.size := rfl
    omega
  have h10 : ((s[0].toNat : Int) == 10) = (s[0] == 10) := u8eq s[0] 10
  have h45 : ((s[0].toNat : Int) == 45) = (s[0] == 45) := u8eq s[0] 45
  have HS := Lib.hid (fun X => rSymbol s[0] X)
  have HL := Lib.hid (fun X => rLetter s[0] X)
  have HD := Lib.hid (fun X => rDigit s[0] X)
  have HI := Lib.hid (fun k (hk : k < s.size) X => rInWord s[k] X)
  clear hM
  rcases g1 : s[0] == 10 with _ | _
  rotate_left
  · have HX := Lib.hid (refLine h0 (by simpa using g1))
    rw [g1] at h10
    clear g1 h45
    go_enter Tryd.func20, Tryd.ntmps20
    go_wp2
    refine bodyPost_ret ((Blk.new w _ _).res2 rfl _ rfl Tryd.underlying40 rfl infoTok4) rfl ?_
    rw [HX.out]
    exact ⟨rfl, belowAlloc _ _⟩
  rcases g2 : isSym s[0] with _ | _
  rotate_left
  · have HX := Lib.hid (refSym h0 g2)
    rw [g2] at HS
    rw [g1] at h10
    clear g1 g2 h45
    go_enter Tryd.func20, Tryd.ntmps20
    go_wp2_with fail
    refine (HS.out _).mono ?_
    rintro e w' ⟨rfl, rfl⟩
    go_wp2
    refine bodyPost_ret ((Blk.new w _ _).res2 rfl _ rfl Tryd.underlying40 rfl infoTok4) rfl ?_
    rw [HX.out]
    exact ⟨rfl, belowAlloc _ _⟩
  have hloop : ∀ (Q : Exit → Act → World → Prop), True := fun _ => trivial
  clear hloop
  rw [g2] at HS
  rw [g1] at h10
  have HX : Hid (refT s.data.toList = refIf (isLet s[0]) (s[0] == 45) (isDg s[0]) (s.extract 0 M).data.toList (parV (s.extract 0 M).data.toList) (parE (s.extract 0 M).data.toList)) := Lib.hid (by
    unfold refIf
    rcases g3 : isLet s[0] with _ | _
    · rw [if_neg Bool.false_ne_true]
      rcases g4 : (s[0] == 45 || isDg s[0]) with _ | _
      · rw [if_neg Bool.false_ne_true]
        exact refNone h0 (by rw [g1, g2, g3, g4]; rfl)
      · rw [if_pos rfl]
        exact refNum h0 HM.out g4
    · rw [if_pos rfl]
      exact refWord h0 HM.out g3)
  have hsz : (s.extract 0 M).size ≤ 281474976710656 := by rw [ByteArray.size_extract]; omega
  have HP := Lib.hid (fun X => rPar (s.extract 0 M) hsz X)
  generalize parV (s.extract 0 M).data.toList = V at HX HP
  generalize parE (s.extract 0 M).data.toList = N at HX HP
  generalize isLet s[0] = le at HX HL
  generalize isDg s[0] = dg at HX HD
  generalize (s[0] == 45) = mi at HX h45
  clear g1 g2 hsz
  go_enter Tryd.func20, Tryd.ntmps20
  go_wp2_with fail
  refine (HS.out _).mono ?_
  rintro e w' ⟨rfl, rfl⟩
  go_wp2
  go_loopw [5] (fun vk wr => ∃ k : Nat, 1 ≤ k ∧ k ≤ s.size ∧ vk = .int .i64 k ∧ wr = w.alloc (.cells #[.int .i64 0, .string ⟨#[]⟩, .int .i64 0, .int .i64 0] 40) ∧ Hid (k + ((s.data.toList.drop k).takeWhile isWd).length = M)) (fun i _ => s.size - (intOf i).toNat)
  case atStart => exact ⟨1, Nat.le_refl _, by omega, rfl, by trivial, HM⟩
  case round =>
    obtain ⟨k, hk1, hk, rfl, rfl, HA⟩ := hrel
    by_cases hkl : k < s.size
    · have hk0 : (0 : Int) ≤ k := by omega
      have hk1 : (k : Int) < s.size := by omega
      have dk : decide ((k : Int) < s.size) = true := by simpa using hkl
      have HIK := Lib.hid (HI.out k hkl)
      rcases g3 : isWd s[k] with _ | _
      · have HY := Lib.hid (show k = M by rw [← HA.out, twStop s isWd hkl g3]; rfl)
        rw [g3] at HIK
        clear g3
        have hY := HY.out
        subst hY
        cases le
        · cases mi
          · cases dg
            · go_wp2_with fail
              refine (HIK.out _).mono ?_
              rintro e w' ⟨rfl, rfl⟩
              go_wp2_with fail
              refine (HL.out _).mono ?_
              rintro e w' ⟨rfl, rfl⟩
              go_wp2_with fail
              refine (HD.out _).mono ?_
              rintro e w' ⟨rfl, rfl⟩
              go_wp2
              refine bodyPost_ret ((Blk.new w _ _).res2 rfl _ rfl Tryd.underlying40 rfl infoTok4) rfl ?_
              rw [HX.out]
              exact ⟨rfl, belowAlloc _ _⟩
            · by_cases hN : N = 0
              · have hn : (N != 0) = false := by rw [hN]; rfl
                go_wp2_with fail
                refine (HIK.out _).mono ?_
                rintro e w' ⟨rfl, rfl⟩
                go_wp2_with fail
                refine (HL.out _).mono ?_
                rintro e w' ⟨rfl, rfl⟩
                go_wp2_with fail
                refine (HD.out _).mono ?_
                rintro e w' ⟨rfl, rfl⟩
                go_wp2_with fail
                refine (HP.out _).mono ?_
                rintro e w' ⟨rfl, rfl⟩
                go_wp2
                refine bodyPost_ret ((Blk.new w _ _).res2 rfl _ rfl Tryd.underlying40 rfl infoTok4) rfl ?_
                rw [HX.out, show refIf false false true (s.extract 0 k).data.toList V N = (2, (s.extract 0 k).data.toList, V, 0) by simp [refIf, hN]]
                exact ⟨rfl, belowAlloc _ _⟩
              · have hn : (N != 0) = true := by simpa using hN
                go_wp2_with fail
                refine (HIK.out _).mono ?_
                rintro e w' ⟨rfl, rfl⟩
                go_wp2_with fail
                refine (HL.out _).mono ?_
                rintro e w' ⟨rfl, rfl⟩
                go_wp2_with fail
                refine (HD.out _).mono ?_
                rintro e w' ⟨rfl, rfl⟩
                go_wp2_with fail
                refine (HP.out _).mono ?_
                rintro e w' ⟨rfl, rfl⟩
                go_wp2
                refine bodyPost_ret ((Blk.new w _ _).res2 rfl _ rfl Tryd.underlying40 rfl infoTok4) rfl ?_
                rw [HX.out, show refIf false false true (s.extract 0 k).data.toList V N = (0, [], 0, N) by simp [refIf, hN]]
                exact ⟨rfl, belowAlloc _ _⟩
          · by_cases hN : N = 0
            · have hn : (N != 0) = false := by rw [hN]; rfl
              go_wp2_with fail
              refine (HIK.out _).mono ?_
              rintro e w' ⟨rfl, rfl⟩
              go_wp2_with fail
              refine (HL.out _).mono ?_
              rintro e w' ⟨rfl, rfl⟩
              go_wp2_with fail
              refine (HP.out _).mono ?_
              rintro e w' ⟨rfl, rfl⟩
              go_wp2
              refine bodyPost_ret ((Blk.new w _ _).res2 rfl _ rfl Tryd.underlying40 rfl infoTok4) rfl ?_
              rw [HX.out, show refIf false true dg (s.extract 0 k).data.toList V N = (2, (s.extract 0 k).data.toList, V, 0) by simp [refIf, hN]]
              exact ⟨rfl, belowAlloc _ _⟩
            · have hn : (N != 0) = true := by simpa using hN
              go_wp2_with fail
              refine (HIK.out _).mono ?_
              rintro e w' ⟨rfl, rfl⟩
              go_wp2_with fail
              refine (HL.out _).mono ?_
              rintro e w' ⟨rfl, rfl⟩
              go_wp2_with fail
              refine (HP.out _).mono ?_
              rintro e w' ⟨rfl, rfl⟩
              go_wp2
              refine bodyPost_ret ((Blk.new w _ _).res2 rfl _ rfl Tryd.underlying40 rfl infoTok4) rfl ?_
              rw [HX.out, show refIf false true dg (s.extract 0 k).data.toList V N = (0, [], 0, N) by simp [refIf, hN]]
              exact ⟨rfl, belowAlloc _ _⟩
        · go_wp2_with fail
          refine (HIK.out _).mono ?_
          rintro e w' ⟨rfl, rfl⟩
          go_wp2_with fail
          refine (HL.out _).mono ?_
          rintro e w' ⟨rfl, rfl⟩
          go_wp2
          refine bodyPost_ret ((Blk.new w _ _).res2 rfl _ rfl Tryd.underlying40 rfl infoTok4) rfl ?_
          rw [HX.out]
          exact ⟨rfl, belowAlloc _ _⟩
      · have HY := Lib.hid (show k + 1 + ((s.data.toList.drop (k + 1)).takeWhile isWd).length = M by rw [← HA.out, twGo s isWd hkl g3]; omega)
        rw [g3] at HIK
        clear g3
        go_wp2_with fail
        refine (HIK.out _).mono ?_
        rintro e w' ⟨rfl, rfl⟩
        go_wp2
        go_roundw
        case rel => exact ⟨k + 1, by omega, by omega, by go_num, by trivial, HY⟩
        case measure => simp [intOf]; omega
    · have HY := Lib.hid (show k = M by rw [← HA.out, twEnd s isWd (by omega)]; rfl)
      have dk : decide ((k : Int) < s.size) = false := by simp; omega
      have hY := HY.out
      subst hY
      cases le
      · cases mi
        · cases dg
          · go_wp2_with fail
            refine (HL.out _).mono ?_
            rintro e w' ⟨rfl, rfl⟩
            go_wp2_with fail
            refine (HD.out _).mono ?_
            rintro e w' ⟨rfl, rfl⟩
            go_wp2
            refine bodyPost_ret ((Blk.new w _ _).res2 rfl _ rfl Tryd.underlying40 rfl infoTok4) rfl ?_
            rw [HX.out]
            exact ⟨rfl, belowAlloc _ _⟩
          · by_cases hN : N = 0
            · have hn : (N != 0) = false := by rw [hN]; rfl
              go_wp2_with fail
              refine (HL.out _).mono ?_
              rintro e w' ⟨rfl, rfl⟩
              go_wp2_with fail
              refine (HD.out _).mono ?_
              rintro e w' ⟨rfl, rfl⟩
              go_wp2_with fail
              refine (HP.out _).mono ?_
              rintro e w' ⟨rfl, rfl⟩
              go_wp2
              refine bodyPost_ret ((Blk.new w _ _).res2 rfl _ rfl Tryd.underlying40 rfl infoTok4) rfl ?_
              rw [HX.out, show refIf false false true (s.extract 0 k).data.toList V N = (2, (s.extract 0 k).data.toList, V, 0) by simp [refIf, hN]]
              exact ⟨rfl, belowAlloc _ _⟩
            · have hn : (N != 0) = true := by simpa using hN
              go_wp2_with fail
              refine (HL.out _).mono ?_
              rintro e w' ⟨rfl, rfl⟩
              go_wp2_with fail
              refine (HD.out _).mono ?_
              rintro e w' ⟨rfl, rfl⟩
              go_wp2_with fail
              refine (HP.out _).mono ?_
              rintro e w' ⟨rfl, rfl⟩
              go_wp2
              refine bodyPost_ret ((Blk.new w _ _).res2 rfl _ rfl Tryd.underlying40 rfl infoTok4) rfl ?_
              rw [HX.out, show refIf false false true (s.extract 0 k).data.toList V N = (0, [], 0, N) by simp [refIf, hN]]
              exact ⟨rfl, belowAlloc _ _⟩
        · by_cases hN : N = 0
          · have hn : (N != 0) = false := by rw [hN]; rfl
            go_wp2_with fail
            refine (HL.out _).mono ?_
            rintro e w' ⟨rfl, rfl⟩
            go_wp2_with fail
            refine (HP.out _).mono ?_
            rintro e w' ⟨rfl, rfl⟩
            go_wp2
            refine bodyPost_ret ((Blk.new w _ _).res2 rfl _ rfl Tryd.underlying40 rfl infoTok4) rfl ?_
            rw [HX.out, show refIf false true dg (s.extract 0 k).data.toList V N = (2, (s.extract 0 k).data.toList, V, 0) by simp [refIf, hN]]
            exact ⟨rfl, belowAlloc _ _⟩
          · have hn : (N != 0) = true := by simpa using hN
            go_wp2_with fail
            refine (HL.out _).mono ?_
            rintro e w' ⟨rfl, rfl⟩
            go_wp2_with fail
            refine (HP.out _).mono ?_
            rintro e w' ⟨rfl, rfl⟩
            go_wp2
            refine bodyPost_ret ((Blk.new w _ _).res2 rfl _ rfl Tryd.underlying40 rfl infoTok4) rfl ?_
            rw [HX.out, show refIf false true dg (s.extract 0 k).data.toList V N = (0, [], 0, N) by simp [refIf, hN]]
            exact ⟨rfl, belowAlloc _ _⟩
      · go_wp2_with fail
        refine (HL.out _).mono ?_
        rintro e w' ⟨rfl, rfl⟩
        go_wp2
        refine bodyPost_ret ((Blk.new w _ _).res2 rfl _ rfl Tryd.underlying40 rfl infoTok4) rfl ?_
        rw [HX.out]
        exact ⟨rfl, belowAlloc _ _⟩
end Go.Proofs.YtnlhkeobfidjkaaDoor
