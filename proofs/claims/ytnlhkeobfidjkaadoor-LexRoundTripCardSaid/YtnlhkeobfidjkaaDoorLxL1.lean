/-
  The law LexScans returns true for every text.
-/
import Derived.Test.YtnlhkeobfidjkaaDoorLxX
namespace Go.Proofs.YtnlhkeobfidjkaaDoor
open Go Go.RowKit

/-- The tokens and the two numbers of the fault. -/
def flatR : Except (Int × Nat) (List Tok) → List Tok × Int × Int
  | .ok l => (l, 0, 0)
  | .error x => ([], x.1, (x.2 : Int))
/-- What a Scan returns, for both results alike. -/
def GivesFl (r : List Tok × Int × Int) (w : World) (e : Ending) (w' : World) : Prop := ∃ A n c, e = .returned (.tuple #[.slice A n c, .agg #[.int .i64 r.2.1, .int .i64 r.2.2]]) ∧ Hid (r.1.length = n) ∧ Rk w' A c r.1 ∧ Below w.heap.size w w'
theorem GivesTR.flat {r : Except (Int × Nat) (List Tok)} {w w' : World} {e : Ending} (h : GivesTR r w e w') : GivesFl (flatR r) w e w' := by
  obtain ⟨hb, h⟩ := h
  cases r with
  | ok l =>
    obtain ⟨A, n, c, rfl, hn, hr⟩ := h
    exact ⟨A, n, c, rfl, hn, hr, hb⟩
  | error x =>
    have h : e = _ := h
    subst h
    exact ⟨none, 0, 0, rfl, Lib.hid rfl, Rk.nil, hb⟩
theorem scansFl (s : ByteArray) (hs : s.size ≤ 400 ∨ 16384 < s.size) : ∃ r : List Tok × Int × Int, (∀ w, Ev w → Calls Tryd.prog 9 #[.string s] w (GivesFl r w)) ∧ (∀ w, Calls Tryd.prog 10 #[.string s] w (GivesFl r w)) := by
  rcases hs with hs | hs
  · exact ⟨flatR (lexT s.data.toList 0), fun w hE => (iScanIs s (by omega) _ rfl w hE).mono fun _ _ h => h.flat, fun w => (rScanIs s (by omega) _ rfl w).mono fun _ _ h => h.flat⟩
  · exact ⟨flatR (.error (4, 0)), fun w hE => (iScanLong s hs w).mono fun _ _ h => h.flat, fun w => (rScanLong s hs w).mono fun _ _ h => h.flat⟩
/-- The law returned true; what was in memory is as it was. -/
def LawOk9 (w : World) (e : Ending) (w' : World) : Prop := e = .returned (.bool true) ∧ Below w.heap.size w w'
set_option maxRecDepth 100000 in
set_option maxHeartbeats 4000000 in
theorem lawScans (s : ByteArray) (w : World) (hw : Ev w) : Calls Tryd.prog 3 #[.string s] w (LawOk9 w) := by
  have HEV := Lib.hid (fun X (hX : Below w.heap.size w X) => hw.stays hX)
  have HEX := Lib.hid (fun X (hX : Below w.heap.size w X) => exOk9 X (hw.stays hX))
  clear hw
  by_cases h1 : 400 < s.size ∧ s.size ≤ 16384
  · obtain ⟨h1, h2⟩ := h1
    go_enter Tryd.func3, Tryd.ntmps3
    go_wp2_with fail
    refine (HEX.out _ (Below.refl _ _)).mono ?_
    rintro e w' ⟨rfl, b⟩
    go_wp2
    go_ret
    exact ⟨rfl, b⟩
  · have hs : s.size ≤ 400 ∨ 16384 < s.size := by omega
    obtain ⟨⟨l, E, P⟩, hi, hr⟩ := scansFl s hs
    have HI := Lib.hid hi
    have HR := Lib.hid hr
    have HSZ := Lib.hid hs
    clear hi hr h1
    have main : Calls Tryd.prog 3 #[.string s] w (LawOk9 w) := by
      rcases HSZ.out with hs | hs
      all_goals
        clear HSZ
        go_enter Tryd.func3, Tryd.ntmps3
        go_wp2_with fail
        refine (HI.out _ (HEV.out _ (Below.refl _ _))).mono ?_
        rintro e w1 ⟨A, n, c, rfl, hn, r1, b1⟩
        have k1 := Blk.new w1 26 #[.int .i64 E, .int .i64 P]
        have HN := Lib.hid hn.out
        go_wp2_with fail
        refine (HR.out _).mono ?_
        rintro e w2 ⟨B, m, d, rfl, hm, r2, b2⟩
        have K1 := (k1.below' b2).alloc (.cells #[.int .i64 E, .int .i64 P] 26)
        have k2 := Blk.new w2 26 #[.int .i64 E, .int .i64 P]
        have R1 := (r1.below (belowThen (belowAlloc _ _) b2)).alloc (.cells #[.int .i64 E, .int .i64 P] 26)
        have R2 := r2.alloc (.cells #[.int .i64 E, .int .i64 P] 26)
        have B2 := Lib.hid (belowThen b1 (belowThen (belowThen (belowAlloc _ _) b2) (belowAlloc _ (.cells #[.int .i64 E, .int .i64 P] 26))))
        obtain ⟨p0, p1⟩ := boxC K1
        have HS := Lib.hid (rSame l l n m HN.out hm.out A B c d _ R1 R2)
        rw [decide_eq_true rfl] at HS
        clear k1 K1 k2 R1 R2 r1 r2 b1 b2 hn hm
        go_wp2_with fail
        refine HS.out.mono ?_
        rintro e w3 ⟨rfl, b3⟩
        have B3 := Lib.hid (belowThen B2.out b3)
        clear b3
        go_wp2_with fail
        refine (HEX.out _ B3.out).mono ?_
        rintro e w4 ⟨rfl, b4⟩
        go_wp2
        go_ret
        exact ⟨rfl, belowThen B3.out b4⟩
    exact main
end Go.Proofs.YtnlhkeobfidjkaaDoor
