/-
  The contract of the reference's AppendString.
-/
import Derived.Test.YtcbipokohjajoaaFStr
namespace Go.Proofs.Ytcbipokohjajoaa
open Go.RowKit

theorem rAppS (l : List UInt8) (n : Nat) (hn : l.length = n) (hs : n ≤ 100000) (s : ByteArray) (hss : s.size ≤ 100000) (A : Option Addr) (c : Nat) (w : World) (ha : Rb w A c l) :
    Calls Try.prog 28 #[.slice A n c, .string s] w (GivesO (l ++ encL s.size ++ s.data.toList) w) := by
  have HU := Lib.hid (rAppU l n hn (by omega) (s.size : Int) A c w ha)
  have hq := encULen (s.size : Int)
  rw [encUNat (by omega)] at HU hq
  have hlen : (l ++ encL s.size).length ≤ n + 9 := by rw [List.length_append, hn]; omega
  obtain ⟨M, hM⟩ : ∃ M, l ++ encL s.size = M := ⟨_, rfl⟩
  rw [hM] at HU hlen ⊢
  obtain ⟨i0, hi, hz0, hz1, hz2⟩ := info_parts infoB
  have HI := Lib.hid hi
  have HZ0 := Lib.hid hz0
  have HZ1 := Lib.hid hz1
  have HZ2 := Lib.hid hz2
  clear hM ha hn hq hi hz0 hz1 hz2
  go_enter Try.func28, Try.ntmps28
  go_wp2_with fail
  refine HU.out.mono ?_
  rintro e w1 ⟨D, q, f, rfl, hq, o1, b1⟩
  have hq2 := hlen
  rw [hq.out] at hq2
  have O1 := Lib.hid (show w1.ownsRow w.heap.size 5 1 (.slice D q f) q (bv M) by have h := o1; unfold OwnB at h; rwa [hq.out] at h)
  have hz := b1.size
  clear o1
  go_wp2_with (at_builtin; refine Lib.wpList_append_own_string _ rfl (.tmp 8) (.tmp 9) 22 9 rfl w.heap.size 5 i0 Try.underlying22 Try.underlying9 HI.out HZ0.out HZ1.out HZ2.out _ q (bv M) rfl O1.out s rfl (by unfold maxLen; omega) (by omega) hz ?_; intro v2 w2 o2 g2 _)
  go_ret
  have e : bv M ++ Lib.strCells s = bv (M ++ s.data.toList) := by simp [bv, Lib.strCells]
  refine GivesO.of (v := v2) ?_ (b1.trans ((Below.refl _ w1).grown g2 hz fun k hk => (World.ownsRow.lt O1.out k hk).1))
  unfold OwnB
  rw [← e, show (M ++ s.data.toList).length = q + s.size by rw [List.length_append, hq.out]; simp]
  exact o2
end Go.Proofs.Ytcbipokohjajoaa
