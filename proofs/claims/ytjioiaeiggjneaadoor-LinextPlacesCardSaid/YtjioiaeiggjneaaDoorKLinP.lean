/-
  The contract of predecessorsOf: for each number the set of those that stand before it.
-/
import Derived.Test.YtjioiaeiggjneaaDoorKLinO
import Derived.Test.YtjioiaeiggjneaaDoorKRowU
import Derived.Test.YtjioiaeiggjneaaDoorKRDef
import Derived.Deep.OwnRows
import Derived.Deep.RegionHeld3
import Derived.StillTailTactics
import Derived.LoopTactic
namespace Go.Proofs.YtjioiaeiggjneaaDoor
open Go.RowKit

set_option maxRecDepth 100000 in
set_option maxHeartbeats 2000000 in
theorem iPreds (N : Nat) (hN : N ≤ 64) (l : Prs) (n : Nat) (hn : l.length = n) (hv : okR N l = true) (A : Option Addr) (c : Nat) (w : World) (ha : Rp w A c l) :
    Calls Tryd.prog 32 #[relV N A n c] w fun e w' => ∃ g, e = .returned (.slice (some ⟨g, 0, none⟩) N N) ∧ Bef w' (some ⟨g, 0, none⟩) N N (hasP l) ∧ Below w.heap.size w w' := by
  have hla := ha.le
  have hca := ha.max
  unfold maxLen at hca
  rw [hn] at hla
  have HN := Lib.hid hn
  have HV := Lib.hid hv
  clear hn hv
  have hmk := run_make_row' (P := Tryd.prog) 43 51 (.int .u64 0) 8 Tryd.underlying43 infoSet rfl .i64 .i64 N (by omega) (by omega)
  go_enter Tryd.func32, Tryd.ntmps32
  go_wp2
  obtain ⟨W, hW⟩ : ∃ W, (w.alloc (.cells #[.int .i64 N, .slice A n c] 24)).alloc (.cells (madeCells #[.int .u64 0] N) 51) = W := ⟨_, rfl⟩
  rw [hW]
  have hbW : Below w.heap.size w W := by rw [← hW]; exact (belowAlloc w _).alloc (by simp) _
  have hzW : W.heap.size = w.heap.size + 2 := by rw [← hW]; simp
  have hro : RowU W (w.heap.size + 1) N (fun _ => 0) := rowUNew (by rw [← hW]; have h := heap_alloc_new (w.alloc (.cells #[.int .i64 N, .slice A n c] 24)) (.cells (madeCells #[.int .u64 0] N) 51); rwa [World.size_alloc] at h) (by unfold maxLen; omega)
  have HA0 := Lib.hid ha
  have HA := Lib.hid (ha.below hbW); clear ha hmk hW
  go_loopw [12] (fun v wr => ∃ (k : Nat) (B : Nat → Nat), k ≤ n ∧ v = .int .i64 k ∧ Hid (RowU wr (w.heap.size + 1) N B) ∧ Hid (PrdTo N l k B) ∧ Hid (Chg W wr (fun q => q ≠ w.heap.size + 1))) (fun v _ => n - (intOf v).toNat)
  case atStart => exact ⟨0, _, Nat.zero_le _, rfl, Lib.hid hro, Lib.hid prdStart, Lib.hid (Chg.refl _ _)⟩
  case round =>
    clear hro
    obtain ⟨k, B, hk, rfl, HR, HP, HC⟩ := hrel
    by_cases hlt : k < n
    · have hkl : k < l.length := by rw [HN.out]; exact hlt
      have hbw : Below w.heap.size w wr := hbW.trans ⟨HC.out.os, HC.out.tape, HC.out.output, HC.out.size, fun g hg => HC.out.block g (by omega) (by omega)⟩
      obtain ⟨b0, off, rfl, had, hc1, hc2⟩ := (HA0.out.below hbw).one hkl
      have hin := (okIff.1 HV.out).2.2 _ (List.getElem_mem hkl)
      unfold inR at hin
      obtain ⟨a, ea⟩ : ∃ a : Nat, l[k].1 = (a : Int) := ⟨l[k].1.toNat, by omega⟩
      obtain ⟨b, eb⟩ : ∃ b : Nat, l[k].2 = (b : Int) := ⟨l[k].2.toNat, by omega⟩
      have haN : a < N := by omega
      have hbN : b < N := by omega
      have HNX := Lib.hid (prdNext hN HP.out hkl ea eb haN)
      rw [ea] at hc1
      rw [eb] at hc2
      clear hin ea eb
      have hi1 : (0 : Int) ≤ (b : Int) := by omega
      have hi2 : (b : Int) < (N : Int) := by omega
      have hcb := HR.out.cell hbN
      have hfz := HR.out.frozen b
      obtain ⟨m, hm⟩ : ∃ m, B b = m := ⟨_, rfl⟩
      have hml : m < B64 := by rw [← hm]; exact HP.out.lt b hbN
      have HW := Lib.hid (fun w' => iWith m a hml (by omega) w')
      have HNX' := Lib.hid (show PrdTo N l (k + 1) (setN B b (addS m a)) by rw [← hm]; exact HNX.out)
      rw [hm] at hcb
      go_wp2_with fail
      obtain ⟨V, hV⟩ : ∃ V, wr.alloc (.cells #[.int .i64 a, .int .i64 b] 35) = V := ⟨_, rfl⟩
      have hwb := HR.out.lt
      have HCV : Hid (Chg W V (fun q => q ≠ w.heap.size + 1)) := by rw [← hV]; exact Lib.hid (HC.out.trans (Chg.alloc wr _ fun _ => True) fun _ _ _ => trivial)
      have HRV : Hid (RowU V (w.heap.size + 1) N B) := by rw [← hV]; exact Lib.hid (HR.out.chg (Chg.alloc wr _ fun _ => True) trivial)
      have v0 : V.cell? ⟨wr.heap.size, 0, none⟩ = some (.int .i64 a) := by rw [← hV]; unfold World.cell?; rw [heap_alloc_new]; rfl
      have v1 : V.cell? ⟨wr.heap.size, 1, none⟩ = some (.int .i64 b) := by rw [← hV]; unfold World.cell?; rw [heap_alloc_new]; rfl
      have hcb := HRV.out.cell hbN
      rw [hm] at hcb
      have hfz := HRV.out.frozen b
      have HSV := Lib.hid ((show RowU V.drew (w.heap.size + 1) N B from HRV.out).set b (addS m a))
      have HCW := Lib.hid ((HCV.out.trans (Chg.drewN V 1 fun _ => True) fun _ _ _ => trivial).trans (Chg.setCell V.drew ⟨w.heap.size + 1, b, none⟩ (.int .u64 (addS m a))) fun _ _ h => h)
      rw [hV]
      go_region_with (refine (HW.out _).mono ?_; rintro e w' ⟨rfl, rfl⟩)
      all_goals go_wp2
      all_goals exact ⟨⟨k + 1, _, by omega, by go_num, HSV, HNX', HCW⟩, by simp [intOf]; omega⟩
    · obtain rfl : k = n := by omega
      have HFIN := Lib.hid ((HR.out.congr (T := prdS N (hasP l)) fun x hx => prdEnd HP.out (by rw [HN.out]; exact Nat.le_refl _) hx).bef hN)
      have hbr : Below w.heap.size w wr := hbW.trans ⟨HC.out.os, HC.out.tape, HC.out.output, HC.out.size, fun g hg => HC.out.block g (by omega) (by omega)⟩
      go_wp2
      go_ret
      exact ⟨_, rfl, HFIN.out, hbr⟩
end Go.Proofs.YtjioiaeiggjneaaDoor
