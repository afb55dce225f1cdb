/-
  The contracts of the iterator numbers and of next.
-/
import Derived.Test.YtjioiaeiggjneaaDoorKLinO
import Derived.Test.YtjioiaeiggjneaaDoorKRange
import Derived.Shelf.Abstract
import Derived.Shelf.RegionOpen
import Derived.OwnWalkIn
import Derived.TacticsInMore
import Derived.LoopNIn
import Derived.LoopIn
namespace Go.Proofs.YtjioiaeiggjneaaDoor
open Go.RowKit Go.Shelf
attribute [local go_sem] Oper.semAt_some

/-- The table stays where it is. -/
def KeepT (W W' : World) : Prop := Tbl W → Tbl W'
theorem keepT_b {B : Nat} (W : World) (l : Nat) (o o' : Obj) (_ : B ≤ l) (h : W.heap[l]? = some o) (hc : o.isCells = false) (_ : o.isWalk = false) : KeepT W (W.putObj l o') := fun hT j hj => by
  have h1 := hT j hj
  refine (World.cell?_of_block (World.putObj_heap_other fun e => ?_)).trans h1
  have e : 0 = l := e
  subst e
  rw [World.cell?, h] at h1
  cases o <;> first | (cases hc; done) | (simp at h1; done)
theorem enters47 : ∀ args w, (callFunc 19 args).run Tryd.prog w = .ok (.enter 19 args) w := enters_of Tryd.func19 (by kernel_rfl) rfl

set_option maxHeartbeats 1000000 in
theorem numsB (n : Nat) (hn : 3 ≤ n) (s : Nat) (hs : s < B64) (w : World) (hT : Tbl w) :
    SeqB Fence.wide n Tryd.prog 19 #[.int .u64 s] (fun i : Nat => #[Value.int .i64 i]) KeepT (bitsOf s) w := fun l J Jx W hW hJ hJx hY h0 => by
  refine callsIn_of_wp Tryd.func19 rfl trivial ?_ rfl
  simp only [Tryd.ntmps19, List.size_toArray, List.length_cons, List.length_nil, Nat.reduceAdd, Nat.reduceSub, Array.replicate_succ, Array.replicate_zero, List.push_toArray, List.append_toArray, List.nil_append, List.cons_append]
  have HTW := Lib.hid (hT.below hW)
  gi_wp2
  gi_loopw [4] (fun v wr => ∃ (m : Nat) (pre : List Nat), v = .int .u64 m ∧ m < B64 ∧ Hid (bitsOf s = pre ++ bitsOf m) ∧ J pre wr ∧ Hid (Tbl wr)) (fun v _ => (bitsOf (intOf v).toNat).length)
  case atStart => exact ⟨s, [], rfl, hs, Lib.hid rfl, h0, HTW⟩
  case round =>
    obtain ⟨m, pre, rfl, hm, HB, hJs, HT⟩ := hrel
    by_cases hz : m = 0
    · subst hz
      have hp : bitsOf s = pre := by rw [HB.out, bitsZero, List.append_nil]
      gi_wp2
      go_end0
      exact ⟨⟨_, rfl⟩, .inl (by rw [hp]; exact hJs)⟩
    · have hq : ((m : Int) != 0) = true := by simp; omega
      have hc := bitsCons hm hz
      have hlow := (lowIs hm hz).1
      have HL := Lib.hid (iLow m hm hz wr HT.out)
      have hr : rmS m (lowS m) < B64 := subLt _ _
      obtain ⟨fn, tmps, assign, body, hy, hR⟩ := hY pre (lowS m) (bitsOf (rmS m (lowS m))) wr (by rw [HB.out, hc]) hJs
      have HB2 := Lib.hid (show bitsOf s = (pre ++ [lowS m]) ++ bitsOf (rmS m (lowS m)) by rw [HB.out, hc, List.append_assoc]; rfl)
      have hlen : (bitsOf (rmS m (lowS m))).length < (bitsOf m).length := by rw [hc]; simp
      have HW := Lib.hid (fun w' => iWithout m (lowS m) hlow w')
      clear hc
      obtain ⟨x, hx⟩ : ∃ x, lowS m = x := ⟨_, rfl⟩
      obtain ⟨r, hr'⟩ : ∃ r, rmS m x = r := ⟨_, rfl⟩
      rw [hx, hr'] at HB2 hlen HW hr
      rw [hx] at HL hR hy
      clear hx hr'
      gi_wp2_with fail
      refine ⟨trivial, fun _ => by omega, (callsIn_wide.2 HL.out).mono ?_⟩
      rintro e w' ⟨rfl, rfl⟩
      gi_wp2_with fail
      refine ⟨fun _ => by omega, hR.mono ?_⟩
      rintro e W3 (⟨rfl, hJ3, hk3⟩ | ⟨rfl, hJx3⟩)
      · have HT3 := Lib.hid (hk3 HT.out)
        gi_wp2_with fail
        refine ⟨trivial, fun _ => by omega, (callsIn_wide.2 (HW.out _)).mono ?_⟩
        rintro e w' ⟨rfl, rfl⟩
        gi_wp2_with fail
        go_roundw
        case rel => exact ⟨r, pre ++ [x], rfl, hr, HB2, hJ3, HT3⟩
        case measure => simpa [intOf] using hlen
      · gi_wp2_with fail
        refine bodyPost_ret (results_none rfl _ _ _) rfl ?_
        exact ⟨⟨_, rfl⟩, .inr ⟨pre ++ [x], hJx3⟩⟩
end Go.Proofs.YtjioiaeiggjneaaDoor
