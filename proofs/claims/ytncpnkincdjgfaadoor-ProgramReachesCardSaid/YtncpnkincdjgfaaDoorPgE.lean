/-
  The chapter's example: the contract of the function that makes it.
-/
import Derived.Test.YtncpnkincdjgfaaDoorPgS
import Derived.Test.YtncpnkincdjgfaaDoorPgZ
namespace Go.Proofs.YtncpnkincdjgfaaDoor
open Go Go.RowKit

def exF : List I8 := [⟨21, 1, 0, 0, 1, 0, 0, 0⟩]
def exG (t : Int) : List I8 := [⟨7, 0, 0, 0, 0, 0, 0, 0⟩, ⟨4, 0, 0, 0, 0, t, 0, 0⟩]
def exP (t : Int) : Prg := { vars := [], muts := [], conds := [], funcs := [(⟨#[102]⟩, exF), (⟨#[103]⟩, exG t)], thr := [(0, 0)] }
theorem seven (W : World) (o1 o2 o3 o4 o5 o6 o7 : Obj) {Z : World} (hZ : ((((((W.alloc o1).alloc o2).alloc o3).alloc o4).alloc o5).alloc o6).alloc o7 = Z) :
    (Z.heap[W.heap.size]? = some o1 ∧ Z.heap[W.heap.size + 1]? = some o2 ∧ Z.heap[W.heap.size + 1 + 1]? = some o3 ∧ Z.heap[W.heap.size + 1 + 1 + 1]? = some o4 ∧ Z.heap[W.heap.size + 1 + 1 + 1 + 1]? = some o5 ∧ Z.heap[W.heap.size + 1 + 1 + 1 + 1 + 1]? = some o6 ∧ Z.heap[W.heap.size + 1 + 1 + 1 + 1 + 1 + 1]? = some o7) ∧ Below W.heap.size W Z := by
  subst hZ
  have new : ∀ (X : World) (o : Obj) (k : Nat), X.heap.size = k → (X.alloc o).heap[k]? = some o := fun X o k h => h ▸ World.alloc_heap_new X o
  have old : ∀ (X : World) (o o' : Obj) (k : Nat), X.heap[k]? = some o' → (X.alloc o).heap[k]? = some o' := fun X o o' k h => ((belowAlloc X o).block k (Array.getElem?_eq_some_iff.1 h).1).trans h
  refine ⟨⟨old _ _ _ _ (old _ _ _ _ (old _ _ _ _ (old _ _ _ _ (old _ _ _ _ (old _ _ _ _ (new _ _ _ rfl)))))), old _ _ _ _ (old _ _ _ _ (old _ _ _ _ (old _ _ _ _ (old _ _ _ _ (new _ _ _ (by simp)))))), old _ _ _ _ (old _ _ _ _ (old _ _ _ _ (old _ _ _ _ (new _ _ _ (by simp))))), old _ _ _ _ (old _ _ _ _ (old _ _ _ _ (new _ _ _ (by simp)))), old _ _ _ _ (old _ _ _ _ (new _ _ _ (by simp))), old _ _ _ _ (new _ _ _ (by simp)), new _ _ _ (by simp)⟩, ?_⟩
  exact belowAl (belowAl (belowAl (belowAl (belowAl (belowAl (belowAl (Below.refl _ W) _) _) _) _) _) _) _
set_option maxRecDepth 100000 in
set_option maxHeartbeats 1000000 in
theorem iExample (t : Int) (w : World) : Calls Tryd.prog 19 #[.int .i64 t] w fun e w' => ∃ a : PgA, e = .returned a.val ∧ PgW w' a (exP t) ∧ Below w.heap.size w w' := by
  obtain ⟨Z, hZ⟩ : ∃ Z, (((((((w.alloc (.cells #[.slice none 0 0, .slice none 0 0, .slice none 0 0, .slice (some ⟨w.heap.size + 1 + 1 + 1 + 1 + 1, 0, none⟩) 2 2, .slice (some ⟨w.heap.size + 1 + 1 + 1 + 1 + 1 + 1, 0, none⟩) 1 1] 27)).alloc (.cells #[.int .i64 21, .int .i64 1, .int .i64 0, .int .i64 0, .int .i64 1, .int .i64 0, .int .i64 0, .int .i64 0] 40)).alloc (.cells #[.string ⟨#[102]⟩, .slice (some ⟨w.heap.size + 1, 0, none⟩) 1 1] 35)).alloc (.cells #[.int .i64 7, .int .i64 0, .int .i64 0, .int .i64 0, .int .i64 0, .int .i64 0, .int .i64 0, .int .i64 0, .int .i64 4, .int .i64 0, .int .i64 0, .int .i64 0, .int .i64 0, .int .i64 t, .int .i64 0, .int .i64 0] 40)).alloc (.cells #[.string ⟨#[103]⟩, .slice (some ⟨w.heap.size + 1 + 1 + 1, 0, none⟩) 2 2] 35)).alloc (.cells #[.string ⟨#[102]⟩, .slice (some ⟨w.heap.size + 1, 0, none⟩) 1 1, .string ⟨#[103]⟩, .slice (some ⟨w.heap.size + 1 + 1 + 1, 0, none⟩) 2 2] 35)).alloc (.cells #[.int .i64 0, .int .i64 0] 44)) = Z := ⟨_, rfl⟩
  obtain ⟨⟨h0, h1, _, h3, _, h5, h6⟩, hb⟩ := seven w _ _ _ _ _ _ _ hZ
  have b0 : Blk Z w.heap.size 27 _ := h0
  have b1 : Blk Z (w.heap.size + 1) 40 _ := h1
  have b3 : Blk Z (w.heap.size + 1 + 1 + 1) 40 _ := h3
  have b5 : Blk Z (w.heap.size + 1 + 1 + 1 + 1 + 1) 35 _ := h5
  have b6 : Blk Z (w.heap.size + 1 + 1 + 1 + 1 + 1 + 1) 44 _ := h6
  have HZ := Lib.hid hZ
  have H0 := Lib.hid b0
  have hc1 : RdE 8 EI Z (some ⟨w.heap.size + 1, 0, none⟩) 1 exF := ⟨Nat.le_refl _, by decide, fun _ => ⟨_, 0, rfl, b1.lt, fun j hj => by
    have hj' : j < 1 := hj
    obtain rfl : j = 0 := by omega
    exact ⟨b1.cell 0, b1.cell 1, b1.cell 2, b1.cell 3, b1.cell 4, b1.cell 5, b1.cell 6, b1.cell 7⟩⟩⟩
  have hc3 : RdE 8 EI Z (some ⟨w.heap.size + 1 + 1 + 1, 0, none⟩) 2 (exG t) := ⟨Nat.le_refl _, by decide, fun _ => ⟨_, 0, rfl, b3.lt, fun j hj => by
    have hj' : j < 2 := hj
    have hc : j = 0 ∨ j = 1 := by omega
    rcases hc with rfl | rfl
    · exact ⟨b3.cell 0, b3.cell 1, b3.cell 2, b3.cell 3, b3.cell 4, b3.cell 5, b3.cell 6, b3.cell 7⟩
    · exact ⟨b3.cell 8, b3.cell 9, b3.cell 10, b3.cell 11, b3.cell 12, b3.cell 13, b3.cell 14, b3.cell 15⟩⟩⟩
  have HP := Lib.hid (show PgW Z ⟨none, 0, 0, none, 0, 0, none, 0, 0, some ⟨w.heap.size + 1 + 1 + 1 + 1 + 1, 0, none⟩, 2, 2, some ⟨w.heap.size + 1 + 1 + 1 + 1 + 1 + 1, 0, none⟩, 1, 1⟩ (exP t) from
    ⟨rfl, rfl, rfl, rfl, rfl, RdE.nil, RdE.nil, RdE.nil, ⟨Nat.le_refl _, by show 2 ≤ maxLen; decide, fun _ => ⟨_, 0, rfl, b5.lt, fun j hj => by
        have hj' : j < 2 := hj
        have hc : j = 0 ∨ j = 1 := by omega
        rcases hc with rfl | rfl
        · exact ⟨b5.cell 0, _, b5.cell 1, _, _, _, rfl, rfl, hc1⟩
        · exact ⟨b5.cell 2, _, b5.cell 3, _, _, _, rfl, rfl, hc3⟩⟩⟩,
      ⟨Nat.le_refl _, by show 1 ≤ maxLen; decide, fun _ => ⟨_, 0, rfl, b6.lt, fun j hj => by
        have hj' : j < 1 := hj
        obtain rfl : j = 0 := by omega
        exact ⟨b6.cell 0, b6.cell 1⟩⟩⟩⟩)
  have HB := Lib.hid hb
  clear h0 h1 h3 h5 h6 b0 b1 b3 b5 b6 hc1 hc3 hb hZ
  go_enter Tryd.func19, Tryd.ntmps19
  go_wp2
  rw [HZ.out]
  exact bodyPost_ret (H0.out.res rfl _ rfl Tryd.underlying27 rfl (by kernel_rfl)) rfl ⟨_, rfl, HP.out, HB.out⟩
end Go.Proofs.YtncpnkincdjgfaaDoor
