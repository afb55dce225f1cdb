/-
  The contracts of SortedFunc at pairs and of normal: the pairs of a set, in order.
-/
import Derived.Test.YtpfdhjmhoggioaaRColl
import Derived.Test.YtpfdhjmhoggioaaRCmp
import Derived.Test.YtpfdhjmhoggioaaSortShelf
import Derived.Shelf.SlSortCmp.NoneTotal
namespace Go.Proofs.Ytpfdhjmhoggioaa
open Go.RowKit Go.Maps Go.Sort Go.Shelf

/-- p stands before q. -/
def ltP (p q : Int × Int) : Prop := p.1 < q.1 ∨ (p.1 = q.1 ∧ p.2 < q.2)
def SrtP (l : Prs) : Prop := l.Pairwise ltP
theorem ltPAnti {p q : Int × Int} (h : ltP p q) (h' : ltP q p) : p = q := by unfold ltP at h h'; omega
theorem srtPNodup {l : Prs} (h : SrtP l) : l.Nodup := h.imp fun {p q} h e => by subst e; unfold ltP at h; omega
theorem srtPExt {a b : Prs} (ha : SrtP a) (hb : SrtP b) (h : ∀ p, p ∈ a ↔ p ∈ b) : a = b :=
  List.Perm.eq_of_pairwise (le := ltP) (fun _ _ _ _ h1 h2 => ltPAnti h1 h2) ha hb ((List.perm_ext_iff_of_nodup (srtPNodup ha) (srtPNodup hb)).2 h)
theorem rowSrt (f : Nat → Nat → Bool) (a : Nat) : ∀ k b, SrtP (rowP f a b k)
  | 0, _ => List.Pairwise.nil
  | k + 1, b => by
    rw [rowP]
    refine List.pairwise_append.2 ⟨by split <;> simp, rowSrt f a k (b + 1), fun p hp q hq => ?_⟩
    obtain ⟨x, y⟩ := q
    obtain ⟨h1, c, h2, h3, _, _⟩ := (rowMem f a x y k (b + 1)).1 hq
    split at hp
    · obtain rfl : p = ((a : Int), (b : Int)) := by simpa using hp
      exact .inr ⟨h1.symm, by show (b : Int) < y; omega⟩
    · cases hp
theorem nrmFromSrt (f : Nat → Nat → Bool) (n : Nat) : ∀ k a, SrtP (nrmFrom f n a k)
  | 0, _ => List.Pairwise.nil
  | k + 1, a => by
    rw [nrmFrom]
    refine List.pairwise_append.2 ⟨rowSrt f a n 0, nrmFromSrt f n k (a + 1), fun p hp q hq => ?_⟩
    obtain ⟨x, y⟩ := q
    obtain ⟨x', y'⟩ := p
    obtain ⟨d, c, h1, h2, h3, _, _, _⟩ := (nrmFromMem f n x y k (a + 1)).1 hq
    obtain ⟨h4, _⟩ := (rowMem f a x' y' n 0).1 hp
    exact .inl (by show x' < x; omega)
theorem nrmSrt (n : Nat) (f : Nat → Nat → Bool) : SrtP (nrm n f) := nrmFromSrt f n n 0

theorem cmpINeg {x y : Int} : cmpI x y < 0 ↔ x < y := by
  unfold cmpI
  by_cases h1 : x < y
  · simp [h1]
  · by_cases h2 : y < x <;> simp [h1, h2]
theorem cmpIZero {x y : Int} : cmpI x y = 0 ↔ x = y := by
  unfold cmpI
  by_cases h1 : x < y
  · simp [h1]; omega
  · by_cases h2 : y < x
    · simp [h1, h2]; omega
    · simp [h1, h2]; omega
theorem ltOfP (p q : Int × Int) : ltOf cmpP p q = true ↔ ltP p q := by
  unfold ltOf cmpP ltP
  rw [decide_eq_true_iff]
  by_cases h : cmpI p.1 q.1 = 0
  · rw [if_neg (by simpa using h), cmpINeg]
    have := cmpIZero.1 h
    omega
  · rw [if_pos h, cmpINeg]
    have : p.1 ≠ q.1 := fun e => h (cmpIZero.2 e)
    omega
theorem ltOfPNo {p q : Int × Int} : ltOf cmpP p q = false ↔ ¬ ltP p q := by rw [← ltOfP]; simp
theorem swoP : SWO (ltOf cmpP) where
  irrefl p := by rw [ltOfPNo]; unfold ltP; omega
  trans p q r h1 h2 := by rw [ltOfP] at *; unfold ltP at *; omega
  ntrans p q r h1 h2 := by rw [ltOfPNo] at *; unfold ltP at *; omega
theorem totP (p q : Int × Int) (h : ltOf cmpP p q = false) (h' : ltOf cmpP q p = false) : p = q := by
  rw [ltOfPNo] at *
  unfold ltP at *
  exact Prod.ext (by omega) (by omega)
/-- The pairs in order. -/
def sortP (l : Prs) : Prs := l.mergeSort fun x y => !(ltOf cmpP) y x
theorem sortPMem {l : Prs} {p : Int × Int} : p ∈ sortP l ↔ p ∈ l := (List.mergeSort_perm l _).mem_iff
theorem sortPLen (l : Prs) : (sortP l).length = l.length := List.length_mergeSort l
theorem sortPSrt {l : Prs} (h : l.Nodup) : SrtP (sortP l) := by
  have h1 := List.pairwise_mergeSort (le := fun x y : Int × Int => !(ltOf cmpP) y x) (fun a b c h1 h2 => by
    rw [Bool.not_eq_true'] at *; exact swoP.ntrans c b a h2 h1) (fun a b => by
    cases h1 : ltOf cmpP b a
    · rfl
    · cases h2 : ltOf cmpP a b
      · rfl
      · rw [ltOfP] at h1 h2; unfold ltP at h1 h2; omega) l
  have h2 : (sortP l).Nodup := (List.mergeSort_perm l _).nodup_iff.2 h
  refine (List.pairwise_and_iff.2 ⟨h1, h2⟩).imp fun {p q} ⟨h3, h4⟩ => ?_
  rw [Bool.not_eq_true', ltOfPNo] at h3
  unfold ltP at h3 ⊢
  have : ¬(p.1 = q.1 ∧ p.2 = q.2) := fun h => h4 (Prod.ext h.1 h.2)
  omega

/-! The row of pairs, as the library's sort holds it. -/
/-- A pair's two cells. -/
def encP (p : Int × Int) : List Value := [.int .i64 p.1, .int .i64 p.2]
theorem encPOne (p : Int × Int) : ∀ v ∈ encP p, v.oneCell' = true := fun v hv => by
  simp [encP] at hv
  rcases hv with rfl | rfl <;> rfl
theorem ctEnc (l : Prs) : ∀ j, j < l.length * 2 → (ct l)[j]? = some (encP l[j / 2]!)[j % 2]! := by
  intro j hj
  obtain ⟨q, hq⟩ : ∃ q, j / 2 = q := ⟨_, rfl⟩
  have hq2 : q < l.length := by omega
  have h := ctAt l q hq2
  have hg : l[q]! = l[q] := by rw [getElem!_pos l q hq2]
  rw [hq, hg]
  rcases Nat.mod_two_eq_zero_or_one j with e | e
  · obtain rfl : j = q * 2 := by omega
    rw [e, h.1]; rfl
  · obtain rfl : j = q * 2 + 1 := by omega
    rw [e, h.2]; rfl
theorem holdsOwn {w : World} {base : Nat} {v : Value} {l : Prs} (h : OwnP w base v l) (hl : 0 < l.length) : ∃ g cap, v = .slice (some ⟨g, 0, none⟩) l.length cap ∧ base ≤ g ∧ g < w.heap.size ∧ l.length ≤ cap ∧ cap ≤ maxLen ∧ HoldsK encP 2 w g 0 l.toArray := by
  rcases h.2 with ⟨_, h0⟩ | ⟨g, cap, cur, rfl, hb, hg, hc, hm, hs, ht⟩
  · omega
  · have hlt := (h.lt (g := g) rfl).2
    refine ⟨g, cap, rfl, hb, hlt, hc, hm, fun j hj => ⟨?_, ?_⟩⟩
    · have hj' : j < l.length * 2 := by simpa using hj
      have h1 := World.ownsRow.cells h (g := g) rfl _ _ (ctEnc l j hj')
      rw [Addr.add_lit] at h1
      rw [h1, get_flatK _ _ _ _ (by simpa using hj')]
      simp
    · simp [World.frozen?, hg]
theorem rpHolds {w : World} {g cap : Nat} {l : Prs} (hg : g < w.heap.size) (hc : l.length ≤ cap) (hm : cap ≤ maxLen) (h : HoldsK encP 2 w g 0 l.toArray) : Rp w (some ⟨g, 0, none⟩) cap l :=
  ⟨hc, hm, fun _ => ⟨g, 0, rfl, hg, fun j hj => by
    have h0 := (h.cell (i := j) (c := 0) (by simpa using hj) (by omega)).1
    have h1 := (h.cell (i := j) (c := 1) (by simpa using hj) (by omega)).1
    have e : l.toArray[j]! = l[j] := by simp [hj]
    rw [e] at h0 h1
    exact ⟨h0, h1⟩⟩⟩
theorem belowSortK {B : Nat} {w : World} {g : Nat} (hg : B ≤ g) (hB : B ≤ w.heap.size) (n : Nat) (d : Array (Int × Int)) (os : Array Obj) : Below B w (sortWorldK encP 2 w g 0 n d os) := by
  have h1 : Below B w (Sort.ahead w n) := ⟨rfl, rfl, rfl, Nat.le_refl _, fun _ _ => rfl⟩
  have h2 : Below B (Sort.ahead w n) (putRowK encP 2 (Sort.ahead w n) g 0 d) := ⟨rfl, rfl, rfl, by simp [putRowK], fun k hk => by
    simp only [putRowK, putRow, mapBlock, Array.getElem?_modify]
    rw [if_neg (by omega)]⟩
  have h3 : Below B (putRowK encP 2 (Sort.ahead w n) g 0 d) (grow (putRowK encP 2 (Sort.ahead w n) g 0 d) os) := ⟨rfl, rfl, rfl, by simp, fun k hk => heap_grow_old _ os (by have := h2.size; simp at this ⊢; omega)⟩
  exact h1.trans (h2.trans h3)

theorem enters53 : ∀ args w, (callFunc 50 args).run Try.prog w = .ok (.enter 50 args) w := enters_of Try.func50 (by kernel_rfl) rfl
theorem enters61 : ∀ args w, (callFunc 58 args).run Try.prog w = .ok (.enter 58 args) w := enters_of Try.func58 (by kernel_rfl) rfl

/-- The library's sort at a row of the call's own. -/
theorem iSort (l : Prs) (hl : 0 < l.length) (hs : l.length ≤ 10000000) (g cap B : Nat) (w : World) (hB : B ≤ g) (hBw : B ≤ w.heap.size) (hg : g < w.heap.size) (hc : l.length ≤ cap) (hm : cap ≤ maxLen) (hH : HoldsK encP 2 w g 0 l.toArray) :
    Calls Try.prog 57 #[.slice (some ⟨g, 0, none⟩) l.length cap, .func (.func 50) #[] #[]] w fun e w' => e = .returned (.tuple #[]) ∧ Rp w' (some ⟨g, 0, none⟩) cap (sortP l) ∧ Below B w w' := by
  have h := AnyQ.slices_SortFunc_total Try.sortP 2 Try.isAgg38 Try.sizeOf38 encP (fun _ => rfl) encPOne cmpP swoP 50 #[] g 0 cap l.toArray w enters53 (fun m os dk _ p q => iLess p q _) hH hg (by simp; omega) totP
  refine h.mono ?_
  rintro e w' ⟨rfl, n, os, rfl⟩
  refine ⟨rfl, ?_, belowSortK hB hBw _ _ _⟩
  have hH' := holdsK_sortWorldK_c encP 2 w g 0 l.toArray (sortP l).toArray n os hH hg (by simp [sortPLen])
  exact rpHolds (Nat.lt_of_lt_of_le hg (size_sortWorldK_c encP 2 w g 0 n (sortP l).toArray os)) (by rw [sortPLen]; exact hc) hm hH'

/-- SortedFunc over the keys of a set: its pairs, in order. -/
def GivesS (S : Int → Int → Bool) (w : World) (e : Ending) (w' : World) : Prop := ∃ (A : Option Addr) (c : Nat) (ss : Prs), e = .returned (.slice A ss.length c) ∧ AllOf S ss ∧ Rp w' A c (sortP ss) ∧ Below w.heap.size w w'
set_option maxHeartbeats 1000000 in
theorem iSorted (b m : Nat) (S : Int → Int → Bool) (hs : m ≤ 1000000) (Bm : Nat) (w : World) (hBm : Bm < w.heap.size) (hm : w.cell? ⟨Bm, 0, none⟩ = some (.map (some b))) (h : MapP w b m S) :
    Calls Try.prog 48 #[.func (.func 58) #[] #[.pointer (some ⟨Bm, 0, none⟩)], .func (.func 50) #[] #[]] w (GivesS S w) := by
  have hcol := (callsIn_wide (n := 6)).1 (collectIn Fence.wide 6 trivial trivial rfl (by omega) 58 #[.pointer (some ⟨Bm, 0, none⟩)] trivial enters61 (AllOf S) (fun _ => True) m (by omega) w (keysStops Fence.wide (6 - 1 - 1) trivial rfl (by omega) Bm b m S w hBm hm h))
  have HC := Lib.hid hcol; clear hcol h hm
  go_enter Try.func48, Try.ntmps48
  go_wp2_with fail
  refine HC.out.mono ?_
  rintro e w1 ⟨v, ss, rfl, hall, hlen, hown, hnil, hb⟩
  have HA := Lib.hid hall; clear hall
  have HO := Lib.hid hown; clear hown
  have hbs := hb.size
  rcases Nat.eq_zero_or_pos ss.length with h0 | h0
  · obtain rfl : ss = [] := List.eq_nil_of_length_eq_zero h0
    obtain rfl := hnil.2 rfl
    clear hnil
    go_wp2_with fail
    refine (AnyF.slices_SortFunc_none Try.sortP none 0 _ _).mono ?_
    rintro e w2 ⟨rfl, rfl⟩
    go_wp2
    go_ret
    exact ⟨none, 0, [], rfl, HA.out, by rw [show sortP [] = [] from List.mergeSort_nil]; exact Rp.nil, hb⟩
  · clear hnil
    obtain ⟨g, cap, rfl, hg, hgl, hc, hm, hH⟩ := holdsOwn HO.out h0
    have HH := Lib.hid hH; clear hH
    go_wp2_with fail
    refine (iSort ss h0 (by omega) g cap w.heap.size w1 hg hbs hgl hc hm HH.out).mono ?_
    rintro e w2 ⟨rfl, hr, hb2⟩
    have HR := Lib.hid hr; clear hr
    go_wp2
    go_ret
    exact ⟨_, cap, ss, rfl, HA.out, HR.out, hb.trans hb2⟩

set_option maxHeartbeats 1000000 in
theorem iNormal (N : Int) (b m : Nat) (S : Int → Int → Bool) (l : Prs) (hsr : SrtP l) (hmem : ∀ x y, wfP x y → ((x, y) ∈ l ↔ S x y = true)) (hwl : wfL l) (hs : m ≤ 1000000) (w : World) (h : MapP w b m S) :
    Calls Try.prog 33 #[.int .i64 N, .map (some b)] w (GivesR N l w) := by
  have HM := Lib.hid h; clear h
  have HE : Hid (∀ ss, AllOf S ss → sortP ss = l ∧ ss.length = l.length) := Lib.hid fun ss ⟨h1, h2, h3⟩ => by
    have e : sortP ss = l := srtPExt (sortPSrt h1) hsr fun p => by
      rw [sortPMem]
      constructor
      · intro hp; exact (hmem p.1 p.2 (h2 p hp)).2 ((h3 p.1 p.2 (h2 p hp)).1 hp)
      · intro hp; exact (h3 p.1 p.2 (hwl p hp)).2 ((hmem p.1 p.2 (hwl p hp)).1 hp)
    exact ⟨e, by rw [← e, sortPLen]⟩
  clear hsr hmem hwl
  have hkeys := fun W => (callsIn_wide (n := 6)).1 (keysIn Fence.wide 6 trivial rfl (some b) W)
  have HK := Lib.hid hkeys; clear hkeys
  go_enter Try.func33, Try.ntmps33
  go_wp2_with fail
  refine (HK.out _).mono ?_
  rintro e w1 ⟨rfl, rfl⟩
  have HM2 := Lib.hid ((HM.out.alloc (.cells #[.int .i64 0, .slice none 0 0] 24)).alloc (.cells #[.map (some b)] 42))
  go_wp2_with fail
  refine (iSorted b m S hs (w.heap.size + 1) _ (by simp) (World.cell?_alloc_at _ _ _ _ (by simp)) HM2.out).mono ?_
  rintro e w2 ⟨A, c, ss, rfl, hall, hr, hb⟩
  obtain ⟨e1, e2⟩ := HE.out ss hall
  rw [e1] at hr
  rw [e2]
  have HR := Lib.hid hr; clear hr e1 e2 hall
  have hb2 : Below w.heap.size w w2 := ((belowAlloc w _).alloc (by simp) _).trans (hb.mono (by simp; omega))
  have HB := Lib.hid ((((BoxR.new w 0 (.slice none 0 0)).alloc (.cells #[.map (some b)] 42)).below hb))
  obtain ⟨c0, c1, f0, f1⟩ := HB.out.facts
  go_wp2
  refine bodyPost_ret (ResR (HB.out.stored N (.slice A l.length c)) rfl _ rfl) rfl ?_
  exact ⟨A, c, rfl, HR.out.stored HB.out _ _, (hb2.setCell (Nat.le_refl _) _).setCell (Nat.le_refl _) _⟩
end Go.Proofs.Ytpfdhjmhoggioaa
