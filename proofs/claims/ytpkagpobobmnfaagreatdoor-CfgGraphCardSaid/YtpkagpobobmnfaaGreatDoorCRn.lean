/-
  The contracts of SortedFunc at pairs and of normal: the pairs of a set, in order.
-/
import Derived.Test.YtpkagpobobmnfaaGreatDoorCRp
import Derived.Test.YtpkagpobobmnfaaGreatDoorSortShelf
import Derived.Shelf.SlSortCmp.NoneTotal
import Derived.Test.YtpkagpobobmnfaaGreatDoorCRow
import Derived.Deep.RegionHeld3
namespace Go.Proofs.YtpkagpobobmnfaaGreatDoor
open Go.RowKit Go.Maps Go.Sort Go.Shelf

/-- p stands before q. -/
def ltP (p q : Int × Int) : Prop := p.1 < q.1 ∨ (p.1 = q.1 ∧ p.2 < q.2)
def SrtP (l : Prs) : Prop := l.Pairwise ltP
theorem ltPAnti {p q : Int × Int} (h : ltP p q) (h' : ltP q p) : p = q := by unfold ltP at h h'; omega
theorem srtPNodup {l : Prs} (h : SrtP l) : l.Nodup := h.imp fun {p q} h e => by subst e; unfold ltP at h; omega
theorem srtPExt {a b : Prs} (ha : SrtP a) (hb : SrtP b) (h : ∀ p, p ∈ a ↔ p ∈ b) : a = b :=
  List.Perm.eq_of_pairwise (le := ltP) (fun _ _ _ _ h1 h2 => ltPAnti h1 h2) ha hb ((List.perm_ext_iff_of_nodup (srtPNodup ha) (srtPNodup hb)).2 h)
theorem rowSrt (f : Nat → Nat → Bool) (a : Nat) : ∀ k b, SrtP (rowP f a b k)
  | 0, _ => List.Pairwise.nil
  | k + 1, b => by
    rw [rowP]
    refine List.pairwise_append.2 ⟨by split <;> simp, rowSrt f a k (b + 1), fun p hp q hq => ?_⟩
    obtain ⟨x, y⟩ := q
    obtain ⟨h1, c, h2, h3, _, _⟩ := (rowMem f a x y k (b + 1)).1 hq
    split at hp
    · obtain rfl : p = ((a : Int), (b : Int)) := by simpa using hp
      exact .inr ⟨h1.symm, by show (b : Int) < y; omega⟩
    · cases hp
theorem nrmFromSrt (f : Nat → Nat → Bool) (n : Nat) : ∀ k a, SrtP (nrmFrom f n a k)
  | 0, _ => List.Pairwise.nil
  | k + 1, a => by
    rw [nrmFrom]
    refine List.pairwise_append.2 ⟨rowSrt f a n 0, nrmFromSrt f n k (a + 1), fun p hp q hq => ?_⟩
    obtain ⟨x, y⟩ := q
    obtain ⟨x', y'⟩ := p
    obtain ⟨d, c, h1, h2, h3, _, _, _⟩ := (nrmFromMem f n x y k (a + 1)).1 hq
    obtain ⟨h4, _⟩ := (rowMem f a x' y' n 0).1 hp
    exact .inl (by show x' < x; omega)
theorem nrmSrt (n : Nat) (f : Nat → Nat → Bool) : SrtP (nrm n f) := nrmFromSrt f n n 0

theorem cmpINeg {x y : Int} : cmpI x y < 0 ↔ x < y := by
  unfold cmpI
  by_cases h1 : x < y
  · simp [h1]
  · by_cases h2 : y < x <;> simp [h1, h2]
theorem cmpIZero {x y : Int} : cmpI x y = 0 ↔ x = y := by
  unfold cmpI
  by_cases h1 : x < y
  · simp [h1]; omega
  · by_cases h2 : y < x
    · simp [h1, h2]; omega
    · simp [h1, h2]; omega
theorem ltOfP (p q : Int × Int) : ltOf cmpP p q = true ↔ ltP p q := by
  unfold ltOf cmpP ltP
  rw [decide_eq_true_iff]
  by_cases h : cmpI p.1 q.1 = 0
  · rw [if_neg (by simpa using h), cmpINeg]
    have := cmpIZero.1 h
    omega
  · rw [if_pos h, cmpINeg]
    have : p.1 ≠ q.1 := fun e => h (cmpIZero.2 e)
    omega
theorem ltOfPNo {p q : Int × Int} : ltOf cmpP p q = false ↔ ¬ ltP p q := by rw [← ltOfP]; simp
theorem swoP : SWO (ltOf cmpP) where
  irrefl p := by rw [ltOfPNo]; unfold ltP; omega
  trans p q r h1 h2 := by rw [ltOfP] at *; unfold ltP at *; omega
  ntrans p q r h1 h2 := by rw [ltOfPNo] at *; unfold ltP at *; omega
theorem totP (p q : Int × Int) (h : ltOf cmpP p q = false) (h' : ltOf cmpP q p = false) : p = q := by
  rw [ltOfPNo] at *
  unfold ltP at *
  exact Prod.ext (by omega) (by omega)
/-- The pairs in order. -/
def sortP (l : Prs) : Prs := l.mergeSort fun x y => !(ltOf cmpP) y x
theorem sortPMem {l : Prs} {p : Int × Int} : p ∈ sortP l ↔ p ∈ l := (List.mergeSort_perm l _).mem_iff
theorem sortPLen (l : Prs) : (sortP l).length = l.length := List.length_mergeSort l
theorem sortPSrt {l : Prs} (h : l.Nodup) : SrtP (sortP l) := by
  have h1 := List.pairwise_mergeSort (le := fun x y : Int × Int => !(ltOf cmpP) y x) (fun a b c h1 h2 => by
    rw [Bool.not_eq_true'] at *; exact swoP.ntrans c b a h2 h1) (fun a b => by
    cases h1 : ltOf cmpP b a
    · rfl
    · cases h2 : ltOf cmpP a b
      · rfl
      · rw [ltOfP] at h1 h2; unfold ltP at h1 h2; omega) l
  have h2 : (sortP l).Nodup := (List.mergeSort_perm l _).nodup_iff.2 h
  refine (List.pairwise_and_iff.2 ⟨h1, h2⟩).imp fun {p q} ⟨h3, h4⟩ => ?_
  rw [Bool.not_eq_true', ltOfPNo] at h3
  unfold ltP at h3 ⊢
  have : ¬(p.1 = q.1 ∧ p.2 = q.2) := fun h => h4 (Prod.ext h.1 h.2)
  omega

/-! The row of pairs, as the library's sort holds it. -/
/-- A pair's two cells. -/
def encP (p : Int × Int) : List Value := [.int .i64 p.1, .int .i64 p.2]
theorem encPOne (p : Int × Int) : ∀ v ∈ encP p, v.oneCell' = true := fun v hv => by
  simp [encP] at hv
  rcases hv with rfl | rfl <;> rfl
theorem ctEnc (l : Prs) : ∀ j, j < l.length * 2 → (ct l)[j]? = some (encP l[j / 2]!)[j % 2]! := by
  intro j hj
  obtain ⟨q, hq⟩ : ∃ q, j / 2 = q := ⟨_, rfl⟩
  have hq2 : q < l.length := by omega
  have h := ctAt l q hq2
  have hg : l[q]! = l[q] := by rw [getElem!_pos l q hq2]
  rw [hq, hg]
  rcases Nat.mod_two_eq_zero_or_one j with e | e
  · obtain rfl : j = q * 2 := by omega
    rw [e, h.1]; rfl
  · obtain rfl : j = q * 2 + 1 := by omega
    rw [e, h.2]; rfl
theorem holdsOwn {w : World} {base : Nat} {v : Value} {l : Prs} (h : OwnP w base v l) (hl : 0 < l.length) : ∃ g cap, v = .slice (some ⟨g, 0, none⟩) l.length cap ∧ base ≤ g ∧ g < w.heap.size ∧ l.length ≤ cap ∧ cap ≤ maxLen ∧ HoldsK encP 2 w g 0 l.toArray := by
  rcases h.2 with ⟨_, h0⟩ | ⟨g, cap, cur, rfl, hb, hg, hc, hm, hs, ht⟩
  · omega
  · have hlt := (h.lt (g := g) rfl).2
    refine ⟨g, cap, rfl, hb, hlt, hc, hm, fun j hj => ⟨?_, ?_⟩⟩
    · have hj' : j < l.length * 2 := by simpa using hj
      have h1 := World.ownsRow.cells h (g := g) rfl _ _ (ctEnc l j hj')
      rw [Addr.add_lit] at h1
      rw [h1, get_flatK _ _ _ _ (by simpa using hj')]
      simp
    · simp [World.frozen?, hg]
theorem rpHolds {w : World} {g cap : Nat} {l : Prs} (hg : g < w.heap.size) (hc : l.length ≤ cap) (hm : cap ≤ maxLen) (h : HoldsK encP 2 w g 0 l.toArray) : Rp w (some ⟨g, 0, none⟩) cap l :=
  ⟨hc, hm, fun _ => ⟨g, 0, rfl, hg, fun j hj => by
    have h0 := (h.cell (i := j) (c := 0) (by simpa using hj) (by omega)).1
    have h1 := (h.cell (i := j) (c := 1) (by simpa using hj) (by omega)).1
    have e : l.toArray[j]! = l[j] := by simp [hj]
    rw [e] at h0 h1
    exact ⟨h0, h1⟩⟩⟩
theorem belowSortK {B : Nat} {w : World} {g : Nat} (hg : B ≤ g) (hB : B ≤ w.heap.size) (n : Nat) (d : Array (Int × Int)) (os : Array Obj) : Below B w (sortWorldK encP 2 w g 0 n d os) := by
  have h1 : Below B w (Sort.ahead w n) := ⟨rfl, rfl, rfl, Nat.le_refl _, fun _ _ => rfl⟩
  have h2 : Below B (Sort.ahead w n) (putRowK encP 2 (Sort.ahead w n) g 0 d) := ⟨rfl, rfl, rfl, by simp [putRowK], fun k hk => by
    simp only [putRowK, putRow, mapBlock, Array.getElem?_modify]
    rw [if_neg (by omega)]⟩
  have h3 : Below B (putRowK encP 2 (Sort.ahead w n) g 0 d) (grow (putRowK encP 2 (Sort.ahead w n) g 0 d) os) := ⟨rfl, rfl, rfl, by simp, fun k hk => heap_grow_old _ os (by have := h2.size; simp at this ⊢; omega)⟩
  exact h1.trans (h2.trans h3)

theorem enters53 : ∀ args w, (callFunc 110 args).run Tryz.prog w = .ok (.enter 110 args) w := enters_of Tryz.func110 (by kernel_rfl) rfl
theorem enters61 : ∀ args w, (callFunc 148 args).run Tryz.prog w = .ok (.enter 148 args) w := enters_of Tryz.func148 (by kernel_rfl) rfl

/-- The library's sort at a row of the call's own. -/
theorem iSort (l : Prs) (hl : 0 < l.length) (hs : l.length ≤ 10000000) (g cap B : Nat) (w : World) (hB : B ≤ g) (hBw : B ≤ w.heap.size) (hg : g < w.heap.size) (hc : l.length ≤ cap) (hm : cap ≤ maxLen) (hH : HoldsK encP 2 w g 0 l.toArray) :
    Calls Tryz.prog 147 #[.slice (some ⟨g, 0, none⟩) l.length cap, .func (.func 110) #[] #[]] w fun e w' => e = .returned (.tuple #[]) ∧ Rp w' (some ⟨g, 0, none⟩) cap (sortP l) ∧ Below B w w' := by
  have h := AnyQ.slices_SortFunc_total Tryz.sortP 2 Tryz.isAgg66 Tryz.sizeOf66 encP (fun _ => rfl) encPOne cmpP swoP 110 #[] g 0 cap l.toArray w enters53 (fun m os dk _ p q => iLess p q _) hH hg (by simp; omega) totP
  refine h.mono ?_
  rintro e w' ⟨rfl, n, os, rfl⟩
  refine ⟨rfl, ?_, belowSortK hB hBw _ _ _⟩
  have hH' := holdsK_sortWorldK_c encP 2 w g 0 l.toArray (sortP l).toArray n os hH hg (by simp [sortPLen])
  exact rpHolds (Nat.lt_of_lt_of_le hg (size_sortWorldK_c encP 2 w g 0 n (sortP l).toArray os)) (by rw [sortPLen]; exact hc) hm hH'

/-- SortedFunc over the keys of a set: its pairs, in order. -/
def GivesS (S : Int → Int → Bool) (w : World) (e : Ending) (w' : World) : Prop := ∃ (A : Option Addr) (c : Nat) (ss : Prs), e = .returned (.slice A ss.length c) ∧ AllOf S ss ∧ Rp w' A c (sortP ss) ∧ Below w.heap.size w w'
set_option maxHeartbeats 1000000 in
theorem iSortedP (b m : Nat) (S : Int → Int → Bool) (hs : m ≤ 1000000) (Bm : Nat) (w : World) (hBm : Bm < w.heap.size) (hm : w.cell? ⟨Bm, 0, none⟩ = some (.map (some b))) (h : MapP w b m S) :
    Calls Tryz.prog 108 #[.func (.func 148) #[] #[.pointer (some ⟨Bm, 0, none⟩)], .func (.func 110) #[] #[]] w (GivesS S w) := by
  have hcol := (callsIn_wide (n := 6)).1 (collectIn Fence.wide 6 trivial trivial rfl (by omega) 148 #[.pointer (some ⟨Bm, 0, none⟩)] trivial enters61 (AllOf S) (fun _ => True) m (by omega) w (keysStops Fence.wide (6 - 1 - 1) trivial rfl (by omega) Bm b m S w hBm hm h))
  have HC := Lib.hid hcol; clear hcol h hm
  go_enter Tryz.func108, Tryz.ntmps108
  go_wp2_with fail
  refine HC.out.mono ?_
  rintro e w1 ⟨v, ss, rfl, hall, hlen, hown, hnil, hb⟩
  have HA := Lib.hid hall; clear hall
  have HO := Lib.hid hown; clear hown
  have hbs := hb.size
  rcases Nat.eq_zero_or_pos ss.length with h0 | h0
  · obtain rfl : ss = [] := List.eq_nil_of_length_eq_zero h0
    obtain rfl := hnil.2 rfl
    clear hnil
    go_wp2_with fail
    refine (AnyF.slices_SortFunc_none Tryz.sortP none 0 _ _).mono ?_
    rintro e w2 ⟨rfl, rfl⟩
    go_wp2
    go_ret
    exact ⟨none, 0, [], rfl, HA.out, by rw [show sortP [] = [] from List.mergeSort_nil]; exact Rp.nil, hb⟩
  · clear hnil
    obtain ⟨g, cap, rfl, hg, hgl, hc, hm, hH⟩ := holdsOwn HO.out h0
    have HH := Lib.hid hH; clear hH
    go_wp2_with fail
    refine (iSort ss h0 (by omega) g cap w.heap.size w1 hg hbs hgl hc hm HH.out).mono ?_
    rintro e w2 ⟨rfl, hr, hb2⟩
    have HR := Lib.hid hr; clear hr
    go_wp2
    go_ret
    exact ⟨_, cap, ss, rfl, HA.out, HR.out, hb.trans hb2⟩

set_option maxHeartbeats 1000000 in
theorem iNormal (N : Int) (b m : Nat) (S : Int → Int → Bool) (l : Prs) (hsr : SrtP l) (hmem : ∀ x y, wfP x y → ((x, y) ∈ l ↔ S x y = true)) (hwl : wfL l) (hs : m ≤ 1000000) (w : World) (h : MapP w b m S) :
    Calls Tryz.prog 62 #[.int .i64 N, .map (some b)] w (GivesR N l w) := by
  have HM := Lib.hid h; clear h
  have HE : Hid (∀ ss, AllOf S ss → sortP ss = l ∧ ss.length = l.length) := Lib.hid fun ss ⟨h1, h2, h3⟩ => by
    have e : sortP ss = l := srtPExt (sortPSrt h1) hsr fun p => by
      rw [sortPMem]
      constructor
      · intro hp; exact (hmem p.1 p.2 (h2 p hp)).2 ((h3 p.1 p.2 (h2 p hp)).1 hp)
      · intro hp; exact (h3 p.1 p.2 (hwl p hp)).2 ((hmem p.1 p.2 (hwl p hp)).1 hp)
    exact ⟨e, by rw [← e, sortPLen]⟩
  clear hsr hmem hwl
  have hkeys := fun W => (callsIn_wide (n := 6)).1 (keysIn Fence.wide 6 trivial rfl (some b) W)
  have HK := Lib.hid hkeys; clear hkeys
  go_enter Tryz.func62, Tryz.ntmps62
  go_wp2_with fail
  refine (HK.out _).mono ?_
  rintro e w1 ⟨rfl, rfl⟩
  have HM2 := Lib.hid ((HM.out.alloc (.cells #[.int .i64 0, .slice none 0 0] 28)).alloc (.cells #[.map (some b)] 105))
  go_wp2_with fail
  refine (iSortedP b m S hs (w.heap.size + 1) _ (by simp) (World.cell?_alloc_at _ _ _ _ (by simp)) HM2.out).mono ?_
  rintro e w2 ⟨A, c, ss, rfl, hall, hr, hb⟩
  obtain ⟨e1, e2⟩ := HE.out ss hall
  rw [e1] at hr
  rw [e2]
  have HR := Lib.hid hr; clear hr e1 e2 hall
  have hb2 : Below w.heap.size w w2 := ((belowAlloc w _).alloc (by simp) _).trans (hb.mono (by simp; omega))
  have HB := Lib.hid ((((BoxR.new w 0 (.slice none 0 0)).alloc (.cells #[.map (some b)] 105)).below hb))
  obtain ⟨c0, c1, f0, f1⟩ := HB.out.facts
  go_wp2
  refine bodyPost_ret (ResR (HB.out.stored N (.slice A l.length c)) rfl _ rfl) rfl ?_
  exact ⟨A, c, rfl, HR.out.stored HB.out _ _, (hb2.setCell (Nat.le_refl _) _).setCell (Nat.le_refl _) _⟩
end Go.Proofs.YtpkagpobobmnfaaGreatDoor

namespace Go.Proofs.YtpkagpobobmnfaaGreatDoor
open Go.RowKit Go.Maps

/-- The set S holds just the pairs of the table f below n. -/
def TabS (n : Nat) (S : Int → Int → Bool) (f : Nat → Nat → Bool) : Prop := ∀ x y, S x y = true ↔ ∃ a b : Nat, x = (a : Int) ∧ y = (b : Int) ∧ a < n ∧ b < n ∧ f a b = true
theorem wfNrm {n : Nat} (hn : n ≤ 64) (f : Nat → Nat → Bool) : wfL (nrm n f) := fun p hp => by
  obtain ⟨x, y⟩ := p
  obtain ⟨d, c, h1, h2, h3, h4, _⟩ := nrmMem.1 hp
  exact ⟨wfSmall (by show 0 ≤ x; omega) (by show x ≤ _; omega), wfSmall (by show 0 ≤ y; omega) (by show y ≤ _; omega)⟩
theorem tabOf {n : Nat} {l : Prs} (h : okR n l = true) : TabS n (memP l) (hasP l) := fun x y => by
  obtain ⟨_, _, h3⟩ := okIff.1 h
  unfold memP hasP
  rw [decide_eq_true_iff]
  constructor
  · intro hp
    have := h3 _ hp
    unfold inR at this
    refine ⟨x.toNat, y.toNat, by omega, by omega, by omega, by omega, ?_⟩
    rw [decide_eq_true_iff, Int.toNat_of_nonneg (by omega), Int.toNat_of_nonneg (by omega)]
    exact hp
  · rintro ⟨a, b, rfl, rfl, _, _, hp⟩
    rwa [decide_eq_true_iff] at hp
theorem iNormalT (n b m : Nat) (S : Int → Int → Bool) (f : Nat → Nat → Bool) (hn : n ≤ 64) (hT : TabS n S f) (l : Prs) (hl : nrm n f = l) (hs : m ≤ 1000000) (w : World) (h : MapP w b m S) :
    Calls Tryz.prog 62 #[.int .i64 n, .map (some b)] w (GivesR n l w) := by
  subst hl
  exact iNormal n b m S _ (nrmSrt n f) (fun x y _ => by rw [nrmMem, hT x y]) (wfNrm hn f) hs w h
set_option maxHeartbeats 2000000 in
theorem iNormalTop (N : Int) (l : Prs) (n : Nat) (hn : l.length = n) (hs : n ≤ 65536) (A : Option Addr) (c : Nat) (w : World) (ha : Rp w A c l) :
    Calls Tryz.prog 29 #[relV N A n c] w (GivesR (nrmN N l) (nrmL N l) w) := by
  have HA := Lib.hid ha; clear ha
  have HN := Lib.hid hn; clear hn
  obtain ⟨W, hW⟩ : ∃ W, (w.alloc (.cells #[.int .i64 N, .slice A n c] 28)).alloc (.cells #[.int .i64 0, .slice none 0 0] 28) = W := ⟨_, rfl⟩
  have hB0 : BoxR W w.heap.size N (.slice A n c) := by rw [← hW]; exact (BoxR.new w N _).alloc _
  have hB1 : BoxR W (w.heap.size + 1) 0 (.slice none 0 0) := by
    have h := BoxR.new (w.alloc (.cells #[.int .i64 N, .slice A n c] 28)) 0 (.slice none 0 0)
    rw [World.size_alloc, hW] at h
    exact h
  have hbW : Below w.heap.size w W := by rw [← hW]; exact (belowAlloc w _).alloc (by simp) _
  have HA1 := Lib.hid (HA.out.below hbW)
  have HB0 := Lib.hid hB0; clear hB0
  have HB1 := Lib.hid hB1; clear hB1
  obtain ⟨c0, c1, _, _⟩ := HB0.out.facts
  go_enter Tryz.func29, Tryz.ntmps29
  rcases hv : okR N l with _ | _
  · have HV := Lib.hid hv
    have e1 : nrmN N l = 0 := by unfold nrmN; rw [hv]; rfl
    have e2 : nrmL N l = [] := by unfold nrmL; rw [hv]; rfl
    rw [e1, e2]
    clear hv e1 e2
    go_wp2_with fail
    refine (iValid N l n HN.out false HV.out A c _ HA1.out).mono ?_
    rintro e w1 ⟨rfl, b1⟩
    have HB1 := Lib.hid (HB1.out.below b1)
    obtain ⟨c2, c3, f2, f3⟩ := HB1.out.facts
    go_wp2
    refine bodyPost_ret (ResR (HB1.out.stored 0 (.slice none 0 0)) rfl _ rfl) rfl ?_
    exact ⟨none, 0, rfl, Rp.nil, ((hbW.trans (b1.mono hbW.size)).setCell (Nat.le_succ _) _).setCell (Nat.le_succ _) _⟩
  · have HV := Lib.hid hv
    obtain ⟨k, rfl, hk⟩ := okNat hv
    have e1 : nrmN k l = k := by unfold nrmN; rw [hv]; rfl
    obtain ⟨L, e2⟩ : ∃ L, nrm k (hasP l) = L := ⟨_, rfl⟩
    have e3 : nrmL k l = L := by unfold nrmL; rw [hv, ← e2]; rfl
    rw [e1, e3]
    have HL := Lib.hid e2
    have HT := Lib.hid (tabOf hv)
    have HW := Lib.hid (okWf hv)
    clear hv e1 e2 e3
    go_wp2_with fail
    refine (iValid k l n HN.out true HV.out A c _ HA1.out).mono ?_
    rintro e w1 ⟨rfl, b1⟩
    have HB0 := Lib.hid (HB0.out.below b1)
    have HB1 := Lib.hid (HB1.out.below b1)
    have HA2 := Lib.hid (HA1.out.below b1)
    have hbw := hbW.trans (b1.mono hbW.size)
    obtain ⟨c0, c1, _, _⟩ := HB0.out.facts
    obtain ⟨c2, c3, f2, f3⟩ := HB1.out.facts
    go_wp2
    have HA3 : Hid (Rp w1.drew A c l) := Lib.hid (HA2.out.drewN 1)
    have HB2 : Hid (BoxR w1.drew w.heap.size k (.slice A n c)) := Lib.hid HB0.out
    have HB3 : Hid (BoxR w1.drew (w.heap.size + 1) 0 (.slice none 0 0)) := Lib.hid HB1.out
    go_region_held3 (fun w' => w'.cell? ⟨w.heap.size, 0, none⟩ = some (.int .i64 k) ∧ w'.cell? ⟨w.heap.size, 1, none⟩ = some (.slice A n c))
      (first | exact KR _ _ | assumption | simp [*])
      (first
        | (go_at_call 63; refine (iPairs k l n HN.out HW.out hs A c _ HA3.out).mono ?_; (rintro e w2 ⟨b, rfl, hM, hb, b2⟩); have HM := Lib.hid hM; have HB4 := Lib.hid (HB2.out.below b2); have HB5 := Lib.hid (HB3.out.below b2); obtain ⟨d0, d1, _, _⟩ := HB4.out.facts)
        | (go_at_call 62; refine (iNormalT k b n _ _ hk HT.out L HL.out (by omega) _ HM.out).mono ?_; (rintro e w3 ⟨A', c', rfl, hr, b3⟩); have HR := Lib.hid hr; have HB6 := Lib.hid (HB4.out.below b3); have HB7 := Lib.hid (HB5.out.below b3); obtain ⟨d2, d3, _, _⟩ := HB6.out.facts; obtain ⟨c4, c5, f4, f5⟩ := HB7.out.facts; have KR := keepR HB6.out (show w.heap.size ≠ w.heap.size + 1 by omega)))
    have hbz := ((hbw.trans ((belowN w1 1).mono hbw.size)).trans (b2.mono hbw.size)).trans (b3.mono (Nat.le_trans hbw.size b2.size))
    go_wp2
    refine bodyPost_ret (ResR (HB7.out.stored _ _) rfl _ rfl) rfl ?_
    exact ⟨A', c', rfl, HR.out.stored HB7.out _ _, (hbz.setCell (Nat.le_succ _) _).setCell (Nat.le_succ _) _⟩
end Go.Proofs.YtpkagpobobmnfaaGreatDoor
