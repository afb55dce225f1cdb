/-
  The contract of disasm.operands: the words of an instruction as function values.
-/
import Derived.Test.YtnckpjcfgeajbaaGreatDoorZmA
import Derived.Test.YtnckpjcfgeajbaaGreatDoorDsPre
import Derived.Laws.EntriesVeiled
import Derived.Deep.QuietTactic
import Derived.BigQuiet
import Derived.Deep.RegionHeld3
import Derived.Deep.RegionWith
namespace Go.Proofs.YtnckpjcfgeajbaaGreatDoor
open Go Go.RowKit

/-- What a call gives that tells a text and an error. -/
def gvW (x : Wd) : Ending := .returned (.tuple #[.string (bs x.t), .int .i64 x.e])
/-- v is a function value that gives in w, and in every later memory, what x says. -/
def WdC (w : World) (v : Value) (x : Wd) : Prop := ∃ (f : FuncId) (L : Array Value), v = .func (.func f) #[] L ∧ (∀ args X, (callFunc f args).run Tryz.prog X = .ok (.enter f args) X) ∧
  ∀ X, Below w.heap.size w X → Calls Tryz.prog f L X fun e X' => e = gvW x ∧ Below X.heap.size X X'
theorem WdC.below {w w' : World} {v : Value} {x : Wd} (h : WdC w v x) (hb : Below w.heap.size w w') : WdC w' v x := by
  obtain ⟨f, L, e, he, hc⟩ := h
  exact ⟨f, L, e, he, fun X hX => hc X (belowThen hb hX)⟩
/-- The call gives such a function value. -/
def GivesW (x : Wd) (w : World) (e : Ending) (w' : World) : Prop := (∃ f L, e = .returned (.func (.func f) #[] L) ∧ WdC w' (.func (.func f) #[] L) x) ∧ Below w.heap.size w w'
/-- .. or one that gives a text, if the number is that of an element. -/
def NmC (w : World) (v : Value) (l : List ByteArray) (k : Int) : Prop := ∃ (f : FuncId) (L : Array Value), v = .func (.func f) #[] L ∧ (∀ args X, (callFunc f args).run Tryz.prog X = .ok (.enter f args) X) ∧
  (belB k l.length = true → ∀ X, Below w.heap.size w X → Calls Tryz.prog f L X fun e X' => e = .returned (.string (l.getD k.toNat ⟨#[]⟩)) ∧ Below X.heap.size X X')
theorem NmC.below {w w' : World} {v : Value} {l : List ByteArray} {k : Int} (h : NmC w v l k) (hb : Below w.heap.size w w') : NmC w' v l k := by
  obtain ⟨f, L, e, he, hc⟩ := h
  exact ⟨f, L, e, he, fun hk X hX => hc hk X (belowThen hb hX)⟩
theorem entFix : ∀ args w, (callFunc 188 args).run Tryz.prog w = .ok (.enter 188 args) w := enters_of Tryz.func188 (by kernel_rfl) rfl
theorem entNum : ∀ args w, (callFunc 184 args).run Tryz.prog w = .ok (.enter 184 args) w := enters_of Tryz.func184 (by kernel_rfl) rfl
theorem entTgt : ∀ args w, (callFunc 185 args).run Tryz.prog w = .ok (.enter 185 args) w := enters_of Tryz.func185 (by kernel_rfl) rfl
theorem entKnw : ∀ args w, (callFunc 202 args).run Tryz.prog w = .ok (.enter 202 args) w := enters_of Tryz.func202 (by kernel_rfl) rfl
theorem entObj : ∀ args w, (callFunc 201 args).run Tryz.prog w = .ok (.enter 201 args) w := enters_of Tryz.func201 (by kernel_rfl) rfl
theorem entVn : ∀ args w, (callFunc 179 args).run Tryz.prog w = .ok (.enter 179 args) w := enters_of Tryz.func179 (by kernel_rfl) rfl
theorem entMn : ∀ args w, (callFunc 180 args).run Tryz.prog w = .ok (.enter 180 args) w := enters_of Tryz.func180 (by kernel_rfl) rfl
theorem entCn : ∀ args w, (callFunc 181 args).run Tryz.prog w = .ok (.enter 181 args) w := enters_of Tryz.func181 (by kernel_rfl) rfl
theorem entFn : ∀ args w, (callFunc 186 args).run Tryz.prog w = .ok (.enter 186 args) w := enters_of Tryz.func186 (by kernel_rfl) rfl
theorem cellNewW (w : World) (v : Value) (t : TypeId) : (w.alloc (.cells #[v] t)).cell? ⟨w.heap.size, 0, none⟩ = some v := (Blk.new w t #[v]).cell 0

theorem iFixed1 (s : ByteArray) (b : Nat) (X : World) (h : X.cell? ⟨b, 0, none⟩ = some (.string s)) :
    Calls Tryz.prog 188 #[.pointer (some ⟨b, 0, none⟩)] X fun e X' => e = gvW (.ok s.data.toList) ∧ Below X.heap.size X X' := by
  go_enter Tryz.func188, Tryz.ntmps188
  go_wp2
  go_ret2
  exact ⟨rfl, Below.refl _ _⟩
theorem iFixed (s : ByteArray) (w : World) : Calls Tryz.prog 142 #[.string s] w (GivesW (.ok s.data.toList) w) := by
  go_enter Tryz.func142, Tryz.ntmps142
  go_wp2
  go_ret
  refine ⟨⟨_, _, rfl, _, _, rfl, entFix, fun X hX => iFixed1 s _ X ?_⟩, belowAlloc _ _⟩
  exact (hX.cell (by simp)).trans (cellNewW _ _ _)


theorem rgBs (r : Int) : (⟨#[114]⟩ ++ (⟨(Lib.itoa r).toArray⟩ : ByteArray) : ByteArray).data.toList = 114 :: Lib.itoa r := by
  rw [dataApp]; simp
theorem iRegister (r : Int) (hr : In64 r) (w : World) (hT : Tb w) : Calls Tryz.prog 122 #[.int .i64 r] w (GivesW (rgW r) w) := by
  have HV := Lib.hid (vForm r _ rfl hr.1 hr.2 w hT)
  have HF := Lib.hid (fun X => iFixed (⟨#[114]⟩ ++ ⟨(Lib.itoa r).toArray⟩) X)
  have HE := Lib.hid (show Wd.ok (⟨#[114]⟩ ++ (⟨(Lib.itoa r).toArray⟩ : ByteArray) : ByteArray).data.toList = rgW r by rw [rgBs]; rfl)
  have hsz : (⟨(Lib.itoa r).toArray⟩ : ByteArray).size ≤ 21 := by
    have := Lib.itoa_length_le r hr.1 hr.2
    simpa [ByteArray.size] using this
  generalize (⟨(Lib.itoa r).toArray⟩ : ByteArray) = s at *
  clear hr hT
  go_enter Tryz.func122, Tryz.ntmps122
  go_wp2_with fail
  refine HV.out.mono ?_
  rintro e w1 ⟨rfl, b1⟩
  go_wp2_with fail
  refine (HF.out _).mono ?_
  rintro e w2 ⟨⟨f, L, rfl, h2⟩, b2⟩
  rw [HE.out] at h2
  have H2 := Lib.hid h2
  have B2 := Lib.hid (belowThen b1 b2)
  clear h2 b1 b2
  go_wp2
  go_ret
  exact ⟨⟨_, _, rfl, H2.out⟩, B2.out⟩
theorem dIsVal (n : Int) (w : World) : Calls Tryz.prog 66 #[.int .i64 n] w fun e w' => e = .returned (.bool (isVal n)) ∧ w = w' := by
  have HE := Lib.hid (show decide (wrap32 n = n) = isVal n from isValNOk)
  go_enter Tryz.func66, Tryz.ntmps66
  go_wp2_with fail
  refine (vWrap n _).mono ?_
  rintro e w' ⟨rfl, rfl⟩
  go_wp2
  go_ret
  refine ⟨?_, rfl⟩
  rw [← HE.out]
  first | rfl | (congr 2; rw [Bool.eq_iff_iff]; simp)
theorem nuOk {n : Int} (h : isVal n = true) : gvW (nuW n) = .returned (.tuple #[.string ⟨(Lib.itoa n).toArray⟩, .int .i64 0]) := by rw [nuW, if_pos h]; rfl
theorem nuNo {n : Int} (h : isVal n = false) : gvW (nuW n) = .returned (.tuple #[.string ⟨#[]⟩, .int .i64 2]) := by rw [nuW, h]; rfl
theorem iNumber1 (n : Int) (hn : In64 n) (b : Nat) (X : World) (hT : Tb X) (h : X.cell? ⟨b, 0, none⟩ = some (.int .i64 n)) :
    Calls Tryz.prog 184 #[.pointer (some ⟨b, 0, none⟩)] X fun e X' => e = gvW (nuW n) ∧ Below X.heap.size X X' := by
  have HV := Lib.hid (vForm n _ rfl hn.1 hn.2 X hT)
  have HI := Lib.hid (dIsVal n X)
  clear hT hn
  cases hv : isVal n
  · have HE := Lib.hid (nuNo hv)
    rw [hv] at HI
    generalize gvW (nuW n) = g at HE ⊢
    clear hv
    go_enter Tryz.func184, Tryz.ntmps184
    go_wp2_with fail
    refine HI.out.mono ?_
    rintro e w' ⟨rfl, rfl⟩
    go_wp2
    go_ret2
    exact ⟨HE.out.symm, Below.refl _ _⟩
  · have HE := Lib.hid (nuOk hv)
    rw [hv] at HI
    generalize gvW (nuW n) = g at HE ⊢
    generalize (⟨(Lib.itoa n).toArray⟩ : ByteArray) = s at *
    clear hv
    go_enter Tryz.func184, Tryz.ntmps184
    go_wp2_with fail
    refine HI.out.mono ?_
    rintro e w' ⟨rfl, rfl⟩
    go_wp2_with fail
    refine HV.out.mono ?_
    rintro e w1 ⟨rfl, b1⟩
    go_wp2
    go_ret2
    exact ⟨HE.out.symm, b1⟩
theorem iNumberC (n : Int) (hn : In64 n) (w : World) (hT : ∀ X, Below w.heap.size w X → Tb X) : Calls Tryz.prog 128 #[.int .i64 n] w (GivesW (nuW n) w) := by
  have HT := Lib.hid hT
  have HN := Lib.hid hn
  clear hT hn
  go_enter Tryz.func128, Tryz.ntmps128
  go_wp2
  go_ret
  refine ⟨⟨_, _, rfl, _, _, rfl, entNum, fun X hX => iNumber1 n HN.out _ X (HT.out X (belowThen (belowAlloc _ _) hX)) ?_⟩, belowAlloc _ _⟩
  exact (hX.cell (by simp)).trans (cellNewW _ _ _)
theorem tgOk {n : Int} (h : belB n 65 = true) : gvW (tgW n) = .returned (.tuple #[.string ⟨(Lib.itoa n).toArray⟩, .int .i64 0]) := by rw [tgW, if_pos h]; rfl
theorem tgNo {n : Int} (h : belB n 65 = false) : gvW (tgW n) = .returned (.tuple #[.string ⟨#[]⟩, .int .i64 12]) := by rw [tgW, h]; rfl
theorem iTarget1 (n : Int) (hn : In64 n) (b : Nat) (X : World) (hT : Tb X) (h : X.cell? ⟨b, 0, none⟩ = some (.int .i64 n)) :
    Calls Tryz.prog 185 #[.pointer (some ⟨b, 0, none⟩)] X fun e X' => e = gvW (tgW n) ∧ Below X.heap.size X X' := by
  have HV := Lib.hid (vForm n _ rfl hn.1 hn.2 X hT)
  have HN := Lib.hid (fun h : belB n 65 = false => tgNo h)
  have HO := Lib.hid (fun h : belB n 65 = true => tgOk h)
  generalize gvW (tgW n) = g at HN HO ⊢
  generalize (⟨(Lib.itoa n).toArray⟩ : ByteArray) = s at *
  clear hT
  by_cases h0 : n < 0
  · have HE := Lib.hid (HN.out (by simp [belB]; omega))
    clear hn
    go_enter Tryz.func185, Tryz.ntmps185
    go_wp2
    go_ret2
    exact ⟨HE.out.symm, Below.refl _ _⟩
  · by_cases h1 : 64 < n
    · have HE := Lib.hid (HN.out (by simp [belB]; omega))
      clear hn
      go_enter Tryz.func185, Tryz.ntmps185
      go_wp2
      go_ret2
      exact ⟨HE.out.symm, Below.refl _ _⟩
    · have HE := Lib.hid (HO.out (by simp [belB]; omega))
      clear hn
      go_enter Tryz.func185, Tryz.ntmps185
      go_wp2_with fail
      refine HV.out.mono ?_
      rintro e w1 ⟨rfl, b1⟩
      go_wp2
      go_ret2
      exact ⟨HE.out.symm, b1⟩
theorem iTargetC (n : Int) (hn : In64 n) (w : World) (hT : ∀ X, Below w.heap.size w X → Tb X) : Calls Tryz.prog 129 #[.int .i64 n] w (GivesW (tgW n) w) := by
  have HT := Lib.hid hT
  have HN := Lib.hid hn
  clear hT hn
  go_enter Tryz.func129, Tryz.ntmps129
  go_wp2
  go_ret
  refine ⟨⟨_, _, rfl, _, _, rfl, entTgt, fun X hX => iTarget1 n HN.out _ X (HT.out X (belowThen (belowAlloc _ _) hX)) ?_⟩, belowAlloc _ _⟩
  exact (hX.cell (by simp)).trans (cellNewW _ _ _)
theorem iKnown1 (s : ByteArray) (E : Int) (b d : Nat) (X : World) (h : X.cell? ⟨b, 0, none⟩ = some (.string s)) (hE : X.cell? ⟨d, 0, none⟩ = some (.int .i64 E)) :
    Calls Tryz.prog 202 #[.pointer (some ⟨b, 0, none⟩), .pointer (some ⟨d, 0, none⟩)] X fun e X' => e = gvW (knW s E) ∧ Below X.heap.size X X' := by
  cases hv : s.toList.isEmpty
  · have HE := Lib.hid (show gvW (knW s E) = .returned (.tuple #[.string s, .int .i64 0]) by rw [knW, hv]; rfl)
    generalize gvW (knW s E) = g at HE ⊢
    have hv2 : ¬ s.toList = [] := by rw [← List.isEmpty_iff, hv]; decide
    have hv3 : (!s.toList.isEmpty) = true := by rw [hv]; rfl
    go_enter Tryz.func202, Tryz.ntmps202
    go_wp2
    go_ret2
    exact ⟨HE.out.symm, Below.refl _ _⟩
  · have HE := Lib.hid (show gvW (knW s E) = .returned (.tuple #[.string ⟨#[]⟩, .int .i64 E]) by rw [knW, hv]; rfl)
    generalize gvW (knW s E) = g at HE ⊢
    have hv2 : s.toList = [] := List.isEmpty_iff.1 hv
    have hv3 : (!s.toList.isEmpty) = false := by rw [hv]; rfl
    go_enter Tryz.func202, Tryz.ntmps202
    go_wp2_with fail
    go_quiet (fail)
    go_wp2
    go_ret2
    exact ⟨HE.out.symm, belowDrewN (Below.refl _ _) _⟩
theorem iKnown (s : ByteArray) (E : Int) (w : World) : Calls Tryz.prog 182 #[.string s, .int .i64 E] w (GivesW (knW s E) w) := by
  go_enter Tryz.func182, Tryz.ntmps182
  go_wp2
  go_ret
  refine ⟨⟨_, _, rfl, _, _, rfl, entKnw, fun X hX => iKnown1 s E _ _ X ?_ ?_⟩, belowThen (belowAlloc _ _) (belowAlloc _ _)⟩
  · refine (hX.cell ?_).trans ?_
    · simp; omega
    · exact ((belowAlloc _ _).cell (by simp)).trans (cellNewW _ _ _)
  · refine (hX.cell ?_).trans ?_
    · simp
    · exact (Blk.new1 w _ _ #[_]).cell 0
theorem iCalc (f : Int) (w : World) (hN : Nm w) : Calls Tryz.prog 126 #[.int .i64 f] w (GivesW (knW (nameOf f) 8) w) := by
  have HV := Lib.hid (vName f w hN)
  have HF := Lib.hid (fun X => iKnown (nameOf f) 8 X)
  generalize nameOf f = s at *
  clear hN
  go_enter Tryz.func126, Tryz.ntmps126
  go_wp2_with fail
  refine HV.out.mono ?_
  rintro e w1 ⟨rfl, rfl⟩
  go_wp2_with fail
  refine (HF.out _).mono ?_
  rintro e w2 ⟨⟨f, L, rfl, h2⟩, b2⟩
  have H2 := Lib.hid h2
  clear h2
  go_wp2
  go_ret
  exact ⟨⟨_, _, rfl, H2.out⟩, b2⟩
theorem iOrdC (o : Int) (w : World) (hN : OrT w) : Calls Tryz.prog 127 #[.int .i64 o] w (GivesW (knW (ornOf o) 13) w) := by
  have HV := Lib.hid (iOrd o _ rfl w hN)
  have HF := Lib.hid (fun X => iKnown (ornOf o) 13 X)
  generalize ornOf o = s at *
  clear hN
  go_enter Tryz.func127, Tryz.ntmps127
  go_wp2_with fail
  refine HV.out.mono ?_
  rintro e w1 ⟨rfl, rfl⟩
  go_wp2_with fail
  refine (HF.out _).mono ?_
  rintro e w2 ⟨⟨f, L, rfl, h2⟩, b2⟩
  have H2 := Lib.hid h2
  clear h2
  go_wp2
  go_ret
  exact ⟨⟨_, _, rfl, H2.out⟩, b2⟩
/-- The closure of an object. -/
theorem iObject1 (l : List ByteArray) (n : Nat) (hn : l.length = n) (k : Int) (v : Value) (b d g : Nat) (X : World) (h1 : X.cell? ⟨b, 0, none⟩ = some (.int .i64 k)) (h2 : X.cell? ⟨d, 0, none⟩ = some (.int .i64 (n : Nat))) (h3 : X.cell? ⟨g, 0, none⟩ = some v) (hv : NmC X v l k) :
    Calls Tryz.prog 201 #[.pointer (some ⟨b, 0, none⟩), .pointer (some ⟨d, 0, none⟩), .pointer (some ⟨g, 0, none⟩)] X fun e X' => e = gvW (obW l k) ∧ Below X.heap.size X X' := by
  obtain ⟨f, L, rfl, he, hc⟩ := hv
  by_cases h0 : k < 0
  · have HE := Lib.hid (show gvW (obW l k) = .returned (.tuple #[.string ⟨#[]⟩, .int .i64 11]) by rw [obW, show belB k l.length = false by simp [belB]; omega]; rfl)
    generalize gvW (obW l k) = r at HE ⊢
    clear hc hn
    go_enter Tryz.func201, Tryz.ntmps201
    go_wp2
    go_ret2
    exact ⟨HE.out.symm, Below.refl _ _⟩
  · by_cases hk : (n : Int) ≤ k
    · have HE := Lib.hid (show gvW (obW l k) = .returned (.tuple #[.string ⟨#[]⟩, .int .i64 11]) by rw [obW, show belB k l.length = false by simp [belB]; omega]; rfl)
      generalize gvW (obW l k) = r at HE ⊢
      clear hc hn
      go_enter Tryz.func201, Tryz.ntmps201
      go_wp2
      go_ret2
      exact ⟨HE.out.symm, Below.refl _ _⟩
    · have hbe : belB k l.length = true := by simp [belB]; omega
      have HC := Lib.hid (hc hbe X (Below.refl _ _))
      have HE := Lib.hid (show gvW (obW l k) = .returned (.tuple #[.string (l.getD k.toNat ⟨#[]⟩), .int .i64 0]) by rw [obW, if_pos hbe]; rfl)
      generalize gvW (obW l k) = r at HE ⊢
      generalize l.getD k.toNat ⟨#[]⟩ = s at *
      clear hc hn hbe
      go_enter Tryz.func201, Tryz.ntmps201
      go_wp2_with fail
      refine HC.out.mono ?_
      rintro e w1 ⟨rfl, b1⟩
      go_wp2
      go_ret2
      exact ⟨HE.out.symm, b1⟩
theorem cells3 (w : World) (t1 t2 t3 : TypeId) (x y z : Value) (X : World) (hX : Below (((w.alloc (.cells #[x] t1)).alloc (.cells #[y] t2)).alloc (.cells #[z] t3)).heap.size (((w.alloc (.cells #[x] t1)).alloc (.cells #[y] t2)).alloc (.cells #[z] t3)) X) :
    X.cell? ⟨w.heap.size, 0, none⟩ = some x ∧ X.cell? ⟨w.heap.size + 1, 0, none⟩ = some y ∧ X.cell? ⟨w.heap.size + 1 + 1, 0, none⟩ = some z := by
  obtain ⟨w1, e1⟩ : ∃ w1, w.alloc (.cells #[x] t1) = w1 := ⟨_, rfl⟩
  have z1 : w1.heap.size = w.heap.size + 1 := by rw [← e1]; simp
  have b1 : Blk w1 w.heap.size t1 #[x] := by rw [← e1]; exact Blk.new w _ _
  rw [e1] at hX
  obtain ⟨w2, e2⟩ : ∃ w2, w1.alloc (.cells #[y] t2) = w2 := ⟨_, rfl⟩
  have z2 : w2.heap.size = w.heap.size + 1 + 1 := by rw [← e2, ← z1]; simp
  have b2 : Blk w2 (w.heap.size + 1) t2 #[y] := by rw [← e2, ← z1]; exact Blk.new w1 _ _
  have d2 : Below w1.heap.size w1 w2 := by rw [← e2]; exact belowAlloc _ _
  rw [e2] at hX
  obtain ⟨w3, e3⟩ : ∃ w3, w2.alloc (.cells #[z] t3) = w3 := ⟨_, rfl⟩
  have b3 : Blk w3 (w.heap.size + 1 + 1) t3 #[z] := by rw [← e3, ← z2]; exact Blk.new w2 _ _
  have d3 : Below w2.heap.size w2 w3 := by rw [← e3]; exact belowAlloc _ _
  rw [e3] at hX
  exact ⟨(((b1.below' d2).below' d3).below' hX).cell 0, ((b2.below' d3).below' hX).cell 0, (b3.below' hX).cell 0⟩
theorem below3 (w : World) (o1 o2 o3 : Obj) : Below w.heap.size w (((w.alloc o1).alloc o2).alloc o3) := belowThen (belowThen (belowAlloc _ _) (belowAlloc _ _)) (belowAlloc _ _)
theorem iObject (l : List ByteArray) (n : Nat) (hn : l.length = n) (k : Int) (v : Value) (w : World) (hv : NmC w v l k) :
    Calls Tryz.prog 178 #[.int .i64 k, .int .i64 (n : Nat), v] w (GivesW (obW l k) w) := by
  have HV := Lib.hid hv
  have HN := Lib.hid hn
  obtain ⟨f, L, rfl, _⟩ := hv
  clear hn
  go_enter Tryz.func178, Tryz.ntmps178
  go_wp2
  go_ret
  refine ⟨⟨_, _, rfl, _, _, rfl, entObj, fun X hX => ?_⟩, below3 _ _ _ _⟩
  obtain ⟨q1, q2, q3⟩ := cells3 _ _ _ _ _ _ _ X hX
  exact iObject1 l n HN.out k _ _ _ _ X q1 q2 q3 (HV.out.below (belowThen (below3 _ _ _ _) hX))
end Go.Proofs.YtnckpjcfgeajbaaGreatDoor

namespace Go.Proofs.YtnckpjcfgeajbaaGreatDoor
open Go Go.RowKit

theorem vNat {p : Prg} {k : Nat} (h : k < p.vars.length) : p.vN.getD k ⟨#[]⟩ = p.vars[k].1 := by
  unfold Prg.vN
  rw [List.getD_eq_getElem?_getD, List.getElem?_map, List.getElem?_eq_getElem h]; rfl
theorem fNat {p : Prg} {k : Nat} (h : k < p.funcs.length) : p.fN.getD k ⟨#[]⟩ = p.funcs[k].1 := by
  unfold Prg.fN
  rw [List.getD_eq_getElem?_getD, List.getElem?_map, List.getElem?_eq_getElem h]; rfl
theorem mNat {l : List ByteArray} {k : Nat} (h : k < l.length) : l.getD k ⟨#[]⟩ = l[k] := by
  rw [List.getD_eq_getElem?_getD, List.getElem?_eq_getElem h]; rfl
/-- variableName: the closure over the program. -/
theorem iVn1 {a : PgA} {p : Prg} (b d k : Nat) (X : World) (hP : PgW X a p) (hB : PBox X b a) (hk' : k < p.vars.length) (hc : X.cell? ⟨d, 0, none⟩ = some (.int .i64 (k : Int))) :
    Calls Tryz.prog 179 #[.pointer (some ⟨b, 0, none⟩), .pointer (some ⟨d, 0, none⟩)] X fun e X' => e = .returned (.string (p.vN.getD k ⟨#[]⟩)) ∧ Below X.heap.size X X' := by
  obtain ⟨c0, _, _, _, _⟩ := hB.facts
  obtain ⟨q, off, hA, _, h1, _⟩ := hP.vars.one hk'
  have hl := hP.l1
  have hm := hP.vars.max
  have hle := hP.vars.le
  rw [vNat hk']
  obtain ⟨s, hs⟩ : ∃ s, p.vars[k].1 = s := ⟨_, rfl⟩
  rw [hs] at h1 ⊢
  rw [hA] at c0
  rw [hl] at hle hk'
  unfold maxLen at hm
  generalize a.n1 = n1 at *
  generalize a.c1 = cp at *
  clear hs hP hB hA hl
  have hk0 : (0 : Int) ≤ k := by omega
  have hk1 : (k : Int) < n1 := by omega
  go_enter Tryz.func179, Tryz.ntmps179
  go_wp2
  go_ret
  exact ⟨rfl, Below.refl _ _⟩
theorem iVnC {a : PgA} {p : Prg} (b d : Nat) (k : Int) (X : World) (hP : PgW X a p) (hB : PBox X b a) (hc : X.cell? ⟨d, 0, none⟩ = some (.int .i64 k)) :
    NmC X (.func (.func 179) #[] #[.pointer (some ⟨b, 0, none⟩), .pointer (some ⟨d, 0, none⟩)]) p.vN k := by
  refine ⟨_, _, rfl, entVn, fun hk Y hY => ?_⟩
  have hb : 0 ≤ k ∧ k < (p.vN.length : Int) := by simpa [belB] using hk
  have hlen : p.vN.length = p.vars.length := by simp [Prg.vN]
  obtain ⟨j, rfl⟩ : ∃ j : Nat, k = j := ⟨k.toNat, by omega⟩
  have hlt := World.block_lt_of_cell? _ _ hc
  rw [Int.toNat_natCast]
  exact iVn1 b d j Y (hP.below hY) (hB.below hY) (by omega) ((hY.cell hlt).trans hc)
set_option maxHeartbeats 1000000 in
theorem iVn {a : PgA} {p : Prg} (k : Int) (w : World) (hP : PgW w a p) : Calls Tryz.prog 123 #[a.val, .int .i64 k] w (GivesW (obW p.vN k) w) := by
  obtain ⟨W, hWE⟩ : ∃ W, w.alloc (.cells a.fs 28) = W := ⟨_, rfl⟩
  have hbW : Below w.heap.size w W := by rw [← hWE]; exact belowAlloc w _
  have hB : PBox W w.heap.size a := by rw [← hWE]; exact Blk.new w _ _
  have hz : W.heap.size = w.heap.size + 1 := by rw [← hWE]; simp
  obtain ⟨V, hVE⟩ : ∃ V, W.alloc (.cells #[.int .i64 k] 3) = V := ⟨_, rfl⟩
  have hbV : Below W.heap.size W V := by rw [← hVE]; exact belowAlloc W _
  have hcV : V.cell? ⟨W.heap.size, 0, none⟩ = some (.int .i64 k) := by rw [← hVE]; exact cellNewW _ _ _
  rw [hz] at hcV
  have hBV := hB.below hbV
  have hPV := (hP.below hbW).below hbV
  have hlen : p.vN.length = a.n1 := by rw [← hP.l1]; simp [Prg.vN]
  have hle := hP.vars.le
  have hm := hP.vars.max
  rw [hP.l1] at hle
  unfold maxLen at hm
  have HO := Lib.hid (fun X (hX : Below V.heap.size V X) => iObject p.vN a.n1 hlen k _ X ((iVnC w.heap.size (w.heap.size + 1) k V hPV hBV hcV).below hX))
  have ⟨c0, _, _, _, _⟩ := hBV.facts
  have HW := Lib.hid hWE
  have HV := Lib.hid hVE
  have HB := Lib.hid (belowThen hbW hbV)
  obtain ⟨A1, n1, c1, A2, n2, c2, A3, n3, c3, A4, n4, c4, A5, n5, c5⟩ := a
  simp only [PgA.val, PgA.fs] at *
  generalize obW p.vN k = x at HO ⊢
  clear hP hWE hVE hbW hbV hB hPV hBV hlen
  go_enter Tryz.func123, Tryz.ntmps123
  go_wp2_with fail
  rw [HW.out]
  go_wp2_with fail
  rw [HV.out]
  refine (HO.out V (Below.refl _ _)).mono ?_
  rintro e w2 ⟨⟨f, L, rfl, h2⟩, b2⟩
  have H2 := Lib.hid h2
  have B2 := Lib.hid (belowThen HB.out b2)
  clear h2 b2
  go_wp2
  go_ret
  exact ⟨⟨_, _, rfl, H2.out⟩, B2.out⟩
/-- mutexName: the closure over the program. -/
theorem iMn1 {a : PgA} {p : Prg} (b d k : Nat) (X : World) (hP : PgW X a p) (hB : PBox X b a) (hk' : k < p.muts.length) (hc : X.cell? ⟨d, 0, none⟩ = some (.int .i64 (k : Int))) :
    Calls Tryz.prog 180 #[.pointer (some ⟨b, 0, none⟩), .pointer (some ⟨d, 0, none⟩)] X fun e X' => e = .returned (.string (p.muts.getD k ⟨#[]⟩)) ∧ Below X.heap.size X X' := by
  obtain ⟨_, c0, _, _, _⟩ := hB.facts
  obtain ⟨q, off, hA, _, h1⟩ := hP.muts.one hk'
  have hl := hP.l2
  have hm := hP.muts.max
  have hle := hP.muts.le
  unfold ES at h1
  rw [Nat.mul_one] at h1
  rw [mNat hk']
  obtain ⟨s, hs⟩ : ∃ s, p.muts[k] = s := ⟨_, rfl⟩
  rw [hs] at h1 ⊢
  rw [hA] at c0
  rw [hl] at hle hk'
  unfold maxLen at hm
  generalize a.n2 = n1 at *
  generalize a.c2 = cp at *
  clear hs hP hB hA hl
  have hk0 : (0 : Int) ≤ k := by omega
  have hk1 : (k : Int) < n1 := by omega
  go_enter Tryz.func180, Tryz.ntmps180
  go_wp2
  go_ret
  exact ⟨rfl, Below.refl _ _⟩
theorem iMnC {a : PgA} {p : Prg} (b d : Nat) (k : Int) (X : World) (hP : PgW X a p) (hB : PBox X b a) (hc : X.cell? ⟨d, 0, none⟩ = some (.int .i64 k)) :
    NmC X (.func (.func 180) #[] #[.pointer (some ⟨b, 0, none⟩), .pointer (some ⟨d, 0, none⟩)]) p.muts k := by
  refine ⟨_, _, rfl, entMn, fun hk Y hY => ?_⟩
  have hb : 0 ≤ k ∧ k < (p.muts.length : Int) := by simpa [belB] using hk
  have hlen : p.muts.length = p.muts.length := rfl
  obtain ⟨j, rfl⟩ : ∃ j : Nat, k = j := ⟨k.toNat, by omega⟩
  have hlt := World.block_lt_of_cell? _ _ hc
  rw [Int.toNat_natCast]
  exact iMn1 b d j Y (hP.below hY) (hB.below hY) (by omega) ((hY.cell hlt).trans hc)
set_option maxHeartbeats 1000000 in
theorem iMn {a : PgA} {p : Prg} (k : Int) (w : World) (hP : PgW w a p) : Calls Tryz.prog 124 #[a.val, .int .i64 k] w (GivesW (obW p.muts k) w) := by
  obtain ⟨W, hWE⟩ : ∃ W, w.alloc (.cells a.fs 28) = W := ⟨_, rfl⟩
  have hbW : Below w.heap.size w W := by rw [← hWE]; exact belowAlloc w _
  have hB : PBox W w.heap.size a := by rw [← hWE]; exact Blk.new w _ _
  have hz : W.heap.size = w.heap.size + 1 := by rw [← hWE]; simp
  obtain ⟨V, hVE⟩ : ∃ V, W.alloc (.cells #[.int .i64 k] 3) = V := ⟨_, rfl⟩
  have hbV : Below W.heap.size W V := by rw [← hVE]; exact belowAlloc W _
  have hcV : V.cell? ⟨W.heap.size, 0, none⟩ = some (.int .i64 k) := by rw [← hVE]; exact cellNewW _ _ _
  rw [hz] at hcV
  have hBV := hB.below hbV
  have hPV := (hP.below hbW).below hbV
  have hlen : p.muts.length = a.n2 := hP.l2
  have hle := hP.muts.le
  have hm := hP.muts.max
  rw [hP.l2] at hle
  unfold maxLen at hm
  have HO := Lib.hid (fun X (hX : Below V.heap.size V X) => iObject p.muts a.n2 hlen k _ X ((iMnC w.heap.size (w.heap.size + 1) k V hPV hBV hcV).below hX))
  have ⟨_, c0, _, _, _⟩ := hBV.facts
  have HW := Lib.hid hWE
  have HV := Lib.hid hVE
  have HB := Lib.hid (belowThen hbW hbV)
  obtain ⟨A1, n1, c1, A2, n2, c2, A3, n3, c3, A4, n4, c4, A5, n5, c5⟩ := a
  simp only [PgA.val, PgA.fs] at *
  generalize obW p.muts k = x at HO ⊢
  clear hP hWE hVE hbW hbV hB hPV hBV hlen
  go_enter Tryz.func124, Tryz.ntmps124
  go_wp2_with fail
  rw [HW.out]
  go_wp2_with fail
  rw [HV.out]
  refine (HO.out V (Below.refl _ _)).mono ?_
  rintro e w2 ⟨⟨f, L, rfl, h2⟩, b2⟩
  have H2 := Lib.hid h2
  have B2 := Lib.hid (belowThen HB.out b2)
  clear h2 b2
  go_wp2
  go_ret
  exact ⟨⟨_, _, rfl, H2.out⟩, B2.out⟩
/-- condName: the closure over the program. -/
theorem iCn1 {a : PgA} {p : Prg} (b d k : Nat) (X : World) (hP : PgW X a p) (hB : PBox X b a) (hk' : k < p.conds.length) (hc : X.cell? ⟨d, 0, none⟩ = some (.int .i64 (k : Int))) :
    Calls Tryz.prog 181 #[.pointer (some ⟨b, 0, none⟩), .pointer (some ⟨d, 0, none⟩)] X fun e X' => e = .returned (.string (p.conds.getD k ⟨#[]⟩)) ∧ Below X.heap.size X X' := by
  obtain ⟨_, _, c0, _, _⟩ := hB.facts
  obtain ⟨q, off, hA, _, h1⟩ := hP.conds.one hk'
  have hl := hP.l3
  have hm := hP.conds.max
  have hle := hP.conds.le
  unfold ES at h1
  rw [Nat.mul_one] at h1
  rw [mNat hk']
  obtain ⟨s, hs⟩ : ∃ s, p.conds[k] = s := ⟨_, rfl⟩
  rw [hs] at h1 ⊢
  rw [hA] at c0
  rw [hl] at hle hk'
  unfold maxLen at hm
  generalize a.n3 = n1 at *
  generalize a.c3 = cp at *
  clear hs hP hB hA hl
  have hk0 : (0 : Int) ≤ k := by omega
  have hk1 : (k : Int) < n1 := by omega
  go_enter Tryz.func181, Tryz.ntmps181
  go_wp2
  go_ret
  exact ⟨rfl, Below.refl _ _⟩
theorem iCnC {a : PgA} {p : Prg} (b d : Nat) (k : Int) (X : World) (hP : PgW X a p) (hB : PBox X b a) (hc : X.cell? ⟨d, 0, none⟩ = some (.int .i64 k)) :
    NmC X (.func (.func 181) #[] #[.pointer (some ⟨b, 0, none⟩), .pointer (some ⟨d, 0, none⟩)]) p.conds k := by
  refine ⟨_, _, rfl, entCn, fun hk Y hY => ?_⟩
  have hb : 0 ≤ k ∧ k < (p.conds.length : Int) := by simpa [belB] using hk
  have hlen : p.conds.length = p.conds.length := rfl
  obtain ⟨j, rfl⟩ : ∃ j : Nat, k = j := ⟨k.toNat, by omega⟩
  have hlt := World.block_lt_of_cell? _ _ hc
  rw [Int.toNat_natCast]
  exact iCn1 b d j Y (hP.below hY) (hB.below hY) (by omega) ((hY.cell hlt).trans hc)
set_option maxHeartbeats 1000000 in
theorem iCn {a : PgA} {p : Prg} (k : Int) (w : World) (hP : PgW w a p) : Calls Tryz.prog 125 #[a.val, .int .i64 k] w (GivesW (obW p.conds k) w) := by
  obtain ⟨W, hWE⟩ : ∃ W, w.alloc (.cells a.fs 28) = W := ⟨_, rfl⟩
  have hbW : Below w.heap.size w W := by rw [← hWE]; exact belowAlloc w _
  have hB : PBox W w.heap.size a := by rw [← hWE]; exact Blk.new w _ _
  have hz : W.heap.size = w.heap.size + 1 := by rw [← hWE]; simp
  obtain ⟨V, hVE⟩ : ∃ V, W.alloc (.cells #[.int .i64 k] 3) = V := ⟨_, rfl⟩
  have hbV : Below W.heap.size W V := by rw [← hVE]; exact belowAlloc W _
  have hcV : V.cell? ⟨W.heap.size, 0, none⟩ = some (.int .i64 k) := by rw [← hVE]; exact cellNewW _ _ _
  rw [hz] at hcV
  have hBV := hB.below hbV
  have hPV := (hP.below hbW).below hbV
  have hlen : p.conds.length = a.n3 := hP.l3
  have hle := hP.conds.le
  have hm := hP.conds.max
  rw [hP.l3] at hle
  unfold maxLen at hm
  have HO := Lib.hid (fun X (hX : Below V.heap.size V X) => iObject p.conds a.n3 hlen k _ X ((iCnC w.heap.size (w.heap.size + 1) k V hPV hBV hcV).below hX))
  have ⟨_, _, c0, _, _⟩ := hBV.facts
  have HW := Lib.hid hWE
  have HV := Lib.hid hVE
  have HB := Lib.hid (belowThen hbW hbV)
  obtain ⟨A1, n1, c1, A2, n2, c2, A3, n3, c3, A4, n4, c4, A5, n5, c5⟩ := a
  simp only [PgA.val, PgA.fs] at *
  generalize obW p.conds k = x at HO ⊢
  clear hP hWE hVE hbW hbV hB hPV hBV hlen
  go_enter Tryz.func125, Tryz.ntmps125
  go_wp2_with fail
  rw [HW.out]
  go_wp2_with fail
  rw [HV.out]
  refine (HO.out V (Below.refl _ _)).mono ?_
  rintro e w2 ⟨⟨f, L, rfl, h2⟩, b2⟩
  have H2 := Lib.hid h2
  have B2 := Lib.hid (belowThen HB.out b2)
  clear h2 b2
  go_wp2
  go_ret
  exact ⟨⟨_, _, rfl, H2.out⟩, B2.out⟩
/-- functionName: the closure over the program. -/
theorem iFn1 {a : PgA} {p : Prg} (b d k : Nat) (X : World) (hP : PgW X a p) (hB : PBox X b a) (hk' : k < p.funcs.length) (hc : X.cell? ⟨d, 0, none⟩ = some (.int .i64 (k : Int))) :
    Calls Tryz.prog 186 #[.pointer (some ⟨b, 0, none⟩), .pointer (some ⟨d, 0, none⟩)] X fun e X' => e = .returned (.string (p.fN.getD k ⟨#[]⟩)) ∧ Below X.heap.size X X' := by
  obtain ⟨_, _, _, c0, _⟩ := hB.facts
  obtain ⟨q, off, hA, _, h1, _⟩ := hP.funcs.one hk'
  have hl := hP.l4
  have hm := hP.funcs.max
  have hle := hP.funcs.le
  rw [fNat hk']
  obtain ⟨s, hs⟩ : ∃ s, p.funcs[k].1 = s := ⟨_, rfl⟩
  rw [hs] at h1 ⊢
  rw [hA] at c0
  rw [hl] at hle hk'
  unfold maxLen at hm
  generalize a.n4 = n1 at *
  generalize a.c4 = cp at *
  clear hs hP hB hA hl
  have hk0 : (0 : Int) ≤ k := by omega
  have hk1 : (k : Int) < n1 := by omega
  go_enter Tryz.func186, Tryz.ntmps186
  go_wp2
  go_ret
  exact ⟨rfl, Below.refl _ _⟩
theorem iFnC {a : PgA} {p : Prg} (b d : Nat) (k : Int) (X : World) (hP : PgW X a p) (hB : PBox X b a) (hc : X.cell? ⟨d, 0, none⟩ = some (.int .i64 k)) :
    NmC X (.func (.func 186) #[] #[.pointer (some ⟨b, 0, none⟩), .pointer (some ⟨d, 0, none⟩)]) p.fN k := by
  refine ⟨_, _, rfl, entFn, fun hk Y hY => ?_⟩
  have hb : 0 ≤ k ∧ k < (p.fN.length : Int) := by simpa [belB] using hk
  have hlen : p.fN.length = p.funcs.length := by simp [Prg.fN]
  obtain ⟨j, rfl⟩ : ∃ j : Nat, k = j := ⟨k.toNat, by omega⟩
  have hlt := World.block_lt_of_cell? _ _ hc
  rw [Int.toNat_natCast]
  exact iFn1 b d j Y (hP.below hY) (hB.below hY) (by omega) ((hY.cell hlt).trans hc)
set_option maxHeartbeats 1000000 in
theorem iFn {a : PgA} {p : Prg} (k : Int) (w : World) (hP : PgW w a p) : Calls Tryz.prog 130 #[a.val, .int .i64 k] w (GivesW (obW p.fN k) w) := by
  obtain ⟨W, hWE⟩ : ∃ W, w.alloc (.cells a.fs 28) = W := ⟨_, rfl⟩
  have hbW : Below w.heap.size w W := by rw [← hWE]; exact belowAlloc w _
  have hB : PBox W w.heap.size a := by rw [← hWE]; exact Blk.new w _ _
  have hz : W.heap.size = w.heap.size + 1 := by rw [← hWE]; simp
  obtain ⟨V, hVE⟩ : ∃ V, W.alloc (.cells #[.int .i64 k] 3) = V := ⟨_, rfl⟩
  have hbV : Below W.heap.size W V := by rw [← hVE]; exact belowAlloc W _
  have hcV : V.cell? ⟨W.heap.size, 0, none⟩ = some (.int .i64 k) := by rw [← hVE]; exact cellNewW _ _ _
  rw [hz] at hcV
  have hBV := hB.below hbV
  have hPV := (hP.below hbW).below hbV
  have hlen : p.fN.length = a.n4 := by rw [← hP.l4]; simp [Prg.fN]
  have hle := hP.funcs.le
  have hm := hP.funcs.max
  rw [hP.l4] at hle
  unfold maxLen at hm
  have HO := Lib.hid (fun X (hX : Below V.heap.size V X) => iObject p.fN a.n4 hlen k _ X ((iFnC w.heap.size (w.heap.size + 1) k V hPV hBV hcV).below hX))
  have ⟨_, _, _, c0, _⟩ := hBV.facts
  have HW := Lib.hid hWE
  have HV := Lib.hid hVE
  have HB := Lib.hid (belowThen hbW hbV)
  obtain ⟨A1, n1, c1, A2, n2, c2, A3, n3, c3, A4, n4, c4, A5, n5, c5⟩ := a
  simp only [PgA.val, PgA.fs] at *
  generalize obW p.fN k = x at HO ⊢
  clear hP hWE hVE hbW hbV hB hPV hBV hlen
  go_enter Tryz.func130, Tryz.ntmps130
  go_wp2_with fail
  rw [HW.out]
  go_wp2_with fail
  rw [HV.out]
  refine (HO.out V (Below.refl _ _)).mono ?_
  rintro e w2 ⟨⟨f, L, rfl, h2⟩, b2⟩
  have H2 := Lib.hid h2
  have B2 := Lib.hid (belowThen HB.out b2)
  clear h2 b2
  go_wp2
  go_ret
  exact ⟨⟨_, _, rfl, H2.out⟩, B2.out⟩
end Go.Proofs.YtnckpjcfgeajbaaGreatDoor

namespace Go.Proofs.YtnckpjcfgeajbaaGreatDoor
open Go Go.RowKit

/-- The table of the kinds of events is laid. -/
def EvT (w : World) : Prop := ∀ k, k < 18 → w.cell? ⟨0, k, none⟩ = some (.string (evn k))
theorem EvT.below {w w' : World} (h : EvT w) (hb : Below w.heap.size w w') : EvT w' := fun k hk => (hb.cell (World.block_lt_of_cell? _ _ (h k hk))).trans (h k hk)
theorem OrT.stay {w w' : World} (h : OrT w) (hb : Below w.heap.size w w') : OrT w' := fun k hk => (hb.cell (World.block_lt_of_cell? _ _ (h k hk))).trans (h k hk)
theorem Nm.stay {w w' : World} (h : Nm w) (hb : Below w.heap.size w w') : Nm w' := fun k hk => (hb.cell (World.block_lt_of_cell? _ _ (h k hk))).trans (h k hk)
/-- The tables that package disasm rests on are laid. -/
structure LaidD (w : World) : Prop where
  ins : InsT w
  ord : OrT w
  nm : Nm w
  tb : Tb w
theorem LaidD.below {w w' : World} (h : LaidD w) (hb : Below w.heap.size w w') : LaidD w' := ⟨h.ins.below hb, h.ord.stay hb, h.nm.stay hb, h.tb.stays hb⟩
/-- A slice of words as function values. -/
structure WdL (w : World) (A : Option Addr) (n c : Nat) (ws : List Wd) : Prop where
  len : ws.length = n
  le : n ≤ c
  max : c ≤ 16
  at_ : 0 < n → ∃ b, A = some ⟨b, 0, none⟩ ∧ b < w.heap.size ∧ ∀ j (h : j < ws.length), ∃ f L, w.cell? ⟨b, j, none⟩ = some (.func (.func f) #[] L) ∧ WdC w (.func (.func f) #[] L) ws[j]
theorem WdL.below {w w' : World} {A : Option Addr} {n c : Nat} {ws : List Wd} (h : WdL w A n c ws) (hb : Below w.heap.size w w') : WdL w' A n c ws :=
  ⟨h.len, h.le, h.max, fun h0 => by
    obtain ⟨b, e, hl, hc⟩ := h.at_ h0
    refine ⟨b, e, Nat.lt_of_lt_of_le hl hb.size, fun j hj => ?_⟩
    obtain ⟨f, L, h1, h2⟩ := hc j hj
    exact ⟨f, L, (hb.cell hl).trans h1, h2.below hb⟩⟩
/-- The call gives such a slice. -/
def GivesWL (ws : List Wd) (w : World) (e : Ending) (w' : World) : Prop := (∃ A n c, e = .returned (.slice A n c) ∧ WdL w' A n c ws) ∧ Below w.heap.size w w'
theorem wdL0 (w : World) : WdL w none 0 0 [] := ⟨rfl, Nat.le_refl _, by omega, fun h => absurd h (by decide)⟩
theorem wdL1 {w : World} {T : TypeId} {f1 : FuncId} {L1 : Array Value} {x1 : Wd} (h1 : WdC w (.func (.func f1) #[] L1) x1) : WdL (w.alloc (.cells #[.func (.func f1) #[] L1] T)) (some ⟨w.heap.size, 0, none⟩) 1 1 [x1] := by
  have hb := Blk.new w T #[.func (.func f1) #[] L1]
  refine ⟨rfl, Nat.le_refl _, by omega, fun _ => ⟨_, rfl, hb.lt, fun j hj => ?_⟩⟩
  have hj : j < 1 := hj
  obtain rfl : j = 0 := by omega
  exact ⟨_, _, hb.cell 0, h1.below (belowAlloc _ _)⟩
theorem wdL2 {w : World} {T : TypeId} {f1 f2 : FuncId} {L1 L2 : Array Value} {x1 x2 : Wd} (h1 : WdC w (.func (.func f1) #[] L1) x1) (h2 : WdC w (.func (.func f2) #[] L2) x2) : WdL (w.alloc (.cells #[.func (.func f1) #[] L1, .func (.func f2) #[] L2] T)) (some ⟨w.heap.size, 0, none⟩) 2 2 [x1, x2] := by
  have hb := Blk.new w T #[.func (.func f1) #[] L1, .func (.func f2) #[] L2]
  refine ⟨rfl, Nat.le_refl _, by omega, fun _ => ⟨_, rfl, hb.lt, fun j hj => ?_⟩⟩
  have hj : j < 2 := hj
  rcases (by omega : j = 0 ∨ j = 1) with rfl | rfl
  · exact ⟨_, _, hb.cell 0, h1.below (belowAlloc _ _)⟩
  · exact ⟨_, _, hb.cell 1, h2.below (belowAlloc _ _)⟩
theorem wdL3 {w : World} {T : TypeId} {f1 f2 f3 : FuncId} {L1 L2 L3 : Array Value} {x1 x2 x3 : Wd} (h1 : WdC w (.func (.func f1) #[] L1) x1) (h2 : WdC w (.func (.func f2) #[] L2) x2) (h3 : WdC w (.func (.func f3) #[] L3) x3) : WdL (w.alloc (.cells #[.func (.func f1) #[] L1, .func (.func f2) #[] L2, .func (.func f3) #[] L3] T)) (some ⟨w.heap.size, 0, none⟩) 3 3 [x1, x2, x3] := by
  have hb := Blk.new w T #[.func (.func f1) #[] L1, .func (.func f2) #[] L2, .func (.func f3) #[] L3]
  refine ⟨rfl, Nat.le_refl _, by omega, fun _ => ⟨_, rfl, hb.lt, fun j hj => ?_⟩⟩
  have hj : j < 3 := hj
  rcases (by omega : j = 0 ∨ j = 1 ∨ j = 2) with rfl | rfl | rfl
  · exact ⟨_, _, hb.cell 0, h1.below (belowAlloc _ _)⟩
  · exact ⟨_, _, hb.cell 1, h2.below (belowAlloc _ _)⟩
  · exact ⟨_, _, hb.cell 2, h3.below (belowAlloc _ _)⟩
theorem wdL4 {w : World} {T : TypeId} {f1 f2 f3 f4 : FuncId} {L1 L2 L3 L4 : Array Value} {x1 x2 x3 x4 : Wd} (h1 : WdC w (.func (.func f1) #[] L1) x1) (h2 : WdC w (.func (.func f2) #[] L2) x2) (h3 : WdC w (.func (.func f3) #[] L3) x3) (h4 : WdC w (.func (.func f4) #[] L4) x4) : WdL (w.alloc (.cells #[.func (.func f1) #[] L1, .func (.func f2) #[] L2, .func (.func f3) #[] L3, .func (.func f4) #[] L4] T)) (some ⟨w.heap.size, 0, none⟩) 4 4 [x1, x2, x3, x4] := by
  have hb := Blk.new w T #[.func (.func f1) #[] L1, .func (.func f2) #[] L2, .func (.func f3) #[] L3, .func (.func f4) #[] L4]
  refine ⟨rfl, Nat.le_refl _, by omega, fun _ => ⟨_, rfl, hb.lt, fun j hj => ?_⟩⟩
  have hj : j < 4 := hj
  rcases (by omega : j = 0 ∨ j = 1 ∨ j = 2 ∨ j = 3) with rfl | rfl | rfl | rfl
  · exact ⟨_, _, hb.cell 0, h1.below (belowAlloc _ _)⟩
  · exact ⟨_, _, hb.cell 1, h2.below (belowAlloc _ _)⟩
  · exact ⟨_, _, hb.cell 2, h3.below (belowAlloc _ _)⟩
  · exact ⟨_, _, hb.cell 3, h4.below (belowAlloc _ _)⟩
theorem wdL5 {w : World} {T : TypeId} {f1 f2 f3 f4 f5 : FuncId} {L1 L2 L3 L4 L5 : Array Value} {x1 x2 x3 x4 x5 : Wd} (h1 : WdC w (.func (.func f1) #[] L1) x1) (h2 : WdC w (.func (.func f2) #[] L2) x2) (h3 : WdC w (.func (.func f3) #[] L3) x3) (h4 : WdC w (.func (.func f4) #[] L4) x4) (h5 : WdC w (.func (.func f5) #[] L5) x5) : WdL (w.alloc (.cells #[.func (.func f1) #[] L1, .func (.func f2) #[] L2, .func (.func f3) #[] L3, .func (.func f4) #[] L4, .func (.func f5) #[] L5] T)) (some ⟨w.heap.size, 0, none⟩) 5 5 [x1, x2, x3, x4, x5] := by
  have hb := Blk.new w T #[.func (.func f1) #[] L1, .func (.func f2) #[] L2, .func (.func f3) #[] L3, .func (.func f4) #[] L4, .func (.func f5) #[] L5]
  refine ⟨rfl, Nat.le_refl _, by omega, fun _ => ⟨_, rfl, hb.lt, fun j hj => ?_⟩⟩
  have hj : j < 5 := hj
  rcases (by omega : j = 0 ∨ j = 1 ∨ j = 2 ∨ j = 3 ∨ j = 4) with rfl | rfl | rfl | rfl | rfl
  · exact ⟨_, _, hb.cell 0, h1.below (belowAlloc _ _)⟩
  · exact ⟨_, _, hb.cell 1, h2.below (belowAlloc _ _)⟩
  · exact ⟨_, _, hb.cell 2, h3.below (belowAlloc _ _)⟩
  · exact ⟨_, _, hb.cell 3, h4.below (belowAlloc _ _)⟩
  · exact ⟨_, _, hb.cell 4, h5.below (belowAlloc _ _)⟩
set_option maxRecDepth 100000 in
set_option maxHeartbeats 8000000 in
theorem iOperands {a : PgA} {p : Prg} (i : I8) (hi : i.Wf) (ho : 1 ≤ i.op ∧ i.op ≤ 22) (w : World) (hP : PgW w a p) (hL : LaidD w) : Calls Tryz.prog 58 #[a.val, i.val] w (GivesWL (p.opW i) w) := by
  obtain ⟨W, hWE⟩ : ∃ W, w.alloc (.cells a.fs 28) = W := ⟨_, rfl⟩
  have hbW : Below w.heap.size w W := by rw [← hWE]; exact belowAlloc w _
  have hB : PBox W w.heap.size a := by rw [← hWE]; exact Blk.new w _ _
  have hz : W.heap.size = w.heap.size + 1 := by rw [← hWE]; simp
  obtain ⟨op, a', b', c', obj, n, fn, ord⟩ := i
  obtain ⟨V, hVE⟩ : ∃ V, W.alloc (.cells #[.int .i64 op, .int .i64 a', .int .i64 b', .int .i64 c', .int .i64 obj, .int .i64 n, .int .i64 fn, .int .i64 ord] 41) = V := ⟨_, rfl⟩
  have hbV : Below W.heap.size W V := by rw [← hVE]; exact belowAlloc W _
  have hI : Blk V W.heap.size 41 #[.int .i64 op, .int .i64 a', .int .i64 b', .int .i64 c', .int .i64 obj, .int .i64 n, .int .i64 fn, .int .i64 ord] := by rw [← hVE]; exact Blk.new W _ _
  rw [hz] at hI
  have hbB := belowThen hbW hbV
  have HKB := Lib.hid (hB.below hbV)
  have HKI := Lib.hid hI
  have HL := Lib.hid (fun X (hX : Below V.heap.size V X) => (hL.below hbB).below hX)
  have HP := Lib.hid (fun X (hX : Below V.heap.size V X) => (hP.below hbB).below hX)
  have HA := Lib.hid (fun X (hX : Below V.heap.size V X) => iRegister a' hi.a X (HL.out X hX).tb)
  have HB := Lib.hid (fun X (hX : Below V.heap.size V X) => iRegister b' hi.b X (HL.out X hX).tb)
  have HC := Lib.hid (fun X (hX : Below V.heap.size V X) => iRegister c' hi.c X (HL.out X hX).tb)
  have HV := Lib.hid (fun X (hX : Below V.heap.size V X) => iVn obj X (HP.out X hX))
  have HM := Lib.hid (fun X (hX : Below V.heap.size V X) => iMn obj X (HP.out X hX))
  have HD := Lib.hid (fun X (hX : Below V.heap.size V X) => iCn obj X (HP.out X hX))
  have HF := Lib.hid (fun X (hX : Below V.heap.size V X) => iFn obj X (HP.out X hX))
  have HQ := Lib.hid (fun X (hX : Below V.heap.size V X) => iMn n X (HP.out X hX))
  have HCA := Lib.hid (fun X (hX : Below V.heap.size V X) => iCalc fn X (HL.out X hX).nm)
  have HOR := Lib.hid (fun X (hX : Below V.heap.size V X) => iOrdC ord X (HL.out X hX).ord)
  have HNU := Lib.hid (fun X (hX : Below V.heap.size V X) => iNumberC n hi.n X (fun Y hY => (HL.out Y (belowThen hX hY)).tb))
  have HTG := Lib.hid (fun X (hX : Below V.heap.size V X) => iTargetC n hi.n X (fun Y hY => (HL.out Y (belowThen hX hY)).tb))
  obtain ⟨A1, n1, c1, A2, n2, c2, A3, n3, c3, A4, n4, c4, A5, n5, c5⟩ := a
  simp only [PgA.val, PgA.fs, I8.val] at *
  obtain ⟨b0, hb0⟩ : ∃ b0, w.heap.size = b0 := ⟨_, rfl⟩
  obtain ⟨b1, hb1⟩ : ∃ b1, w.heap.size + 1 = b1 := ⟨_, rfl⟩
  have HBB := Lib.hid hbB
  have HB0 := Lib.hid hb0
  have HB1 := Lib.hid hb1
  have HK : Hid (∀ X, Below V.heap.size V X → Below V.heap.size V X ∧ X.cell? ⟨b0, 0, none⟩ = some (.slice A1 n1 c1) ∧ X.cell? ⟨b0, 1, none⟩ = some (.slice A2 n2 c2) ∧ X.cell? ⟨b0, 2, none⟩ = some (.slice A3 n3 c3) ∧ X.cell? ⟨b0, 3, none⟩ = some (.slice A4 n4 c4) ∧ X.cell? ⟨b0, 4, none⟩ = some (.slice A5 n5 c5) ∧ X.cell? ⟨b1, 0, none⟩ = some (.int .i64 op) ∧ X.cell? ⟨b1, 1, none⟩ = some (.int .i64 a') ∧ X.cell? ⟨b1, 2, none⟩ = some (.int .i64 b') ∧ X.cell? ⟨b1, 3, none⟩ = some (.int .i64 c') ∧ X.cell? ⟨b1, 4, none⟩ = some (.int .i64 obj) ∧ X.cell? ⟨b1, 5, none⟩ = some (.int .i64 n) ∧ X.cell? ⟨b1, 6, none⟩ = some (.int .i64 fn) ∧ X.cell? ⟨b1, 7, none⟩ = some (.int .i64 ord)) := by
    refine Lib.hid fun X hX => ?_
    obtain ⟨g0, g1, g2, g3, g4⟩ := (HKB.out.below hX).facts
    have hJ := HKI.out.below' hX
    rw [hb1] at hJ
    rw [hb0] at g0 g1 g2 g3 g4
    exact ⟨hX, g0, g1, g2, g3, g4, hJ.cell 0, hJ.cell 1, hJ.cell 2, hJ.cell 3, hJ.cell 4, hJ.cell 5, hJ.cell 6, hJ.cell 7⟩
  have HW := Lib.hid hWE
  have HVE := Lib.hid hVE
  clear hP hL hB hbW hbV hWE hVE hI hbB hb0 hb1 HKB HKI hi
  have hbd : Below V.heap.size V V.drew := (Below.refl _ V).drew
  go_enter Tryz.func58, Tryz.ntmps58
  go_wp2_with fail
  rw [HW.out, HVE.out]
  rw [HB1.out, HB0.out]
  obtain ⟨k, k0, k1, k2, k3, k4, r0, r1, r2, r3, r4, r5, r6, r7⟩ := HK.out V (Below.refl _ _)
  clear k
  go_wp2_with fail
  go_region_held3 (fun w' => Below V.heap.size V w' ∧ w'.cell? ⟨b0, 0, none⟩ = some (.slice A1 n1 c1) ∧ w'.cell? ⟨b0, 1, none⟩ = some (.slice A2 n2 c2) ∧ w'.cell? ⟨b0, 2, none⟩ = some (.slice A3 n3 c3) ∧ w'.cell? ⟨b0, 3, none⟩ = some (.slice A4 n4 c4) ∧ w'.cell? ⟨b0, 4, none⟩ = some (.slice A5 n5 c5) ∧ w'.cell? ⟨b1, 0, none⟩ = some (.int .i64 op) ∧ w'.cell? ⟨b1, 1, none⟩ = some (.int .i64 a') ∧ w'.cell? ⟨b1, 2, none⟩ = some (.int .i64 b') ∧ w'.cell? ⟨b1, 3, none⟩ = some (.int .i64 c') ∧ w'.cell? ⟨b1, 4, none⟩ = some (.int .i64 obj) ∧ w'.cell? ⟨b1, 5, none⟩ = some (.int .i64 n) ∧ w'.cell? ⟨b1, 6, none⟩ = some (.int .i64 fn) ∧ w'.cell? ⟨b1, 7, none⟩ = some (.int .i64 ord))
    (first
      | with_reducible assumption
      | with_reducible exact HK.out _ hbd
      | exact HK.out _ (belowThen (‹Below V.heap.size V _ ∧ _›).1 bk))
    (first
    | (go_at_call 122; (with_reducible refine (HA.out _ (‹Below V.heap.size V _ ∧ _›).1).mono ?_); rintro e wA ⟨⟨fA, LA, rfl, hA⟩, bk⟩; have GA := Lib.hid hA; clear hA; (try have GB := Lib.hid (GB.out.below bk)); (try have GC := Lib.hid (GC.out.below bk)); (try have GV := Lib.hid (GV.out.below bk)); (try have GM := Lib.hid (GM.out.below bk)); (try have GD := Lib.hid (GD.out.below bk)); (try have GK := Lib.hid (GK.out.below bk)); (try have GO := Lib.hid (GO.out.below bk)); skip)
    | (go_at_call 122; (with_reducible refine (HB.out _ (‹Below V.heap.size V _ ∧ _›).1).mono ?_); rintro e wB ⟨⟨fB, LB, rfl, hB⟩, bk⟩; have GB := Lib.hid hB; clear hB; (try have GA := Lib.hid (GA.out.below bk)); (try have GC := Lib.hid (GC.out.below bk)); (try have GV := Lib.hid (GV.out.below bk)); (try have GM := Lib.hid (GM.out.below bk)); (try have GD := Lib.hid (GD.out.below bk)); (try have GK := Lib.hid (GK.out.below bk)); (try have GO := Lib.hid (GO.out.below bk)); skip)
    | (go_at_call 122; (with_reducible refine (HC.out _ (‹Below V.heap.size V _ ∧ _›).1).mono ?_); rintro e wC ⟨⟨fC, LC, rfl, hC⟩, bk⟩; have GC := Lib.hid hC; clear hC; (try have GA := Lib.hid (GA.out.below bk)); (try have GB := Lib.hid (GB.out.below bk)); (try have GV := Lib.hid (GV.out.below bk)); (try have GM := Lib.hid (GM.out.below bk)); (try have GD := Lib.hid (GD.out.below bk)); (try have GK := Lib.hid (GK.out.below bk)); (try have GO := Lib.hid (GO.out.below bk)); skip))
  clear bk k0 k1 k2 k3 k4 r0 r1 r2 r3 r4 r5 r6 r7 hbd
  obtain ⟨hSC, k0, k1, k2, k3, k4, r0, r1, r2, r3, r4, r5, r6, r7⟩ := ‹Below V.heap.size V wC ∧ _›
  have hbd : Below V.heap.size V wC.drew := hSC.drew
  have GA := Lib.hid (GA.out.below (show Below wC.heap.size wC wC.drew from (Below.refl _ wC).drew))
  have GB := Lib.hid (GB.out.below (show Below wC.heap.size wC wC.drew from (Below.refl _ wC).drew))
  have GC := Lib.hid (GC.out.below (show Below wC.heap.size wC wC.drew from (Below.refl _ wC).drew))
  go_wp2_with fail
  go_region_held3 (fun w' => Below V.heap.size V w' ∧ w'.cell? ⟨b0, 0, none⟩ = some (.slice A1 n1 c1) ∧ w'.cell? ⟨b0, 1, none⟩ = some (.slice A2 n2 c2) ∧ w'.cell? ⟨b0, 2, none⟩ = some (.slice A3 n3 c3) ∧ w'.cell? ⟨b0, 3, none⟩ = some (.slice A4 n4 c4) ∧ w'.cell? ⟨b0, 4, none⟩ = some (.slice A5 n5 c5) ∧ w'.cell? ⟨b1, 0, none⟩ = some (.int .i64 op) ∧ w'.cell? ⟨b1, 1, none⟩ = some (.int .i64 a') ∧ w'.cell? ⟨b1, 2, none⟩ = some (.int .i64 b') ∧ w'.cell? ⟨b1, 3, none⟩ = some (.int .i64 c') ∧ w'.cell? ⟨b1, 4, none⟩ = some (.int .i64 obj) ∧ w'.cell? ⟨b1, 5, none⟩ = some (.int .i64 n) ∧ w'.cell? ⟨b1, 6, none⟩ = some (.int .i64 fn) ∧ w'.cell? ⟨b1, 7, none⟩ = some (.int .i64 ord))
    (first
      | with_reducible assumption
      | with_reducible exact HK.out _ hbd
      | exact HK.out _ (belowThen (‹Below V.heap.size V _ ∧ _›).1 bk))
    (first
    | (go_at_call 123; (with_reducible refine (HV.out _ (‹Below V.heap.size V _ ∧ _›).1).mono ?_); rintro e wV ⟨⟨fV, LV, rfl, hV⟩, bk⟩; have GV := Lib.hid hV; clear hV; (try have GA := Lib.hid (GA.out.below bk)); (try have GB := Lib.hid (GB.out.below bk)); (try have GC := Lib.hid (GC.out.below bk)); (try have GM := Lib.hid (GM.out.below bk)); (try have GD := Lib.hid (GD.out.below bk)); (try have GK := Lib.hid (GK.out.below bk)); (try have GO := Lib.hid (GO.out.below bk)); skip)
    | (go_at_call 124; (with_reducible refine (HM.out _ (‹Below V.heap.size V _ ∧ _›).1).mono ?_); rintro e wM ⟨⟨fM, LM, rfl, hM⟩, bk⟩; have GM := Lib.hid hM; clear hM; (try have GA := Lib.hid (GA.out.below bk)); (try have GB := Lib.hid (GB.out.below bk)); (try have GC := Lib.hid (GC.out.below bk)); (try have GV := Lib.hid (GV.out.below bk)); (try have GD := Lib.hid (GD.out.below bk)); (try have GK := Lib.hid (GK.out.below bk)); (try have GO := Lib.hid (GO.out.below bk)); skip)
    | (go_at_call 125; (with_reducible refine (HD.out _ (‹Below V.heap.size V _ ∧ _›).1).mono ?_); rintro e wD ⟨⟨fD, LD, rfl, hD⟩, bk⟩; have GD := Lib.hid hD; clear hD; (try have GA := Lib.hid (GA.out.below bk)); (try have GB := Lib.hid (GB.out.below bk)); (try have GC := Lib.hid (GC.out.below bk)); (try have GV := Lib.hid (GV.out.below bk)); (try have GM := Lib.hid (GM.out.below bk)); (try have GK := Lib.hid (GK.out.below bk)); (try have GO := Lib.hid (GO.out.below bk)); skip))
  clear bk k0 k1 k2 k3 k4 r0 r1 r2 r3 r4 r5 r6 r7 hbd
  obtain ⟨hSD, k0, k1, k2, k3, k4, r0, r1, r2, r3, r4, r5, r6, r7⟩ := ‹Below V.heap.size V wD ∧ _›
  have hbd : Below V.heap.size V wD.drew := hSD.drew
  have GA := Lib.hid (GA.out.below (show Below wD.heap.size wD wD.drew from (Below.refl _ wD).drew))
  have GB := Lib.hid (GB.out.below (show Below wD.heap.size wD wD.drew from (Below.refl _ wD).drew))
  have GC := Lib.hid (GC.out.below (show Below wD.heap.size wD wD.drew from (Below.refl _ wD).drew))
  have GV := Lib.hid (GV.out.below (show Below wD.heap.size wD wD.drew from (Below.refl _ wD).drew))
  have GM := Lib.hid (GM.out.below (show Below wD.heap.size wD wD.drew from (Below.refl _ wD).drew))
  have GD := Lib.hid (GD.out.below (show Below wD.heap.size wD wD.drew from (Below.refl _ wD).drew))
  go_wp2_with fail
  go_region_held3 (fun w' => Below V.heap.size V w' ∧ w'.cell? ⟨b0, 0, none⟩ = some (.slice A1 n1 c1) ∧ w'.cell? ⟨b0, 1, none⟩ = some (.slice A2 n2 c2) ∧ w'.cell? ⟨b0, 2, none⟩ = some (.slice A3 n3 c3) ∧ w'.cell? ⟨b0, 3, none⟩ = some (.slice A4 n4 c4) ∧ w'.cell? ⟨b0, 4, none⟩ = some (.slice A5 n5 c5) ∧ w'.cell? ⟨b1, 0, none⟩ = some (.int .i64 op) ∧ w'.cell? ⟨b1, 1, none⟩ = some (.int .i64 a') ∧ w'.cell? ⟨b1, 2, none⟩ = some (.int .i64 b') ∧ w'.cell? ⟨b1, 3, none⟩ = some (.int .i64 c') ∧ w'.cell? ⟨b1, 4, none⟩ = some (.int .i64 obj) ∧ w'.cell? ⟨b1, 5, none⟩ = some (.int .i64 n) ∧ w'.cell? ⟨b1, 6, none⟩ = some (.int .i64 fn) ∧ w'.cell? ⟨b1, 7, none⟩ = some (.int .i64 ord))
    (first
      | with_reducible assumption
      | with_reducible exact HK.out _ hbd
      | exact HK.out _ (belowThen (‹Below V.heap.size V _ ∧ _›).1 bk))
    (first
    | (go_at_call 126; (with_reducible refine (HCA.out _ (‹Below V.heap.size V _ ∧ _›).1).mono ?_); rintro e wK ⟨⟨fK, LK, rfl, hK⟩, bk⟩; have GK := Lib.hid hK; clear hK; (try have GA := Lib.hid (GA.out.below bk)); (try have GB := Lib.hid (GB.out.below bk)); (try have GC := Lib.hid (GC.out.below bk)); (try have GV := Lib.hid (GV.out.below bk)); (try have GM := Lib.hid (GM.out.below bk)); (try have GD := Lib.hid (GD.out.below bk)); (try have GO := Lib.hid (GO.out.below bk)); skip)
    | (go_at_call 127; (with_reducible refine (HOR.out _ (‹Below V.heap.size V _ ∧ _›).1).mono ?_); rintro e wO ⟨⟨fO, LO, rfl, hO⟩, bk⟩; have GO := Lib.hid hO; clear hO; (try have GA := Lib.hid (GA.out.below bk)); (try have GB := Lib.hid (GB.out.below bk)); (try have GC := Lib.hid (GC.out.below bk)); (try have GV := Lib.hid (GV.out.below bk)); (try have GM := Lib.hid (GM.out.below bk)); (try have GD := Lib.hid (GD.out.below bk)); (try have GK := Lib.hid (GK.out.below bk)); skip))
  clear bk k0 k1 k2 k3 k4 r0 r1 r2 r3 r4 r5 r6 r7 hbd
  obtain ⟨hSO, k0, k1, k2, k3, k4, r0, r1, r2, r3, r4, r5, r6, r7⟩ := ‹Below V.heap.size V wO ∧ _›
  have hbd : Below V.heap.size V wO.drew := hSO.drew
  have HSO := Lib.hid (belowThen HBB.out hSO)
  clear HA HB HC HV HM HD HCA HOR hSC hSD hbd
  obtain ⟨k, rfl⟩ : ∃ k : Nat, op = k := ⟨op.toNat, by omega⟩
  rcases (by omega : k = 1 ∨ k = 2 ∨ k = 3 ∨ k = 4 ∨ k = 5 ∨ k = 6 ∨ k = 7 ∨ k = 8 ∨ k = 9 ∨ k = 10 ∨ k = 11 ∨ k = 12 ∨ k = 13 ∨ k = 14 ∨ k = 15 ∨ k = 16 ∨ k = 17 ∨ k = 18 ∨ k = 19 ∨ k = 20 ∨ k = 21 ∨ k = 22) with rfl | rfl | rfl | rfl | rfl | rfl | rfl | rfl | rfl | rfl | rfl | rfl | rfl | rfl | rfl | rfl | rfl | rfl | rfl | rfl | rfl | rfl
  · go_wp2_with fail
    refine (HNU.out _ hSO).mono ?_
    rintro e wN ⟨⟨fN, LN, rfl, hN⟩, bN⟩
    have GN := Lib.hid hN
    have BN := Lib.hid bN
    clear hN bN
    have GA := Lib.hid (GA.out.below BN.out)
    go_wp2
    go_ret
    exact ⟨⟨_, _, _, rfl, wdL2 GA.out GN.out⟩, belowThen (belowThen HSO.out BN.out) (belowAlloc _ _)⟩
  · go_wp2
    go_ret
    exact ⟨⟨_, _, _, rfl, wdL2 GA.out GB.out⟩, belowThen HSO.out (belowAlloc _ _)⟩
  · go_wp2
    go_ret
    exact ⟨⟨_, _, _, rfl, wdL4 GK.out GA.out GB.out GC.out⟩, belowThen HSO.out (belowAlloc _ _)⟩
  · go_wp2_with fail
    refine (HTG.out _ hSO).mono ?_
    rintro e wN ⟨⟨fN, LN, rfl, hN⟩, bN⟩
    have GN := Lib.hid hN
    have BN := Lib.hid bN
    clear hN bN
    go_wp2
    go_ret
    exact ⟨⟨_, _, _, rfl, wdL1 GN.out⟩, belowThen (belowThen HSO.out BN.out) (belowAlloc _ _)⟩
  · go_wp2_with fail
    refine (HTG.out _ hSO).mono ?_
    rintro e wN ⟨⟨fN, LN, rfl, hN⟩, bN⟩
    have GN := Lib.hid hN
    have BN := Lib.hid bN
    clear hN bN
    have GB := Lib.hid (GB.out.below BN.out)
    go_wp2
    go_ret
    exact ⟨⟨_, _, _, rfl, wdL2 GB.out GN.out⟩, belowThen (belowThen HSO.out BN.out) (belowAlloc _ _)⟩
  · go_wp2
    go_ret
    exact ⟨⟨_, _, _, rfl, wdL1 GB.out⟩, belowThen HSO.out (belowAlloc _ _)⟩
  · go_wp2
    go_ret
    exact ⟨⟨_, _, _, rfl, wdL0 _⟩, HSO.out⟩
  · go_wp2
    go_ret
    exact ⟨⟨_, _, _, rfl, wdL3 GA.out GV.out GO.out⟩, belowThen HSO.out (belowAlloc _ _)⟩
  · go_wp2
    go_ret
    exact ⟨⟨_, _, _, rfl, wdL3 GV.out GB.out GO.out⟩, belowThen HSO.out (belowAlloc _ _)⟩
  · go_wp2
    go_ret
    exact ⟨⟨_, _, _, rfl, wdL4 GA.out GV.out GB.out GO.out⟩, belowThen HSO.out (belowAlloc _ _)⟩
  · go_wp2
    go_ret
    exact ⟨⟨_, _, _, rfl, wdL4 GA.out GV.out GB.out GO.out⟩, belowThen HSO.out (belowAlloc _ _)⟩
  · go_wp2
    go_ret
    exact ⟨⟨_, _, _, rfl, wdL5 GA.out GV.out GB.out GC.out GO.out⟩, belowThen HSO.out (belowAlloc _ _)⟩
  · go_wp2
    go_ret
    exact ⟨⟨_, _, _, rfl, wdL0 _⟩, HSO.out⟩
  · go_wp2
    go_ret
    exact ⟨⟨_, _, _, rfl, wdL5 GA.out GV.out GK.out GB.out GO.out⟩, belowThen HSO.out (belowAlloc _ _)⟩
  · go_wp2
    go_ret
    exact ⟨⟨_, _, _, rfl, wdL1 GM.out⟩, belowThen HSO.out (belowAlloc _ _)⟩
  · go_wp2
    go_ret
    exact ⟨⟨_, _, _, rfl, wdL1 GM.out⟩, belowThen HSO.out (belowAlloc _ _)⟩
  · go_wp2
    go_ret
    exact ⟨⟨_, _, _, rfl, wdL2 GA.out GM.out⟩, belowThen HSO.out (belowAlloc _ _)⟩
  · go_wp2_with fail
    refine (HQ.out _ hSO).mono ?_
    rintro e wN ⟨⟨fN, LN, rfl, hN⟩, bN⟩
    have GN := Lib.hid hN
    have BN := Lib.hid bN
    clear hN bN
    have GD := Lib.hid (GD.out.below BN.out)
    go_wp2
    go_ret
    exact ⟨⟨_, _, _, rfl, wdL2 GD.out GN.out⟩, belowThen (belowThen HSO.out BN.out) (belowAlloc _ _)⟩
  · go_wp2
    go_ret
    exact ⟨⟨_, _, _, rfl, wdL1 GD.out⟩, belowThen HSO.out (belowAlloc _ _)⟩
  · go_wp2
    go_ret
    exact ⟨⟨_, _, _, rfl, wdL1 GD.out⟩, belowThen HSO.out (belowAlloc _ _)⟩
  · go_wp2_with fail
    refine (HF.out _ hSO).mono ?_
    rintro e wN ⟨⟨fN, LN, rfl, hN⟩, bN⟩
    have GN := Lib.hid hN
    have BN := Lib.hid bN
    clear hN bN
    have GA := Lib.hid (GA.out.below BN.out)
    have GB := Lib.hid (GB.out.below BN.out)
    go_wp2
    go_ret
    exact ⟨⟨_, _, _, rfl, wdL3 GA.out GN.out GB.out⟩, belowThen (belowThen HSO.out BN.out) (belowAlloc _ _)⟩
  · go_wp2
    go_ret
    exact ⟨⟨_, _, _, rfl, wdL1 GB.out⟩, belowThen HSO.out (belowAlloc _ _)⟩
end Go.Proofs.YtnckpjcfgeajbaaGreatDoor
