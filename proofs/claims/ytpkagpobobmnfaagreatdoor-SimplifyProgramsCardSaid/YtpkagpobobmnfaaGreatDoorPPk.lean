/-
  The specification's lists: the names of the variables and of the functions.
-/
import Derived.Test.YtpkagpobobmnfaaGreatDoorPYz
import Derived.Test.YtpkagpobobmnfaaGreatDoorPPgX
import Derived.Test.YtpkagpobobmnfaaGreatDoorPMk
import Derived.Test.YtpkagpobobmnfaaGreatDoorPG3
import Derived.WalkSpells
import Derived.Test.YtpkagpobobmnfaaGreatDoorPOwn
import Derived.Laws.Strings
import Derived.BigQuiet
import Derived.Test.YtpkagpobobmnfaaGreatDoorPJo
import Derived.Test.YtpkagpobobmnfaaGreatDoorPIU
import Derived.ProofKit
import Derived.OpenShut
import Derived.ChangeMaps5
import Derived.Deep.SlicePairs
import Derived.Lib.SmallJoins
namespace Go.Proofs.YtpkagpobobmnfaaGreatDoor
open Go Go.RowKit

def Prg.few (p : Prg) : Bool := decide (p.vars.length ≤ 20) && decide (p.muts.length ≤ 20) && decide (p.conds.length ≤ 20) && decide (p.funcs.length ≤ 20) && decide (p.thr.length ≤ 20)
def Prg.short (p : Prg) : Bool := p.funcs.all fun f => decide (f.2.length ≤ 100)
def Prg.small (p : Prg) : Bool := p.few && p.short
end Go.Proofs.YtpkagpobobmnfaaGreatDoor

namespace Go.Proofs.YtpkagpobobmnfaaGreatDoor
open Go Go.RowKit

/-- Byte number k of s keeps it a name. -/
def okAtN (s : ByteArray) (k : Nat) : Prop := ∀ (hk : k < s.size), (k = 0 → letB s[k] = true) ∧ tailB s[k] = true
theorem okYes {s : ByteArray} (h1 : 1 ≤ s.size) (h2 : s.size ≤ 16) (h : ∀ k, k < s.size → okAtN s k) : true = nameB s :=
  (nameYes h1 h2 ((h 0 h1 h1).1 rfl) fun k hk => (h k hk hk).2).symm
theorem okNo {s : ByteArray} {k : Nat} (hk : k < s.size) (h : ¬ okAtN s k) : false = nameB s := by
  cases e : nameB s
  · rfl
  refine absurd (fun hk' => ⟨fun h0 => ?_, ?_⟩) h
  · subst h0
    cases e2 : letB s[0]
    · rw [nameNo2 hk e2] at e; cases e
    · rfl
  · cases e2 : tailB s[k]
    · rw [nameNoK hk e2] at e; cases e
    · rfl
theorem okNext {s : ByteArray} {k : Nat} (HA : ∀ j, j < k → okAtN s j) (h : okAtN s k) : ∀ j, j < k + 1 → okAtN s j := fun j hlt => by
  rcases Nat.lt_or_ge j k with h' | h'
  · exact HA j h'
  · have e : j = k := by omega
    subst e
    exact h
theorem okAtIs {s : ByteArray} {k : Nat} (hk : k < s.size) : okAtN s k ↔ (k = 0 → (97 ≤ s[k].toNat ∧ s[k].toNat ≤ 122) ∨ (65 ≤ s[k].toNat ∧ s[k].toNat ≤ 90)) ∧ ((97 ≤ s[k].toNat ∧ s[k].toNat ≤ 122) ∨ (65 ≤ s[k].toNat ∧ s[k].toNat ≤ 90) ∨ (48 ≤ s[k].toNat ∧ s[k].toNat ≤ 57) ∨ s[k].toNat = 95) := by
  have e : okAtN s k ↔ (k = 0 → letB s[k] = true) ∧ tailB s[k] = true := ⟨fun h => ⟨fun h0 => by subst h0; exact (h hk).1 rfl, (h hk).2⟩, fun h hk' => ⟨fun h0 => by have := h.1 h0; subst h0; exact this, h.2⟩⟩
  rw [e]
  unfold tailB letB digB
  simp only [Bool.or_eq_true, Bool.and_eq_true, decide_eq_true_eq]
  omega
set_option linter.unusedSimpArgs false in
set_option maxHeartbeats 4000000 in
theorem rValidName (s : ByteArray) (hs : s.size ≤ maxLen) (w : World) : Calls Tryz.prog 134 #[.string s] w fun e w' => e = .returned (.bool (nameB s)) ∧ w = w' := by
  unfold maxLen at hs
  by_cases h1 : s.size < 1
  · have HN := Lib.hid (nameNo1 (s := s) (.inl h1))
    go_enter Tryz.func134, Tryz.ntmps134
    go_wp2
    all_goals first
      | (exfalso; omega)
      | (go_ret; exact ⟨retBl HN.out.symm, rfl⟩)
  by_cases h2 : 16 < s.size
  · have HN := Lib.hid (nameNo1 (s := s) (.inr h2))
    go_enter Tryz.func134, Tryz.ntmps134
    go_wp2
    all_goals first
      | (exfalso; omega)
      | (go_ret; exact ⟨retBl HN.out.symm, rfl⟩)
  go_enter Tryz.func134, Tryz.ntmps134
  go_wp2
  all_goals (try (exfalso; omega))
  go_loop [3, 4, 5] (fun i _ _ => ∃ k : Nat, k ≤ s.size ∧ i = .int .i64 k ∧ Hid (∀ j, j < k → okAtN s j)) (fun i _ _ => s.size - (intOf i).toNat)
  case atStart => exact ⟨0, Nat.zero_le _, rfl, Lib.hid fun j h => by omega⟩
  case round =>
    obtain ⟨k, hk, rfl, HA⟩ := hrel
    by_cases hlt : k < s.size
    · have ho := okAtIs hlt
      have hm9 := (s[k]).toNat_lt
      by_cases hk0 : k = 0
      · subst hk0
        have HO : Hid (okAtN s 0 ↔ (97 ≤ s[0].toNat ∧ s[0].toNat ≤ 122) ∨ (65 ≤ s[0].toNat ∧ s[0].toNat ≤ 90)) := Lib.hid (by rw [ho]; simp only [true_implies]; omega)
        clear ho
        go_wp2
        all_goals (try simp only [beq_eq_false_iff_ne, bne_eq_false_iff_eq, ne_eq, beq_iff_eq, bne_iff_ne, Bool.not_eq_false', Bool.not_eq_true', decide_eq_true_eq, decide_eq_false_iff_not] at *)
        all_goals first
          | (exfalso; omega)
          | (go_ret; exact ⟨retBl (okNo hlt fun h => by have h := HO.out.1 h; omega), rfl⟩)
          | exact ⟨⟨0 + 1, by omega, by go_num, Lib.hid (okNext HA.out (HO.out.2 (by omega)))⟩, by simp [intOf]; omega⟩
      · have HO : Hid (okAtN s k ↔ (97 ≤ s[k].toNat ∧ s[k].toNat ≤ 122) ∨ (65 ≤ s[k].toNat ∧ s[k].toNat ≤ 90) ∨ (48 ≤ s[k].toNat ∧ s[k].toNat ≤ 57) ∨ s[k].toNat = 95) := Lib.hid (by rw [ho]; simp only [hk0, false_implies, true_and])
        clear ho
        go_wp2
        all_goals (try simp only [beq_eq_false_iff_ne, bne_eq_false_iff_eq, ne_eq, beq_iff_eq, bne_iff_ne, Bool.not_eq_false', Bool.not_eq_true', decide_eq_true_eq, decide_eq_false_iff_not] at *)
        all_goals first
          | (exfalso; omega)
          | (go_ret; exact ⟨retBl (okNo hlt fun h => by have h := HO.out.1 h; omega), rfl⟩)
          | exact ⟨⟨k + 1, by omega, by go_num, Lib.hid (okNext HA.out (HO.out.2 (by omega)))⟩, by simp [intOf]; omega⟩
    · have HX := Lib.hid (okYes (s := s) (by omega) (by omega) fun j hj => HA.out j (by omega))
      go_wp2
      go_ret
      exact ⟨retBl HX.out, rfl⟩
end Go.Proofs.YtpkagpobobmnfaaGreatDoor

namespace Go.Proofs.YtpkagpobobmnfaaGreatDoor
open Go Go.RowKit

def sEq (x s : ByteArray) : Bool := x.toList == s.toList
end Go.Proofs.YtpkagpobobmnfaaGreatDoor

namespace Go.Proofs.YtpkagpobobmnfaaGreatDoor
open Go Go.RowKit

def sv (l : List ByteArray) : List Value := l.map .string
theorem sEqIff (x s : ByteArray) : sEq x s = decide (x.data.toList = s.data.toList) := by
  unfold sEq
  rw [ByteArray.toList_eq, ByteArray.toList_eq, Bool.eq_iff_iff]
  simp
def nmR (e : Int × Int) : Int × Int := (if e.1 = 0 then 0 else e.2, e.1)
theorem inSNext {l : List ByteArray} {k j : Nat} (hj : j < l.length) {s : ByteArray} (h : inS s (l.take j) = false) (h2 : sEq l[j] s = false) (_ : k = k) : inS s (l.take (j + 1)) = false := by
  rw [List.take_succ_eq_append_getElem hj, inSApp, h, ← sEqIff, h2]
  rfl
theorem inSHit {l : List ByteArray} {k j : Nat} (hk : k ≤ l.length) (hj : j < k) {s : ByteArray} (h2 : sEq (l[j]'(by omega)) s = true) : inS s (l.take k) = true := by
  rw [sEqIff] at h2
  have := baExt (of_decide_eq_true h2)
  refine inSIff.2 (List.mem_take_iff_getElem.2 ⟨j, by omega, this⟩)
theorem svOne {w : World} {A : Option Addr} {c : Nat} {l : List ByteArray} (h : Rds w A c (sv l)) {k : Nat} (hk : k < l.length) : ∃ ad, A = some ad ∧ ad.block < w.heap.size ∧ w.cell? (ad.add k) = some (.string l[k]) := by
  obtain ⟨ad, e, h1, h2⟩ := Rds.one h (k := k) (by simpa [sv] using hk)
  exact ⟨ad, e, h1, by simpa [sv] using h2⟩
set_option maxHeartbeats 2000000 in
theorem rNamesP (l : List ByteArray) (n : Nat) (hn : l.length = n) (hl : ∀ s ∈ l, s.size ≤ maxLen) (A : Option Addr) (c : Nat) (w : World) (hr : Rds w A c (sv l)) :
    Calls Tryz.prog 84 #[.slice A n c] w fun e w' => e = .returned (.tuple #[.int .i64 (nmR (nmF [] l 0)).1, .int .i64 (nmR (nmF [] l 0)).2]) ∧ Below w.heap.size w w' := by
  obtain ⟨r, hrr⟩ : ∃ r, nmF [] l 0 = r := ⟨_, rfl⟩
  rw [hrr]
  have HR : Hid (nmF (l.take 0) (l.drop 0) 0 = r) := Lib.hid hrr
  have HC := Lib.hid (fun X (hX : Below w.heap.size w X) k (hk : k < l.length) => svOne (hr.below hX) hk)
  have HL := Lib.hid hl
  have HN := Lib.hid hn
  have hle := hr.le
  have hcm := hr.max
  have hsl : (sv l).length = n := by simpa [sv] using hn
  rw [hsl] at hle
  unfold maxLen at hcm
  have hb0 := Below.refl w.heap.size w
  clear hrr hl hn hr hsl
  go_enter Tryz.func84, Tryz.ntmps84
  go_wp2
  go_loopw [4] (fun i wr => ∃ k : Nat, k ≤ n ∧ i = .int .i64 k ∧ Below w.heap.size w wr ∧ Hid (nmF (l.take k) (l.drop k) k = r)) (fun i _ => n - (intOf i).toNat)
  case atStart => exact ⟨0, Nat.zero_le _, rfl, hb0, HR⟩
  case round =>
    obtain ⟨k, hk, rfl, hb, HE⟩ := hrel
    by_cases hlt : k < n
    · have hkl : k < l.length := by rw [HN.out]; exact hlt
      obtain ⟨ad, hA, _, hcell⟩ := HC.out wr hb k hkl
      subst hA
      have HV := Lib.hid (rValidName _ (HL.out _ (List.getElem_mem hkl)) wr)
      obtain ⟨s, hs⟩ : ∃ s, l[k] = s := ⟨_, rfl⟩
      have HS := Lib.hid hs
      have hk0 : (0 : Int) ≤ k := by omega
      have hk1 : (k : Int) < n := by omega
      cases h1 : nameB l[k]
      · have HX := Lib.hid ((nmFbad hkl h1).symm.trans HE.out)
        rw [h1] at HV
        rw [hs] at hcell HV
        clear h1 hs
        go_wp2_with (go_at_call 134; refine HV.out.mono ?_; rintro e w' ⟨rfl, rfl⟩)
        go_ret2
        exact ⟨by rw [← HX.out]; rfl, hb⟩
      · have H1 := Lib.hid h1
        rw [h1] at HV
        rw [hs] at hcell HV
        clear h1 hs
        go_wp2_with (go_at_call 134; refine HV.out.mono ?_; rintro e w' ⟨rfl, rfl⟩)
        go_loopw [5] (fun i wq => ∃ j : Nat, j ≤ k ∧ i = .int .i64 j ∧ Below w.heap.size w wq ∧ Hid (inS s (l.take j) = false)) (fun i _ => k - (intOf i).toNat)
        case atStart => exact ⟨0, Nat.zero_le _, rfl, hb, Lib.hid rfl⟩
        case round =>
          obtain ⟨j, hj, rfl, hbq, HI⟩ := hrel
          by_cases hjk : j < k
          · have hjl : j < l.length := by omega
            obtain ⟨ad1, hA1, _, hcj⟩ := HC.out wr hbq j hjl
            obtain ⟨ad2, hA2, _, hck⟩ := HC.out wr hbq k hkl
            injection hA1 with hA1
            injection hA2 with hA2
            subst hA1
            subst hA2
            rw [HS.out] at hck
            have hj0 : (0 : Int) ≤ j := by omega
            have hj1 : (j : Int) < n := by omega
            have HN2 := Lib.hid (fun nq => belowDrewN hbq nq)
            cases he : sEq l[j] s
            · have HX := Lib.hid (inSNext (k := k) hjl HI.out he rfl)
              generalize l[j] = t at hcj he
              unfold sEq at he
              go_wp2_with fail
              go_quiet (fail)
              go_wp2
              go_roundw
              case rel => exact ⟨j + 1, by omega, by go_num, HN2.out _, HX⟩
              case measure => simp [intOf]; omega
            · have HX := Lib.hid ((nmFtwice hkl H1.out (inSHit (s := l[k]) (Nat.le_of_lt hkl) hjk (by rw [HS.out]; exact he))).symm.trans HE.out)
              generalize l[j] = t at hcj he
              unfold sEq at he
              go_wp2_with fail
              go_quiet (fail)
              go_wp2
              go_ret2
              exact ⟨by rw [← HX.out]; rfl, HN2.out _⟩
          · have hjk2 : j = k := by omega
            subst hjk2
            have HX := Lib.hid ((nmFgo hkl H1.out (by rw [HS.out]; exact HI.out)).symm.trans HE.out)
            go_wp2
            go_roundw
            case rel => exact ⟨j + 1, by omega, by go_num, hbq, HX⟩
            case measure => simp [intOf]; omega
    · have HX := Lib.hid ((nmFend (l := l) (k := k) (by rw [HN.out]; omega) (l.take k)).symm.trans HE.out)
      go_wp2
      go_ret2
      exact ⟨by rw [← HX.out]; rfl, hb⟩
end Go.Proofs.YtpkagpobobmnfaaGreatDoor

namespace Go.Proofs.YtpkagpobobmnfaaGreatDoor
open Go Go.RowKit

theorem infoStr : (Tryz.prog.info? 9).map (fun i => (i.zero, i.size, i.bytes)) = some (some (.string ⟨#[]⟩), 1, 16) := by kernel_rfl
def OwnT (w : World) (base : Nat) (v : Value) (l : List ByteArray) : Prop := w.ownsRow base 9 1 v l.length (sv l)
theorem OwnT.alloc {w : World} {base : Nat} {v : Value} {l : List ByteArray} (h : OwnT w base v l) (o : Obj) : OwnT (w.alloc o) base v l := World.ownsRow.alloc h o
theorem OwnT.nil (w : World) (base : Nat) : OwnT w base (.slice none 0 0) [] := World.ownsRow_nil _ _ _ _
theorem svLen (l : List ByteArray) : (sv l).length = l.length := by simp [sv]
theorem OwnT.rd {w : World} {base : Nat} {v : Value} {l : List ByteArray} (h : OwnT w base v l) : ∃ A c, v = .slice A l.length c ∧ Rds w A c (sv l) := by
  obtain ⟨A, c, hv, _, hr, _⟩ := Rds.ofOwn h
  exact ⟨A, c, by rw [hv, svLen], hr⟩
theorem svOneCell (l : List ByteArray) : ∀ u ∈ sv l, u.oneCell' = true := fun u hu => by
  obtain ⟨s, _, rfl⟩ := List.mem_map.1 hu
  rfl
/-- append of strings onto a row of the call's own. -/
theorem appT (w : World) {ops : Array Oper} {rest : List Oper} {o : Oper} {a : Act} {Q : Exit → Act → World → Prop} (hgd : o.guard = none) (s x : Operand)
    (ho : o.op = .call { callee := .builtin .append, args := #[s, x], argTypes := #[39, 39] })
    (base : Nat) (v : Value) (l : List ByteArray) (hs : a.eval s = v) (hown : OwnT w base v l)
    (A : Option Addr) (m c : Nat) (news : List ByteArray) (hx : a.eval x = .slice A m c) (hm : m = news.length) (hr : Rds w A c (sv news))
    (hb : l.length + news.length ≤ 1000000) (hbase : base ≤ w.heap.size)
    (h : ∀ v' w', OwnT w' base v' (l ++ news) → Below base w w' → wpList Tryz.prog ops Q rest (a.put o.dst v') w') :
    wpList Tryz.prog ops Q (o :: rest) a w := by
  obtain ⟨i0, hi, hz0, hz1, hz2⟩ := info_parts infoStr
  refine wpList_app w hgd s x 39 ho base 9 i0 _ 16 Tryz.underlying39 hi hz0 hz1 hz2 rfl v l.length (sv l) hs hown A m c (sv news) hx (by rw [svLen]; omega) hr (svOneCell _) (by omega) (by unfold maxLen; omega) hbase fun v' w' h1 h2 h3 _ => h v' w' ?_ ?_
  · unfold OwnT sv
    rw [List.length_append, List.map_append, ← hm]
    exact h1
  · exact (Below.refl base w).grown h3 hbase fun k hk => (World.ownsRow.lt hown k hk).1
theorem svLit (w : World) (s : ByteArray) : Rds (w.alloc (.cells #[.string s] 9)) (some ⟨w.heap.size, 0, none⟩) 1 (sv [s]) := Rds.lit w (sv [s]) 9 (by simp [sv, maxLen])
theorem mapTake {α : Type} (l : List (ByteArray × α)) {k : Nat} (hk : k < l.length) : (l.map (·.1)).take k ++ [l[k].1] = (l.map (·.1)).take (k + 1) := by
  rw [List.take_succ_eq_append_getElem (by simpa using hk), List.getElem_map]
/-- Two new lists of strings. -/
def GivesLL (l m : List ByteArray) (w : World) (e : Ending) (w' : World) : Prop := ∃ A c B d, e = .returned (.tuple #[.slice A l.length c, .slice B m.length d]) ∧ Rds w' A c (sv l) ∧ Rds w' B d (sv m) ∧ Below w.heap.size w w'
set_option maxHeartbeats 4000000 in
theorem rLists {a : PgA} {p : Prg} (w : World) (hP : PgW w a p) (hs1 : a.n1 ≤ 20) (hs4 : a.n4 ≤ 20) : Calls Tryz.prog 83 #[a.val] w (GivesLL (p.vars.map (·.1)) (p.funcs.map (·.1)) w) := by
  obtain ⟨W, hWE⟩ : ∃ W, w.alloc (.cells a.fs 43) = W := ⟨_, rfl⟩
  have hbW : Below w.heap.size w W := by rw [← hWE]; exact belowAlloc w _
  have hB : PBox W w.heap.size a := by rw [← hWE]; exact Blk.new w _ _
  have HK := Lib.hid (fun Y (hY : Below W.heap.size W Y) => (hB.below hY).facts)
  have HP := Lib.hid (fun Y (hY : Below W.heap.size W Y) => (hP.below hbW).below hY)
  have HV := Lib.hid (fun Y (hY : Below W.heap.size W Y) k (hk : k < p.vars.length) => (HP.out Y hY).vars.one hk)
  have HF := Lib.hid (fun Y (hY : Below W.heap.size W Y) k (hk : k < p.funcs.length) => (HP.out Y hY).funcs.one hk)
  have HL1 := Lib.hid hP.l1
  have HL4 := Lib.hid hP.l4
  have e1 := hP.vars.le
  have e4 := hP.funcs.le
  have m1 := hP.vars.max
  have m4 := hP.funcs.max
  rw [hP.l1] at e1
  rw [hP.l4] at e4
  unfold maxLen at m1 m4
  have HW := Lib.hid hWE
  have HBW := Lib.hid hbW
  obtain ⟨lv, hlv⟩ : ∃ l, p.vars.map (·.1) = l := ⟨_, rfl⟩
  obtain ⟨lf, hlf⟩ : ∃ l, p.funcs.map (·.1) = l := ⟨_, rfl⟩
  rw [hlv, hlf]
  have HLV := Lib.hid hlv
  have HLF := Lib.hid hlf
  obtain ⟨A1, n1, c1, A2, n2, c2, A3, n3, c3, A4, n4, c4, A5, n5, c5⟩ := a
  simp only [PgA.val, PgA.fs] at *
  have HN1 : Hid (lv.length = n1) := Lib.hid (by rw [← hlv]; simpa using HL1.out)
  have HN4 : Hid (lf.length = n4) := Lib.hid (by rw [← hlf]; simpa using HL4.out)
  have hO := Lib.hid (OwnT.nil W W.heap.size)
  have hb0 := Below.refl W.heap.size W
  clear hP hB hbW hWE hlv hlf
  go_enter Tryz.func83, Tryz.ntmps83
  go_wp2
  rw [HW.out]
  go_loopw [4, 6] (fun vo i wr => ∃ k : Nat, k ≤ n1 ∧ i = .int .i64 k ∧ OwnT wr W.heap.size vo (lv.take k) ∧ Below W.heap.size W wr) (fun _ i _ => n1 - (intOf i).toNat)
  case atStart => exact ⟨0, Nat.zero_le _, rfl, hO.out, hb0⟩
  case round =>
    obtain ⟨k, hk, rfl, os, hb⟩ := hrel
    obtain ⟨g0, _, _, g3, _⟩ := HK.out wr hb
    by_cases hlt : k < n1
    · have hkl : k < p.vars.length := by rw [HL1.out]; exact hlt
      obtain ⟨q, off, hA, _, h1, _⟩ := HV.out wr hb k hkl
      have hA : A1 = _ := hA
      subst hA
      have HX := mapTake p.vars hkl
      rw [HLV.out] at HX
      generalize (p.vars[k]).1 = s at h1 HX
      have HX := Lib.hid HX
      have hk0 : (0 : Int) ≤ k := by omega
      have hk1 : (k : Int) < n1 := by omega
      have htk : (lv.take k).length ≤ 20 := by rw [List.length_take]; omega
      go_wp2_with (at_builtin; refine appT _ rfl (.tmp 15) (.tmp 22) rfl W.heap.size _ _ rfl (os.alloc _) (some ⟨wr.heap.size, 0, none⟩) 1 1 [s] rfl rfl (svLit wr s) (by simp; omega) (by have := hb.size; simp; omega) ?_; intro v2 w2 o2 b2; have B2 := stepA hb b2; rw [HX.out] at o2)
      go_roundw
      case rel => exact ⟨k + 1, by omega, by go_num, o2, B2⟩
      case measure => simp [intOf]; omega
    · have hke : k = n1 := by omega
      subst hke
      obtain ⟨B, d, rfl, hrd⟩ := os.rd
      have hll : (lv.take k).length = k := by rw [List.length_take, HN1.out]; omega
      have hta : lv.take k = lv := List.take_of_length_le (by rw [HN1.out]; omega)
      rw [hta] at hrd
      rw [hll]
      have HRD := Lib.hid hrd
      have hO2 := Lib.hid (OwnT.nil wr wr.heap.size)
      have hb1 := Below.refl wr.heap.size wr
      have HB := Lib.hid hb
      clear os hll hta hrd hb
      obtain ⟨W1, rfl⟩ : ∃ X, X = wr := ⟨_, rfl⟩
      go_wp2
      go_loopw [5, 7] (fun vo i wr => ∃ j : Nat, j ≤ n4 ∧ i = .int .i64 j ∧ OwnT wr W1.heap.size vo (lf.take j) ∧ Below W1.heap.size W1 wr) (fun _ i _ => n4 - (intOf i).toNat)
      case atStart => exact ⟨0, Nat.zero_le _, rfl, hO2.out, hb1⟩
      case round =>
        obtain ⟨j, hj, rfl, os, hb⟩ := hrel
        obtain ⟨_, _, _, g3, _⟩ := HK.out wr (belowThen HB.out hb)
        by_cases hlt : j < n4
        · have hjl : j < p.funcs.length := by rw [HL4.out]; exact hlt
          obtain ⟨q, off, hA, _, h1, _⟩ := HF.out wr (belowThen HB.out hb) j hjl
          have hA : A4 = _ := hA
          subst hA
          have HX := mapTake p.funcs hjl
          rw [HLF.out] at HX
          generalize (p.funcs[j]).1 = s at h1 HX
          have HX := Lib.hid HX
          have hj0 : (0 : Int) ≤ j := by omega
          have hj1 : (j : Int) < n4 := by omega
          have htk : (lf.take j).length ≤ 20 := by rw [List.length_take]; omega
          go_wp2_with (at_builtin; refine appT _ rfl (.tmp 31) (.tmp 38) rfl W1.heap.size _ _ rfl (os.alloc _) (some ⟨wr.heap.size, 0, none⟩) 1 1 [s] rfl rfl (svLit wr s) (by simp; omega) (by have := hb.size; simp; omega) ?_; intro v2 w2 o2 b2; have B2 := stepA hb b2; rw [HX.out] at o2)
          go_roundw
          case rel => exact ⟨j + 1, by omega, by go_num, o2, B2⟩
          case measure => simp [intOf]; omega
        · have hje : j = n4 := by omega
          subst hje
          obtain ⟨B2, d2, rfl, hrd2⟩ := os.rd
          have hll : (lf.take j).length = j := by rw [List.length_take, HN4.out]; omega
          have hta : lf.take j = lf := List.take_of_length_le (by rw [HN4.out]; omega)
          rw [hta] at hrd2
          rw [hll]
          have HRD2 := Lib.hid hrd2
          have HBB := Lib.hid hb
          clear os hll hta hrd2 hb
          go_wp2
          go_ret2
          exact ⟨B, d, B2, d2, by rw [HN1.out, HN4.out]; rfl, HRD.out.below HBB.out, HRD2.out, belowThen HBW.out (belowThen HB.out HBB.out)⟩
end Go.Proofs.YtpkagpobobmnfaaGreatDoor

namespace Go.Proofs.YtpkagpobobmnfaaGreatDoor
open Go Go.RowKit

theorem rValue (n : Int) (w : World) : Calls Tryz.prog 85 #[.int .i64 n] w fun e w' => e = .returned (.bool (isVal n)) ∧ w = w' := by
  have HL : Hid (isVal n = (decide (-2147483648 ≤ n) && decide (n ≤ 2147483647))) := Lib.hid rfl
  go_enter Tryz.func85, Tryz.ntmps85
  go_wp2
  all_goals go_ret
  all_goals exact ⟨retBl (by rw [HL.out, Bool.eq_iff_iff]; (try simp); omega), rfl⟩
set_option maxHeartbeats 2000000 in
theorem rThreads {a : PgA} {p : Prg} (w : World) (hP : PgW w a p) : Calls Tryz.prog 87 #[a.val] w fun e w' => e = .returned (.int .i64 p.thE) ∧ Below w.heap.size w w' := by
  obtain ⟨r, hr⟩ : ∃ r, p.thE = r := ⟨_, rfl⟩
  rw [hr]
  have HT := Lib.hid (fun X (hX : Below w.heap.size w X) k (hk : k < p.thr.length) => (hP.below hX).thr.one hk)
  have HL := Lib.hid hP.l5
  have HL4 := Lib.hid hP.l4
  have hm := hP.thr.max
  have hle := hP.thr.le
  have hm4 := hP.funcs.max
  have hle4 := hP.funcs.le
  rw [hP.l5] at hle
  rw [hP.l4] at hle4
  unfold maxLen at hm hm4
  have HR := Lib.hid hr
  obtain ⟨A1, n1, c1, A2, n2, c2, A3, n3, c3, A4, n4, c4, A5, n5, c5⟩ := a
  simp only [PgA.val, PgA.fs] at *
  have hb0 := belowAlloc w (.cells #[.slice A1 n1 c1, .slice A2 n2 c2, .slice A3 n3 c3, .slice A4 n4 c4, .slice A5 n5 c5] 43)
  clear hr hP
  by_cases h1 : n5 < 1
  · have HX := Lib.hid (show 4 = r by rw [← HR.out]; unfold Prg.thE; rw [if_pos (.inl (by rw [HL.out]; exact h1))])
    go_enter Tryz.func87, Tryz.ntmps87
    go_wp2
    all_goals first
      | (exfalso; omega)
      | (go_ret; exact ⟨retIO HX.out, hb0⟩)
  by_cases h2 : 8 < n5
  · have HX := Lib.hid (show 4 = r by rw [← HR.out]; unfold Prg.thE; rw [if_pos (.inr (by rw [HL.out]; exact h2))])
    go_enter Tryz.func87, Tryz.ntmps87
    go_wp2
    all_goals first
      | (exfalso; omega)
      | (go_ret; exact ⟨retIO HX.out, hb0⟩)
  have HR := Lib.hid (show p.thF (p.thr.drop 0) = r by rw [← HR.out]; unfold Prg.thE; rw [if_neg (by rw [HL.out]; show ¬ (n5 < 1 ∨ 8 < n5); omega), List.drop_zero])
  go_enter Tryz.func87, Tryz.ntmps87
  go_wp2
  all_goals (try (exfalso; omega))
  go_loopw [3] (fun i wr => ∃ k : Nat, k ≤ n5 ∧ i = .int .i64 k ∧ Below w.heap.size w wr ∧ Hid (p.thF (p.thr.drop k) = r) ∧ wr.cell? ⟨w.heap.size, 3, none⟩ = some (.slice A4 n4 c4) ∧ wr.cell? ⟨w.heap.size, 4, none⟩ = some (.slice A5 n5 c5)) (fun i _ => n5 - (intOf i).toNat)
  case atStart => exact ⟨0, Nat.zero_le _, rfl, hb0, HR, (Blk.new w _ _).cell 3, (Blk.new w _ _).cell 4⟩
  case round =>
    obtain ⟨k, hk, rfl, hb, HA, g3, g4⟩ := hrel
    by_cases hlt : k < n5
    · have hkl : k < p.thr.length := by rw [HL.out]; exact hlt
      obtain ⟨q, off, hA, _, h1, h2⟩ := HT.out wr hb k hkl
      have hA : A5 = _ := hA
      subst hA
      obtain ⟨s, hs⟩ : ∃ s, p.thr[k].1 = s := ⟨_, rfl⟩
      obtain ⟨z, hz⟩ : ∃ s, p.thr[k].2 = s := ⟨_, rfl⟩
      rw [hs] at h1
      rw [hz] at h2
      have HZ := Lib.hid hz
      have HS := Lib.hid hs
      have hk0 : (0 : Int) ≤ k := by omega
      have hk1 : (k : Int) < n5 := by omega
      have HV := Lib.hid (fun X => rValue z X)
      have HBB := Lib.hid (show ∀ b, (decide (0 ≤ s) && decide (s < (n4 : Int))) = b → belB p.thr[k].1 p.funcs.length = b from fun b e => by rw [HS.out, HL4.out]; exact e)
      have HN := Lib.hid (fun nq => belowDrewN hb nq)
      clear hs hz
      by_cases hs0 : s < 0
      · have d0 : decide (s < 0) = true := by simpa using hs0
        have HX := Lib.hid (Eq.trans (thFobj hkl (HBB.out false (by rw [decide_eq_false (by omega)]; rfl))).symm HA.out)
        clear hs0
        go_wp2_with fail
        go_quiet (fail)
        go_wp2
        go_ret
        exact ⟨retIO HX.out, HN.out _⟩
      have d0 : decide (s < 0) = false := by simpa using hs0
      by_cases hs1 : (n4 : Int) ≤ s
      · have d1 : decide ((n4 : Int) ≤ s) = true := by simpa using hs1
        have HX := Lib.hid (Eq.trans (thFobj hkl (HBB.out false (by rw [decide_eq_false (show ¬ s < (n4 : Int) by omega), Bool.and_false]))).symm HA.out)
        clear hs0 hs1
        go_wp2_with fail
        go_quiet (fail)
        go_wp2
        go_ret
        exact ⟨retIO HX.out, HN.out _⟩
      have d1 : decide ((n4 : Int) ≤ s) = false := by simpa using hs1
      have hbel := HBB.out true (by rw [decide_eq_true (show 0 ≤ s by omega), decide_eq_true (show s < (n4 : Int) by omega)]; rfl)
      clear hs0 hs1
      cases hv : isVal z
      · have HX := Lib.hid (Eq.trans (thFval hkl hbel (by rw [HZ.out]; exact hv)).symm HA.out)
        rw [hv] at HV
        clear hv hbel
        go_wp2_with fail
        go_quiet (fail)
        go_wp2_with (go_at_call 85; refine (HV.out _).mono ?_; rintro e w' ⟨rfl, rfl⟩)
        go_ret
        exact ⟨retIO HX.out, HN.out _⟩
      · have HX := Lib.hid ((thFgo hkl hbel (by rw [HZ.out]; exact hv)).symm.trans HA.out)
        rw [hv] at HV
        clear hv hbel
        go_wp2_with fail
        go_quiet (fail)
        go_wp2_with (go_at_call 85; refine (HV.out _).mono ?_; rintro e w' ⟨rfl, rfl⟩)
        go_roundw
        case rel => exact ⟨k + 1, by omega, by go_num, HN.out _, HX, g3, g4⟩
        case measure => simp [intOf]; omega
    · have HX := Lib.hid (Eq.trans (thFend (by rw [HL.out]; show n5 ≤ k; omega)).symm HA.out)
      go_wp2
      go_ret
      exact ⟨retIO HX.out, hb⟩
end Go.Proofs.YtpkagpobobmnfaaGreatDoor

namespace Go.Proofs.YtpkagpobobmnfaaGreatDoor
open Go Go.RowKit

def exB (n1 n2 n3 n4 : Nat) (i : I8) : Bool := if i.op = 18 ∧ belB i.n n2 = false then false else match objL n1 n2 n3 n4 i.op with | some c => belB i.obj c | none => true
set_option maxHeartbeats 4000000 in
theorem rExists (a : PgA) (i : I8) (w : World) (g1 : a.n1 ≤ maxLen) (g2 : a.n2 ≤ maxLen) (g3 : a.n3 ≤ maxLen) (g4 : a.n4 ≤ maxLen) : Calls Tryz.prog 135 #[a.val, i.val] w fun e w' => e = .returned (.bool (exB a.n1 a.n2 a.n3 a.n4 i)) ∧ Below w.heap.size w w' := by
  obtain ⟨A1, n1, c1, A2, n2, c2, A3, n3, c3, A4, n4, c4, A5, n5, c5⟩ := a
  obtain ⟨op, ra, rb, rc, obj, n, fn, ord⟩ := i
  simp only [PgA.val, PgA.fs, I8.val] at *
  unfold maxLen at g1 g2 g3 g4
  have hbw : Below w.heap.size w ((w.alloc (.cells #[.slice A1 n1 c1, .slice A2 n2 c2, .slice A3 n3 c3, .slice A4 n4 c4, .slice A5 n5 c5] 43)).alloc (.cells #[.int .i64 op, .int .i64 ra, .int .i64 rb, .int .i64 rc, .int .i64 obj, .int .i64 n, .int .i64 fn, .int .i64 ord] 55)) := (belowAlloc w _).alloc (by simp) _
  by_cases h8 : op = 8
  · subst h8
    have HL : Hid (exB n1 n2 n3 n4 ⟨8, ra, rb, rc, obj, n, fn, ord⟩ = (decide (0 ≤ obj) && decide (obj < (n1 : Int)))) := Lib.hid rfl
    go_enter Tryz.func135, Tryz.ntmps135
    go_wp2
    all_goals go_ret
    all_goals exact ⟨retBl (by rw [HL.out, Bool.eq_iff_iff]; (try simp); omega), hbw⟩
  by_cases h9 : op = 9
  · subst h9
    have HL : Hid (exB n1 n2 n3 n4 ⟨9, ra, rb, rc, obj, n, fn, ord⟩ = (decide (0 ≤ obj) && decide (obj < (n1 : Int)))) := Lib.hid rfl
    go_enter Tryz.func135, Tryz.ntmps135
    go_wp2
    all_goals go_ret
    all_goals exact ⟨retBl (by rw [HL.out, Bool.eq_iff_iff]; (try simp); omega), hbw⟩
  by_cases h10 : op = 10
  · subst h10
    have HL : Hid (exB n1 n2 n3 n4 ⟨10, ra, rb, rc, obj, n, fn, ord⟩ = (decide (0 ≤ obj) && decide (obj < (n1 : Int)))) := Lib.hid rfl
    go_enter Tryz.func135, Tryz.ntmps135
    go_wp2
    all_goals go_ret
    all_goals exact ⟨retBl (by rw [HL.out, Bool.eq_iff_iff]; (try simp); omega), hbw⟩
  by_cases h11 : op = 11
  · subst h11
    have HL : Hid (exB n1 n2 n3 n4 ⟨11, ra, rb, rc, obj, n, fn, ord⟩ = (decide (0 ≤ obj) && decide (obj < (n1 : Int)))) := Lib.hid rfl
    go_enter Tryz.func135, Tryz.ntmps135
    go_wp2
    all_goals go_ret
    all_goals exact ⟨retBl (by rw [HL.out, Bool.eq_iff_iff]; (try simp); omega), hbw⟩
  by_cases h12 : op = 12
  · subst h12
    have HL : Hid (exB n1 n2 n3 n4 ⟨12, ra, rb, rc, obj, n, fn, ord⟩ = (decide (0 ≤ obj) && decide (obj < (n1 : Int)))) := Lib.hid rfl
    go_enter Tryz.func135, Tryz.ntmps135
    go_wp2
    all_goals go_ret
    all_goals exact ⟨retBl (by rw [HL.out, Bool.eq_iff_iff]; (try simp); omega), hbw⟩
  by_cases h14 : op = 14
  · subst h14
    have HL : Hid (exB n1 n2 n3 n4 ⟨14, ra, rb, rc, obj, n, fn, ord⟩ = (decide (0 ≤ obj) && decide (obj < (n1 : Int)))) := Lib.hid rfl
    go_enter Tryz.func135, Tryz.ntmps135
    go_wp2
    all_goals go_ret
    all_goals exact ⟨retBl (by rw [HL.out, Bool.eq_iff_iff]; (try simp); omega), hbw⟩
  by_cases h15 : op = 15
  · subst h15
    have HL : Hid (exB n1 n2 n3 n4 ⟨15, ra, rb, rc, obj, n, fn, ord⟩ = (decide (0 ≤ obj) && decide (obj < (n2 : Int)))) := Lib.hid rfl
    go_enter Tryz.func135, Tryz.ntmps135
    go_wp2
    all_goals go_ret
    all_goals exact ⟨retBl (by rw [HL.out, Bool.eq_iff_iff]; (try simp); omega), hbw⟩
  by_cases h16 : op = 16
  · subst h16
    have HL : Hid (exB n1 n2 n3 n4 ⟨16, ra, rb, rc, obj, n, fn, ord⟩ = (decide (0 ≤ obj) && decide (obj < (n2 : Int)))) := Lib.hid rfl
    go_enter Tryz.func135, Tryz.ntmps135
    go_wp2
    all_goals go_ret
    all_goals exact ⟨retBl (by rw [HL.out, Bool.eq_iff_iff]; (try simp); omega), hbw⟩
  by_cases h17 : op = 17
  · subst h17
    have HL : Hid (exB n1 n2 n3 n4 ⟨17, ra, rb, rc, obj, n, fn, ord⟩ = (decide (0 ≤ obj) && decide (obj < (n2 : Int)))) := Lib.hid rfl
    go_enter Tryz.func135, Tryz.ntmps135
    go_wp2
    all_goals go_ret
    all_goals exact ⟨retBl (by rw [HL.out, Bool.eq_iff_iff]; (try simp); omega), hbw⟩
  by_cases h19 : op = 19
  · subst h19
    have HL : Hid (exB n1 n2 n3 n4 ⟨19, ra, rb, rc, obj, n, fn, ord⟩ = (decide (0 ≤ obj) && decide (obj < (n3 : Int)))) := Lib.hid rfl
    go_enter Tryz.func135, Tryz.ntmps135
    go_wp2
    all_goals go_ret
    all_goals exact ⟨retBl (by rw [HL.out, Bool.eq_iff_iff]; (try simp); omega), hbw⟩
  by_cases h20 : op = 20
  · subst h20
    have HL : Hid (exB n1 n2 n3 n4 ⟨20, ra, rb, rc, obj, n, fn, ord⟩ = (decide (0 ≤ obj) && decide (obj < (n3 : Int)))) := Lib.hid rfl
    go_enter Tryz.func135, Tryz.ntmps135
    go_wp2
    all_goals go_ret
    all_goals exact ⟨retBl (by rw [HL.out, Bool.eq_iff_iff]; (try simp); omega), hbw⟩
  by_cases h21 : op = 21
  · subst h21
    have HL : Hid (exB n1 n2 n3 n4 ⟨21, ra, rb, rc, obj, n, fn, ord⟩ = (decide (0 ≤ obj) && decide (obj < (n4 : Int)))) := Lib.hid rfl
    go_enter Tryz.func135, Tryz.ntmps135
    go_wp2
    all_goals go_ret
    all_goals exact ⟨retBl (by rw [HL.out, Bool.eq_iff_iff]; (try simp); omega), hbw⟩
  by_cases h18 : op = 18
  · subst h18
    have HL : Hid (exB n1 n2 n3 n4 ⟨18, ra, rb, rc, obj, n, fn, ord⟩ = ((decide (0 ≤ n) && decide (n < (n2 : Int))) && (decide (0 ≤ obj) && decide (obj < (n3 : Int))))) := Lib.hid (by unfold exB; cases h : belB n n2 <;> (unfold belB at h; rw [h]) <;> rfl)
    go_enter Tryz.func135, Tryz.ntmps135
    go_wp2
    all_goals go_ret
    all_goals exact ⟨retBl (by rw [HL.out, Bool.eq_iff_iff]; (try simp); omega), hbw⟩
  have HR : Hid (exB n1 n2 n3 n4 ⟨op, ra, rb, rc, obj, n, fn, ord⟩ = true) := Lib.hid (by unfold exB objL; simp [h8, h9, h10, h11, h12, h14, h15, h16, h17, h18, h19, h20, h21])
  have z8 : (op == 8) = false := by simpa using h8
  have z9 : (op == 9) = false := by simpa using h9
  have z10 : (op == 10) = false := by simpa using h10
  have z11 : (op == 11) = false := by simpa using h11
  have z12 : (op == 12) = false := by simpa using h12
  have z14 : (op == 14) = false := by simpa using h14
  have z15 : (op == 15) = false := by simpa using h15
  have z16 : (op == 16) = false := by simpa using h16
  have z17 : (op == 17) = false := by simpa using h17
  have z18 : (op == 18) = false := by simpa using h18
  have z19 : (op == 19) = false := by simpa using h19
  have z20 : (op == 20) = false := by simpa using h20
  have z21 : (op == 21) = false := by simpa using h21
  clear h8 h9 h10 h11 h12 h14 h15 h16 h17 h18 h19 h20 h21
  go_enter Tryz.func135, Tryz.ntmps135
  go_wp2
  go_ret
  exact ⟨retBl HR.out.symm, hbw⟩
end Go.Proofs.YtpkagpobobmnfaaGreatDoor

namespace Go.Proofs.YtpkagpobobmnfaaGreatDoor
open Go Go.RowKit

theorem cdHit {p : Prg} {len : Nat} {l : List I8} {k : Nat} (hk : k < l.length) (h : p.insE len l[k] ≠ 0) : p.cdF len (l.drop k) k = (p.insE len l[k], (k : Int)) := by
  rw [List.drop_eq_getElem_cons hk, Prg.cdF, if_pos h]
theorem cdMiss {p : Prg} {len : Nat} {l : List I8} {k : Nat} (hk : k < l.length) (h : p.insE len l[k] = 0) : p.cdF len (l.drop k) k = p.cdF len (l.drop (k + 1)) (k + 1) := by
  rw [List.drop_eq_getElem_cons hk, Prg.cdF, if_neg (by rw [h]; simp)]
theorem cdEnd {p : Prg} {len : Nat} {l : List I8} {k : Nat} (hk : l.length ≤ k) : p.cdF len (l.drop k) k = (0, -1) := by
  rw [List.drop_eq_nil_of_le hk, Prg.cdF]
theorem exNo {w : World} {a : PgA} {p : Prg} (hP : PgW w a p) {len : Nat} {i : I8} (h : i.chk = 0) (he : exB a.n1 a.n2 a.n3 a.n4 i = false) : p.insE len i = 11 := by
  unfold Prg.insE
  unfold exB at he
  rw [if_neg (by rw [h]; simp), objEq hP, hP.l2]
  generalize objL a.n1 a.n2 a.n3 a.n4 i.op = o at he ⊢
  by_cases h1 : i.op = 18 ∧ belB i.n a.n2 = false
  · cases o <;> simp [h1]
  · rw [if_neg h1] at he
    cases o with
    | none => simp at he
    | some c => simp only at he; simp [he]
theorem exYes {w : World} {a : PgA} {p : Prg} (hP : PgW w a p) {len : Nat} {i : I8} (h : i.chk = 0) (he : exB a.n1 a.n2 a.n3 a.n4 i = true) : p.insE len i = if (i.op = 4 ∨ i.op = 5) ∧ belB i.n (len + 1) = false then 12 else 0 := by
  unfold Prg.insE
  unfold exB at he
  rw [if_neg (by rw [h]; simp), objEq hP, hP.l2]
  generalize objL a.n1 a.n2 a.n3 a.n4 i.op = o at he ⊢
  by_cases h1 : i.op = 18 ∧ belB i.n a.n2 = false
  · rw [if_pos h1] at he
    cases he
  · rw [if_neg h1] at he
    cases o with
    | none => simp only [if_neg h1]; rfl
    | some c => simp only at he; simp only [he, if_neg h1]; rfl
theorem ret2I {x y : Int × Int} (h : x = y) : Ending.returned (.tuple #[.int .i64 x.1, .int .i64 x.2]) = .returned (.tuple #[.int .i64 y.1, .int .i64 y.2]) := by rw [h]
set_option maxRecDepth 100000 in
set_option maxHeartbeats 4000000 in
theorem rCode {a : PgA} {p : Prg} (w : World) (hP : PgW w a p) (nm : ByteArray) (l : List I8) (Ac : Option Addr) (nc cc : Nat) (hn : l.length = nc) (hr : RdE 8 EI w Ac cc l) :
    Calls Tryz.prog 86 #[a.val, .agg #[.string nm, .slice Ac nc cc]] w fun e w' => e = .returned (.tuple #[.int .i64 (p.cd1 l).1, .int .i64 (p.cd1 l).2]) ∧ Below w.heap.size w w' := by
  have g1 : a.n1 ≤ maxLen := by have h1 := hP.vars.le; have h2 := hP.vars.max; rw [hP.l1] at h1; omega
  have g2 : a.n2 ≤ maxLen := by have h1 := hP.muts.le; have h2 := hP.muts.max; rw [hP.l2] at h1; omega
  have g3 : a.n3 ≤ maxLen := by have h1 := hP.conds.le; have h2 := hP.conds.max; rw [hP.l3] at h1; omega
  have g4 : a.n4 ≤ maxLen := by have h1 := hP.funcs.le; have h2 := hP.funcs.max; rw [hP.l4] at h1; omega
  obtain ⟨r, hrr⟩ : ∃ r, p.cd1 l = r := ⟨_, rfl⟩
  rw [hrr]
  obtain ⟨W, hWE⟩ : ∃ W, (w.alloc (.cells a.fs 43)).alloc (.cells #[.string nm, .slice Ac nc cc] 24) = W := ⟨_, rfl⟩
  have hbW : Below w.heap.size w W := by rw [← hWE]; exact (belowAlloc w _).alloc (by simp) _
  have hB : PBox W w.heap.size a := by rw [← hWE]; exact (Blk.new w _ _).alloc _
  have hBF : Blk W (w.heap.size + 1) 24 #[.string nm, .slice Ac nc cc] := by rw [← hWE]; exact Blk.new1 w _ _ _
  have HK := Lib.hid (fun Y (hY : Below W.heap.size W Y) => (hB.below hY).facts)
  have HKF : Hid (∀ Y, Below W.heap.size W Y → Y.cell? ⟨w.heap.size + 1, 1, none⟩ = some (.slice Ac nc cc)) := Lib.hid (fun Y hY => (hBF.below' hY).cell 1)
  have HI := Lib.hid (fun Y (hY : Below W.heap.size W Y) k (hk : k < l.length) => ((hr.below stabI hbW).below stabI hY).one hk)
  have HEN := Lib.hid (fun len i h he => exNo hP (len := len) (i := i) h he)
  have HEY := Lib.hid (fun len i h he => exYes hP (len := len) (i := i) h he)
  have HEX := Lib.hid (fun i X => rExists a i X g1 g2 g3 g4)
  have hle := hr.le
  have hmx := hr.max
  rw [hn] at hle
  unfold maxLen at hmx
  have HN := Lib.hid hn
  have HW := Lib.hid hWE
  have HBW := Lib.hid hbW
  obtain ⟨A1, n1, c1, A2, n2, c2, A3, n3, c3, A4, n4, c4, A5, n5, c5⟩ := a
  simp only [PgA.val, PgA.fs] at *
  have hb0 := Below.refl W.heap.size W
  have f1 := HKF.out W hb0
  clear hP hB hbW hBF hWE hn hr g1 g2 g3 g4
  by_cases h64 : 64 < nc
  · have HX : Hid ((4, -1) = r) := Lib.hid (by rw [← hrr]; unfold Prg.cd1; rw [if_pos (by rw [HN.out]; exact h64)])
    clear hrr
    go_enter Tryz.func86, Tryz.ntmps86
    go_wp2
    go_ret2
    exact ⟨by rw [← HX.out]; rfl, by rw [HW.out]; exact HBW.out⟩
  have HR : Hid (p.cdF nc (l.drop 0) 0 = r) := Lib.hid (by rw [← hrr]; unfold Prg.cd1; rw [if_neg (by rw [HN.out]; exact h64), HN.out]; rfl)
  clear hrr
  go_enter Tryz.func86, Tryz.ntmps86
  go_wp2
  rw [HW.out]
  go_loopw [6] (fun i wr => ∃ k : Nat, k ≤ nc ∧ i = .int .i64 k ∧ Below W.heap.size W wr ∧ Hid (p.cdF nc (l.drop k) k = r)) (fun i _ => nc - (intOf i).toNat)
  case atStart => exact ⟨0, Nat.zero_le _, rfl, hb0, HR⟩
  case round =>
    obtain ⟨k, hk, rfl, hb, HE⟩ := hrel
    have f1 := HKF.out wr hb
    by_cases hlt : k < nc
    · have hkl : k < l.length := by rw [HN.out]; exact hlt
      obtain ⟨q, off, hA, _, i0, i1, i2, i3, i4, i5, i6, i7⟩ := HI.out wr hb k hkl
      have hA : Ac = _ := hA
      subst hA
      obtain ⟨ii, hii⟩ : ∃ x, l[k] = x := ⟨_, rfl⟩
      rw [hii] at i0 i1 i2 i3 i4 i5 i6 i7
      have HII := Lib.hid hii
      clear hii
      obtain ⟨op, ra, rb, rc, obj, n, fn, ord⟩ := ii
      simp only at i0 i1 i2 i3 i4 i5 i6 i7
      have hk0 : (0 : Int) ≤ k := by omega
      have hk1 : (k : Int) < nc := by omega
      have HB := Lib.hid hb
      have HCK := Lib.hid (fun e he X => rCheckA op ra rb rc obj n fn ord e he X)
      have HEXI := Lib.hid (HEX.out (I8.mk8 op ra rb rc obj n fn ord))
      simp only [I8.val] at HEXI
      obtain ⟨wb, hwb⟩ : ∃ x, wr.alloc (.cells #[.int .i64 op, .int .i64 ra, .int .i64 rb, .int .i64 rc, .int .i64 obj, .int .i64 n, .int .i64 fn, .int .i64 ord] 55) = x := ⟨_, rfl⟩
      have hbb : Below wr.heap.size wr wb := by rw [← hwb]; exact belowAlloc wr _
      have hbi : Blk wb wr.heap.size 55 #[.int .i64 op, .int .i64 ra, .int .i64 rb, .int .i64 rc, .int .i64 obj, .int .i64 n, .int .i64 fn, .int .i64 ord] := by rw [← hwb]; exact Blk.new wr _ _
      have HBB := Lib.hid (belowThen hb hbb)
      have HBI := Lib.hid (fun Y (hY : Below wb.heap.size wb Y) => boxFactsW (hbi.below' hY))
      have HWB := Lib.hid hwb
      clear hwb hbb hbi hb
      by_cases hck : (I8.mk8 op ra rb rc obj n fn ord).chk = 0
      rotate_left
      · obtain ⟨e, he⟩ : ∃ e, (I8.mk8 op ra rb rc obj n fn ord).chk = e := ⟨_, rfl⟩
        have HX : Hid ((e, (k : Int)) = r) := Lib.hid (by
          have h1 := insBad (p := p) (len := nc) hck
          have h2 := cdHit (p := p) (len := nc) hkl (by rw [HII.out, h1]; exact hck)
          rw [← HE.out, h2, HII.out, h1, he])
        have hne : (e != 0) = true := by rw [he] at hck; simpa using hck
        have HC := Lib.hid (HCK.out e he)
        clear hck he
        go_wp2_with fail
        rw [HWB.out]
        refine (HC.out wb).mono ?_
        rintro e1 w2 ⟨rfl, b2⟩
        go_wp2
        go_ret2
        exact ⟨ret2I HX.out, belowThen HBW.out (belowThen HBB.out b2)⟩
      have HC := Lib.hid (HCK.out 0 hck)
      cases hex : exB n1 n2 n3 n4 (I8.mk8 op ra rb rc obj n fn ord)
      · have HX : Hid ((11, (k : Int)) = r) := Lib.hid (by
          have h1 := HEN.out nc _ hck hex
          have h2 := cdHit (p := p) (len := nc) hkl (by rw [HII.out, h1]; decide)
          rw [← HE.out, h2, HII.out, h1])
        rw [hex] at HEXI
        clear hck hex
        go_wp2_with fail
        rw [HWB.out]
        refine (HC.out wb).mono ?_
        rintro e1 w2 ⟨rfl, b2⟩
        have B2 := belowThen HBB.out b2
        obtain ⟨j0, j1, j2, j3, j4, j5, j6, j7⟩ := HBI.out w2 b2
        obtain ⟨p0, p1, p2, p3, p4⟩ := HK.out w2 B2
        go_wp2_with fail
        refine (HEXI.out w2).mono ?_
        rintro e1 w3 ⟨rfl, b3⟩
        go_wp2
        go_ret2
        exact ⟨ret2I HX.out, belowThen HBW.out (belowThen B2 b3)⟩
      have hy := HEY.out nc _ hck hex
      rw [hex] at HEXI
      simp only at hy
      clear hck hex
      go_wp2_with fail
      rw [HWB.out]
      refine (HC.out wb).mono ?_
      rintro e1 w2 ⟨rfl, b2⟩
      have B2 := belowThen HBB.out b2
      obtain ⟨j0, j1, j2, j3, j4, j5, j6, j7⟩ := HBI.out w2 b2
      obtain ⟨p0, p1, p2, p3, p4⟩ := HK.out w2 B2
      go_wp2_with fail
      refine (HEXI.out w2).mono ?_
      rintro e1 w3 ⟨rfl, b3⟩
      have B3 := belowThen B2 b3
      have f2 := HKF.out w3 B3
      clear j0 j1 j2 j3 j4 j5 j6 j7 p0 p1 p2 p3 p4
      obtain ⟨j0, j1, j2, j3, j4, j5, j6, j7⟩ := HBI.out w3 (belowThen b2 b3)
      clear j1 j2 j3 j4 j6 j7
      have HY := Lib.hid hy
      have HB3 := Lib.hid B3
      have fin12 : ((op = 4 ∨ op = 5) ∧ (n < 0 ∨ (nc : Int) < n)) → ((12, (k : Int)) = r) := fun hc => by
        have h1 : p.insE nc (I8.mk8 op ra rb rc obj n fn ord) = 12 := by
          rw [HY.out, if_pos ⟨hc.1, by unfold belB; rcases hc.2 with h | h
                                       · rw [decide_eq_false (show ¬ 0 ≤ n by omega)]; rfl
                                       · rw [decide_eq_false (show ¬ n < ((nc + 1 : Nat) : Int) by omega), Bool.and_false]⟩]
        have h2 := cdHit (p := p) (len := nc) hkl (by rw [HII.out, h1]; decide)
        rw [← HE.out, h2, HII.out, h1]
      have fin0 : ¬ ((op = 4 ∨ op = 5) ∧ (n < 0 ∨ (nc : Int) < n)) → p.cdF nc (l.drop (k + 1)) (k + 1) = r := fun hc => by
        have h1 : p.insE nc (I8.mk8 op ra rb rc obj n fn ord) = 0 := by
          rw [HY.out, if_neg fun h => hc ⟨h.1, by
            have h2 := h.2
            unfold belB at h2
            rw [Bool.and_eq_false_iff, decide_eq_false_iff_not, decide_eq_false_iff_not] at h2
            omega⟩]
        rw [← HE.out, cdMiss (p := p) (len := nc) hkl (by rw [HII.out, h1])]
      have F12 := Lib.hid fin12
      have F0 := Lib.hid fin0
      clear hy B3 B2 fin12 fin0
      by_cases h4 : op = 4
      · subst h4
        by_cases hn0 : n < 0
        · have HX := Lib.hid (F12.out ⟨.inl rfl, .inl hn0⟩)
          go_wp2
          all_goals first
            | (exfalso; omega)
            | (go_ret2; exact ⟨ret2I HX.out, belowThen HBW.out HB3.out⟩)
        by_cases hn1 : (nc : Int) < n
        · have HX := Lib.hid (F12.out ⟨.inl rfl, .inr hn1⟩)
          go_wp2
          all_goals first
            | (exfalso; omega)
            | (go_ret2; exact ⟨ret2I HX.out, belowThen HBW.out HB3.out⟩)
        have HX := Lib.hid (F0.out (by omega))
        have hm : nc - (k + 1) < nc - k := by omega
        go_wp2
        all_goals first
          | (exfalso; omega)
          | exact ⟨⟨k + 1, by omega, by go_num, HB3.out, HX⟩, by simp [intOf]; omega⟩
      by_cases h5 : op = 5
      · subst h5
        by_cases hn0 : n < 0
        · have HX := Lib.hid (F12.out ⟨.inr rfl, .inl hn0⟩)
          go_wp2
          all_goals first
            | (exfalso; omega)
            | (go_ret2; exact ⟨ret2I HX.out, belowThen HBW.out HB3.out⟩)
        by_cases hn1 : (nc : Int) < n
        · have HX := Lib.hid (F12.out ⟨.inr rfl, .inr hn1⟩)
          go_wp2
          all_goals first
            | (exfalso; omega)
            | (go_ret2; exact ⟨ret2I HX.out, belowThen HBW.out HB3.out⟩)
        have HX := Lib.hid (F0.out (by omega))
        have hm : nc - (k + 1) < nc - k := by omega
        go_wp2
        all_goals first
          | (exfalso; omega)
          | exact ⟨⟨k + 1, by omega, by go_num, HB3.out, HX⟩, by simp [intOf]; omega⟩
      have z4 : (op == 4) = false := by simpa using h4
      have z5 : (op == 5) = false := by simpa using h5
      have HX := Lib.hid (F0.out (by omega))
      clear h4 h5
      go_wp2
      go_roundw
      case rel => exact ⟨k + 1, by omega, by go_num, HB3.out, HX⟩
      case measure => simp [intOf]; omega
    · have HX := Lib.hid ((cdEnd (p := p) (len := nc) (l := l) (k := k) (by rw [HN.out]; omega)).symm.trans HE.out)
      go_wp2
      go_ret2
      exact ⟨ret2I HX.out, belowThen HBW.out hb⟩
end Go.Proofs.YtpkagpobobmnfaaGreatDoor

namespace Go.Proofs.YtpkagpobobmnfaaGreatDoor
open Go Go.RowKit

theorem fnHit {p : Prg} {l : List (ByteArray × List I8)} {k : Nat} (hk : k < l.length) (h : (p.cd1 l[k].2).1 ≠ 0) : p.fnF (l.drop k) k = ((p.cd1 l[k].2).1, (k : Int), (p.cd1 l[k].2).2) := by
  rw [List.drop_eq_getElem_cons hk, Prg.fnF, if_pos h]
theorem fnMiss {p : Prg} {l : List (ByteArray × List I8)} {k : Nat} (hk : k < l.length) (h : (p.cd1 l[k].2).1 = 0) : p.fnF (l.drop k) k = p.fnF (l.drop (k + 1)) (k + 1) := by
  rw [List.drop_eq_getElem_cons hk, Prg.fnF, if_neg (by rw [h]; simp)]
theorem fnEnd {p : Prg} {l : List (ByteArray × List I8)} {k : Nat} (hk : l.length ≤ k) : p.fnF (l.drop k) k = (0, -1, -1) := by
  rw [List.drop_eq_nil_of_le hk, Prg.fnF]
theorem rdsOf {w : World} {A : Option Addr} {c : Nat} {l : List ByteArray} (h : RdE 1 ES w A c l) : Rds w A c (sv l) := by
  refine ⟨by rw [svLen]; exact h.le, h.max, fun hn => ?_⟩
  rw [svLen] at hn
  obtain ⟨b, off, hA, hb, _⟩ := h.one hn
  refine ⟨_, hA, hb, fun j u hu => ?_⟩
  have hj : j < l.length := by
    have := (List.getElem?_eq_some_iff.1 hu).1
    rwa [svLen] at this
  obtain ⟨b', off', hA', _, hc⟩ := h.one hj
  rw [hA] at hA'
  injection hA' with hA'
  injection hA' with e1 e2
  subst e1 e2
  have hu2 : u = .string l[j] := by
    have : (sv l)[j]? = some (.string l[j]) := by simp [sv, hj]
    rw [this] at hu
    exact (Option.some.inj hu).symm
  rw [hu2, Addr.add_lit]
  have hc : w.cell? ⟨b, off + j * 1, none⟩ = some (.string l[j]) := hc
  rwa [Nat.mul_one] at hc
theorem rNamesV (l : List ByteArray) (n : Nat) (hn : l.length = n) (hl : ∀ s ∈ l, s.size ≤ maxLen) (A : Option Addr) (c : Nat) (i x : Int) (h : nmR (nmF [] l 0) = (i, x)) (w : World) (hr : Rds w A c (sv l)) :
    Calls Tryz.prog 84 #[.slice A n c] w fun e w' => e = .returned (.tuple #[.int .i64 i, .int .i64 x]) ∧ Below w.heap.size w w' := by
  have := rNamesP l n hn hl A c w hr
  rwa [h] at this
theorem ret3I {x y : Int × Int × Int} (h : x = y) : Ending.returned (.tuple #[.int .i64 x.1, .int .i64 x.2.1, .int .i64 x.2.2]) = err3 y := by rw [h]; rfl
theorem fewOf {p : Prg} (h : p.small = true) : p.vars.length ≤ 20 ∧ p.muts.length ≤ 20 ∧ p.conds.length ≤ 20 ∧ p.funcs.length ≤ 20 ∧ p.thr.length ≤ 20 := by
  unfold Prg.small Prg.few at h
  simp only [Bool.and_eq_true, decide_eq_true_eq] at h
  omega
set_option maxRecDepth 100000 in
set_option maxHeartbeats 8000000 in
theorem rCheckP {a : PgA} {p : Prg} (w : World) (hP : PgW w a p) (hW : p.Wf) (hsm : p.small = true) : Calls Tryz.prog 39 #[a.val] w fun e w' => e = err3 p.chk ∧ Below w.heap.size w w' := by
  have hfw := fewOf hsm
  rw [hP.l1, hP.l2, hP.l3, hP.l4, hP.l5] at hfw
  obtain ⟨q1, q2, q3, q4, q5⟩ := hfw
  obtain ⟨W, hWE⟩ : ∃ W, w.alloc (.cells a.fs 43) = W := ⟨_, rfl⟩
  have hbW : Below w.heap.size w W := by rw [← hWE]; exact belowAlloc w _
  have hB : PBox W w.heap.size a := by rw [← hWE]; exact Blk.new w _ _
  have HK := Lib.hid (fun Y (hY : Below W.heap.size W Y) => (hB.below hY).facts)
  have HP := Lib.hid (fun Y (hY : Below W.heap.size W Y) => (hP.below hbW).below hY)
  have HV := Lib.hid (fun Y (hY : Below W.heap.size W Y) k (hk : k < p.vars.length) => (HP.out Y hY).vars.one hk)
  have HF := Lib.hid (fun Y (hY : Below W.heap.size W Y) k (hk : k < p.funcs.length) => (HP.out Y hY).funcs.one hk)
  have HLS := Lib.hid (rLists W (HP.out W (Below.refl _ _)) q1 q4)
  have HTH := Lib.hid (fun Y (hY : Below W.heap.size W Y) => rThreads Y (HP.out Y hY))
  have HCD := Lib.hid (fun Y (hY : Below W.heap.size W Y) nm l Ac nc cc hn hr => rCode Y (HP.out Y hY) nm l Ac nc cc hn hr)
  have HL1 := Lib.hid hP.l1
  have HL4 := Lib.hid hP.l4
  obtain ⟨i1, x1, h1⟩ : ∃ i x, nmR (nmF [] (p.vars.map (·.1)) 0) = (i, x) := ⟨_, _, rfl⟩
  obtain ⟨i2, x2, h2⟩ : ∃ i x, nmR (nmF [] p.muts 0) = (i, x) := ⟨_, _, rfl⟩
  obtain ⟨i3, x3, h3⟩ : ∃ i x, nmR (nmF [] p.conds 0) = (i, x) := ⟨_, _, rfl⟩
  obtain ⟨i4, x4, h4⟩ : ∃ i x, nmR (nmF [] (p.funcs.map (·.1)) 0) = (i, x) := ⟨_, _, rfl⟩
  have H1 := Lib.hid (fun A c X hr => rNamesV (p.vars.map (·.1)) _ rfl (fun s hs => by obtain ⟨v, hv, rfl⟩ := List.mem_map.1 hs; exact hW.vn v hv) A c i1 x1 h1 X hr)
  have H4 := Lib.hid (fun A c X hr => rNamesV (p.funcs.map (·.1)) _ rfl (fun s hs => by obtain ⟨v, hv, rfl⟩ := List.mem_map.1 hs; exact hW.fn v hv) A c i4 x4 h4 X hr)
  have H2 := Lib.hid (fun X (hX : Below W.heap.size W X) => rNamesV p.muts a.n2 hP.l2 hW.mn a.A2 a.c2 i2 x2 h2 X (rdsOf (HP.out X hX).muts))
  have H3 := Lib.hid (fun X (hX : Below W.heap.size W X) => rNamesV p.conds a.n3 hP.l3 hW.cn a.A3 a.c3 i3 x3 h3 X (rdsOf (HP.out X hX).conds))
  obtain ⟨r, hr⟩ : ∃ r, p.chk = r := ⟨_, rfl⟩
  rw [hr]
  have e1 : (nmF [] (p.vars.map (·.1)) 0).1 = x1 := congrArg Prod.snd h1
  have e2 : (nmF [] p.muts 0).1 = x2 := congrArg Prod.snd h2
  have e3 : (nmF [] p.conds 0).1 = x3 := congrArg Prod.snd h3
  have e4 : (nmF [] (p.funcs.map (·.1)) 0).1 = x4 := congrArg Prod.snd h4
  have e5 : x4 ≠ 0 → (nmF [] (p.funcs.map (·.1)) 0).2 = i4 := fun h => by
    have : (nmR (nmF [] (p.funcs.map (·.1)) 0)).1 = i4 := congrArg Prod.fst h4
    unfold nmR at this
    rw [e4, if_neg h] at this
    exact this
  have R1 : x1 ≠ 0 → (x1, -1, -1) = r := fun h => by rw [← hr]; unfold Prg.chk Prg.nmE; simp [e1, h]
  have R2 : x1 = 0 → x2 ≠ 0 → (x2, -1, -1) = r := fun a h => by rw [← hr]; unfold Prg.chk Prg.nmE; simp [e1, a, e2, h]
  have R3 : x1 = 0 → x2 = 0 → x3 ≠ 0 → (x3, -1, -1) = r := fun a b h => by rw [← hr]; unfold Prg.chk Prg.nmE; simp [e1, a, e2, b, e3, h]
  have R4 : x1 = 0 → x2 = 0 → x3 = 0 → x4 ≠ 0 → (x4, i4, -1) = r := fun a b c h => by rw [← hr, ← e5 h]; unfold Prg.chk Prg.nmE; simp [e1, a, e2, b, e3, c, e4, h]
  have R5 : x1 = 0 → x2 = 0 → x3 = 0 → x4 = 0 → (if p.many = true then (4, -1, -1) else if (p.vars.all fun v => isVal v.2) = false then (2, -1, -1) else if (p.fnF p.funcs 0).1 ≠ 0 then p.fnF p.funcs 0 else (p.thE, -1, -1)) = r := fun a b c d => by rw [← hr]; unfold Prg.chk Prg.nmE; simp [e1, a, e2, b, e3, c, e4, d]
  have HM : Hid (p.many = (decide (8 < a.n1) || decide (4 < a.n2) || decide (4 < a.n3) || decide (8 < a.n4))) := by unfold Prg.many; rw [hP.l1, hP.l2, hP.l3, hP.l4]; exact Lib.hid rfl
  have HR1 := Lib.hid R1
  have HR2 := Lib.hid R2
  have HR3 := Lib.hid R3
  have HR4 := Lib.hid R4
  have HR5 := Lib.hid R5
  have HW := Lib.hid hWE
  have HBW := Lib.hid hbW
  have k1 := hP.vars.le
  have k2 := hP.vars.max
  rw [hP.l1] at k1
  have k3 := hP.funcs.le
  have k4 := hP.funcs.max
  rw [hP.l4] at k3
  unfold maxLen at k2 k4
  obtain ⟨lv, hlv⟩ : ∃ l, p.vars.map (·.1) = l := ⟨_, rfl⟩
  obtain ⟨lf, hlf⟩ : ∃ l, p.funcs.map (·.1) = l := ⟨_, rfl⟩
  rw [hlv, hlf] at HLS
  rw [hlv] at H1
  rw [hlf] at H4
  have hb0 := Below.refl W.heap.size W
  clear e1 e2 e3 e4 e5 h1 h2 h3 h4 R1 R2 R3 R4 R5 hr hP hW hB hbW hWE hlv hlf hsm
  obtain ⟨A1, n1, c1, A2, n2, c2, A3, n3, c3, A4, n4, c4, A5, n5, c5⟩ := a
  simp only [PgA.val, PgA.fs] at *
  go_enter Tryz.func39, Tryz.ntmps39
  go_wp2_with fail
  rw [HW.out]
  refine HLS.out.mono ?_
  rintro e w1 ⟨B, d, C, g, rfl, rv, rf, b1⟩
  have RV := Lib.hid rv
  have RF := Lib.hid rf
  clear rv rf
  go_wp2_with fail
  refine (H1.out B d w1 RV.out).mono ?_
  rintro e w2 ⟨rfl, b2⟩
  have B2 := belowThen b1 b2
  by_cases h1 : x1 = 0
  rotate_left
  · have hx : (x1 != 0) = true := by simpa using h1
    have HX := Lib.hid (HR1.out h1)
    clear h1
    go_wp2
    go_ret3
    exact ⟨ret3I HX.out, belowThen HBW.out B2⟩
  have z1 : (x1 != 0) = false := by simpa using h1
  have Z1 := Lib.hid h1
  clear h1
  obtain ⟨f0, f1, f2, f3, f4⟩ := HK.out w2 B2
  go_wp2_with fail
  refine (H2.out w2 B2).mono ?_
  rintro e w3 ⟨rfl, b3⟩
  have B3 := belowThen B2 b3
  clear f0 f1 f2 f3 f4
  by_cases h1 : x2 = 0
  rotate_left
  · have hx : (x2 != 0) = true := by simpa using h1
    have HX := Lib.hid (HR2.out Z1.out h1)
    clear h1
    go_wp2
    go_ret3
    exact ⟨ret3I HX.out, belowThen HBW.out B3⟩
  have z2 : (x2 != 0) = false := by simpa using h1
  have Z2 := Lib.hid h1
  clear h1
  obtain ⟨f0, f1, f2, f3, f4⟩ := HK.out w3 B3
  go_wp2_with fail
  refine (H3.out w3 B3).mono ?_
  rintro e w4 ⟨rfl, b4⟩
  have B4 := belowThen B3 b4
  clear f0 f1 f2 f3 f4
  by_cases h1 : x3 = 0
  rotate_left
  · have hx : (x3 != 0) = true := by simpa using h1
    have HX := Lib.hid (HR3.out Z1.out Z2.out h1)
    clear h1
    go_wp2
    go_ret3
    exact ⟨ret3I HX.out, belowThen HBW.out B4⟩
  have z3 : (x3 != 0) = false := by simpa using h1
  have Z3 := Lib.hid h1
  clear h1
  go_wp2_with fail
  refine (H4.out C g w4 (RF.out.below (belowThen b2 (belowThen b3 b4)))).mono ?_
  rintro e w5 ⟨rfl, b5⟩
  have B5 := belowThen B4 b5
  by_cases h1 : x4 = 0
  rotate_left
  · have hx : (x4 != 0) = true := by simpa using h1
    have HX := Lib.hid (HR4.out Z1.out Z2.out Z3.out h1)
    clear h1
    go_wp2
    go_ret3
    exact ⟨ret3I HX.out, belowThen HBW.out B5⟩
  have z4 : (x4 != 0) = false := by simpa using h1
  have h5 := HR5.out Z1.out Z2.out Z3.out h1
  clear h1 HR1 HR2 HR3 HR4 HR5 H1 H2 H3 H4 HLS RV RF b2 b3 b4 b5
  obtain ⟨f0, f1, f2, f3, f4⟩ := HK.out w5 B5
  by_cases m1 : 8 < n1
  · have HX := Lib.hid (show (4, -1, -1) = r by rw [← h5, if_pos (by rw [HM.out, decide_eq_true m1]; rfl)])
    clear h5
    go_wp2
    all_goals first
      | (exfalso; omega)
      | (go_ret3; exact ⟨ret3I HX.out, belowThen HBW.out B5⟩)
  by_cases m2 : 4 < n2
  · have HX := Lib.hid (show (4, -1, -1) = r by rw [← h5, if_pos (by rw [HM.out, decide_eq_true m2]; simp)])
    clear h5
    go_wp2
    all_goals first
      | (exfalso; omega)
      | (go_ret3; exact ⟨ret3I HX.out, belowThen HBW.out B5⟩)
  by_cases m3 : 4 < n3
  · have HX := Lib.hid (show (4, -1, -1) = r by rw [← h5, if_pos (by rw [HM.out, decide_eq_true m3]; simp)])
    clear h5
    go_wp2
    all_goals first
      | (exfalso; omega)
      | (go_ret3; exact ⟨ret3I HX.out, belowThen HBW.out B5⟩)
  by_cases m4 : 8 < n4
  · have HX := Lib.hid (show (4, -1, -1) = r by rw [← h5, if_pos (by rw [HM.out, decide_eq_true m4]; simp)])
    clear h5
    go_wp2
    all_goals first
      | (exfalso; omega)
      | (go_ret3; exact ⟨ret3I HX.out, belowThen HBW.out B5⟩)
  rw [if_neg (by rw [HM.out]; simp; omega)] at h5
  have H5 := Lib.hid h5
  clear h5
  go_wp2
  all_goals (try (exfalso; omega))
  go_loopw [15] (fun i wr => ∃ k : Nat, k ≤ n1 ∧ i = .int .i64 k ∧ Below W.heap.size W wr ∧ Hid (∀ j (hj : j < p.vars.length), j < k → isVal p.vars[j].2 = true)) (fun i _ => n1 - (intOf i).toNat)
  case atStart => exact ⟨0, Nat.zero_le _, rfl, B5, Lib.hid fun j _ h => by omega⟩
  case round =>
    clear f0 f1 f2 f3 f4
    obtain ⟨k, hk, rfl, hb, HA⟩ := hrel
    obtain ⟨f0, f1, f2, f3, f4⟩ := HK.out wr hb
    by_cases hlt : k < n1
    · have hkl : k < p.vars.length := by rw [HL1.out]; exact hlt
      obtain ⟨q, off, hA, _, _, h2⟩ := HV.out wr hb k hkl
      have hA : A1 = _ := hA
      subst hA
      obtain ⟨z, hz⟩ : ∃ s, p.vars[k].2 = s := ⟨_, rfl⟩
      rw [hz] at h2
      have HZ := Lib.hid hz
      have hk0 : (0 : Int) ≤ k := by omega
      have hk1 : (k : Int) < n1 := by omega
      have HVV := Lib.hid (fun X => rValue z X)
      cases hv : isVal z
      · have HX := Lib.hid (show (2, -1, -1) = r by rw [← H5.out, if_pos (initNo hkl (by rw [HZ.out]; exact hv))])
        rw [hv] at HVV
        clear hv hz
        go_wp2_with (go_at_call 85; refine (HVV.out _).mono ?_; rintro e w' ⟨rfl, rfl⟩)
        go_ret3
        exact ⟨ret3I HX.out, belowThen HBW.out hb⟩
      · have HX := Lib.hid (initNext HA.out hkl (by rw [HZ.out]; exact hv))
        rw [hv] at HVV
        clear hv hz
        go_wp2_with (go_at_call 85; refine (HVV.out _).mono ?_; rintro e w' ⟨rfl, rfl⟩)
        go_roundw
        case rel => exact ⟨k + 1, by omega, by go_num, hb, HX⟩
        case measure => simp [intOf]; omega
    · have h6 := H5.out
      rw [if_neg (by rw [initYes fun j hj => HA.out j hj (by have : p.vars.length = n1 := HL1.out; omega)]; decide)] at h6
      obtain ⟨r2, hr2⟩ : ∃ r2, p.fnF (p.funcs.drop 0) 0 = r2 := ⟨_, rfl⟩
      have hr3 : p.fnF p.funcs 0 = r2 := hr2
      rw [hr3] at h6
      have H6 := Lib.hid h6
      have HR2 := Lib.hid hr2
      clear h6 hr2 hr3
      go_wp2
      go_loopw [16] (fun i wr => ∃ k : Nat, k ≤ n4 ∧ i = .int .i64 k ∧ Below W.heap.size W wr ∧ Hid (p.fnF (p.funcs.drop k) k = r2)) (fun i _ => n4 - (intOf i).toNat)
      case atStart => exact ⟨0, Nat.zero_le _, rfl, hb, HR2⟩
      case round =>
        clear f0 f1 f2 f3 f4
        obtain ⟨j, hj, rfl, hbj, HE⟩ := hrel
        obtain ⟨f0, f1, f2, f3, f4⟩ := HK.out wr hbj
        by_cases hlt : j < n4
        · have hjl : j < p.funcs.length := by rw [HL4.out]; exact hlt
          obtain ⟨q, off, hA, _, h1, v, h2, Ac, nc, cc, rfl, hnc, hrd⟩ := HF.out wr hbj j hjl
          have hA : A4 = _ := hA
          subst hA
          have hj0 : (0 : Int) ≤ j := by omega
          have hj1 : (j : Int) < n4 := by omega
          have HKP : Hid (∀ Y, Below wr.heap.size wr Y → Below wr.heap.size wr Y ∧ Y.cell? ⟨q, off + j * 2, none⟩ = some (.string (p.funcs[j]).1) ∧ Y.cell? ⟨q, off + j * 2 + 1, none⟩ = some (.slice Ac nc cc) ∧ Y.cell? ⟨w.heap.size, 0, none⟩ = some (.slice A1 n1 c1) ∧ Y.cell? ⟨w.heap.size, 1, none⟩ = some (.slice A2 n2 c2) ∧ Y.cell? ⟨w.heap.size, 2, none⟩ = some (.slice A3 n3 c3) ∧ Y.cell? ⟨w.heap.size, 3, none⟩ = some (.slice (some ⟨q, off, none⟩) n4 c4) ∧ Y.cell? ⟨w.heap.size, 4, none⟩ = some (.slice A5 n5 c5)) := Lib.hid fun Y hY => ⟨hY, (hY.cell (World.block_lt_of_cell? _ _ h1)).trans h1, (hY.cell (World.block_lt_of_cell? _ _ h2)).trans h2, HK.out Y (belowThen hbj hY)⟩
          have hbd : Below wr.heap.size wr wr.drew := (Below.refl _ wr).drew
          have HCX := Lib.hid (fun Y (hY : Below wr.heap.size wr Y) => HCD.out Y (belowThen hbj hY) (p.funcs[j]).1 (p.funcs[j]).2 Ac nc cc hnc (hrd.below stabI hY))
          have HBJ := Lib.hid hbj
          obtain ⟨⟨ex, ey⟩, hex⟩ : ∃ e, p.cd1 (p.funcs[j]).2 = e := ⟨_, rfl⟩
          rw [hex] at HCX
          have HEX := Lib.hid hex
          generalize (p.funcs[j]).1 = nm at h1 HKP HCX
          simp only at HCX
          clear hnc hrd hex f0 f1 f2 f4 h1 h2 hbj
          by_cases hx : ex = 0
          · subst hx
            have HX := Lib.hid ((fnMiss hjl (by rw [HEX.out])).symm.trans HE.out)
            go_wp2_with fail
            go_region_held3 (fun w' => Below wr.heap.size wr w' ∧ w'.cell? ⟨q, off + j * 2, none⟩ = some (.string nm) ∧ w'.cell? ⟨q, off + j * 2 + 1, none⟩ = some (.slice Ac nc cc) ∧ w'.cell? ⟨w.heap.size, 0, none⟩ = some (.slice A1 n1 c1) ∧ w'.cell? ⟨w.heap.size, 1, none⟩ = some (.slice A2 n2 c2) ∧ w'.cell? ⟨w.heap.size, 2, none⟩ = some (.slice A3 n3 c3) ∧ w'.cell? ⟨w.heap.size, 3, none⟩ = some (.slice (some ⟨q, off, none⟩) n4 c4) ∧ w'.cell? ⟨w.heap.size, 4, none⟩ = some (.slice A5 n5 c5))
              (first
                | with_reducible assumption
                | with_reducible exact HKP.out _ hbd
                | exact HKP.out _ (belowThen hbd bk))
              (first | (go_at_call 86; refine (HCX.out _ (‹Below wr.heap.size wr _ ∧ _›).1).mono ?_; rintro e wa ⟨rfl, bk⟩))
            have hall := ‹Below wr.heap.size wr _ ∧ _›
            have HB5 := Lib.hid hall.1
            clear hall f3
            go_wp2
            go_roundw
            case rel => exact ⟨j + 1, by omega, by go_num, belowThen HBJ.out HB5.out, HX⟩
            case measure => simp [intOf]; omega
          · have hxx : (ex != 0) = true := by simpa using hx
            have HX := Lib.hid (show (ex, (j : Int), ey) = r by
              have h1 := (fnHit hjl (by rw [HEX.out]; exact hx)).symm.trans HE.out
              rw [HEX.out] at h1
              have h2 := H6.out
              rw [← h1, if_pos hx] at h2
              exact h2)
            clear hx
            go_wp2_with fail
            go_region_held3 (fun w' => Below wr.heap.size wr w' ∧ w'.cell? ⟨q, off + j * 2, none⟩ = some (.string nm) ∧ w'.cell? ⟨q, off + j * 2 + 1, none⟩ = some (.slice Ac nc cc) ∧ w'.cell? ⟨w.heap.size, 0, none⟩ = some (.slice A1 n1 c1) ∧ w'.cell? ⟨w.heap.size, 1, none⟩ = some (.slice A2 n2 c2) ∧ w'.cell? ⟨w.heap.size, 2, none⟩ = some (.slice A3 n3 c3) ∧ w'.cell? ⟨w.heap.size, 3, none⟩ = some (.slice (some ⟨q, off, none⟩) n4 c4) ∧ w'.cell? ⟨w.heap.size, 4, none⟩ = some (.slice A5 n5 c5))
              (first
                | with_reducible assumption
                | with_reducible exact HKP.out _ hbd
                | exact HKP.out _ (belowThen hbd bk))
              (first | (go_at_call 86; refine (HCX.out _ (‹Below wr.heap.size wr _ ∧ _›).1).mono ?_; rintro e wa ⟨rfl, bk⟩))
            have hall := ‹Below wr.heap.size wr _ ∧ _›
            have HB5 := Lib.hid hall.1
            clear hall f3
            go_wp2
            go_ret3
            exact ⟨ret3I HX.out, belowThen HBW.out (belowThen HBJ.out HB5.out)⟩
        · have HX : Hid ((p.thE, -1, -1) = r) := Lib.hid (by
            have h1 := (fnEnd (p := p) (l := p.funcs) (k := j) (by have : p.funcs.length = n4 := HL4.out; omega)).symm.trans HE.out
            have h2 := H6.out
            rw [← h1, if_neg (by simp)] at h2
            exact h2)
          go_wp2_with fail
          refine (HTH.out wr hbj).mono ?_
          rintro e w6 ⟨rfl, b6⟩
          go_wp2
          go_ret3
          exact ⟨ret3I HX.out, belowThen HBW.out (belowThen hbj b6)⟩
theorem rValidP {a : PgA} {p : Prg} (w : World) (hP : PgW w a p) (hW : p.Wf) (hsm : p.small = true) : Calls Tryz.prog 18 #[a.val] w fun e w' => e = .returned (.bool p.okB) ∧ Below w.heap.size w w' := by
  have HE : Hid (p.okB = decide (p.chk.1 = 0)) := Lib.hid rfl
  have HC := Lib.hid (fun X (hX : Below w.heap.size w X) => rCheckP X (hP.below hX) hW hsm)
  generalize p.okB = r at HE ⊢
  generalize p.chk = c at HE HC
  obtain ⟨x, y, z⟩ := c
  simp only [err3] at HC HE
  obtain ⟨A1, n1, c1, A2, n2, c2, A3, n3, c3, A4, n4, c4, A5, n5, c5⟩ := a
  simp only [PgA.val, PgA.fs] at *
  have hbW := belowAlloc w (.cells #[.slice A1 n1 c1, .slice A2 n2 c2, .slice A3 n3 c3, .slice A4 n4 c4, .slice A5 n5 c5] 43)
  have HB := Lib.hid hbW
  have HB0 := Lib.hid (Below.refl w.heap.size w)
  clear hP hW
  by_cases hx : x = 0
  · subst hx
    have HR := Lib.hid (show true = r by rw [HE.out]; rfl)
    clear HE
    go_enter Tryz.func18, Tryz.ntmps18
    go_wp2_with (go_at_call 39; refine (HC.out _ (by first | exact HB.out | exact HB0.out)).mono ?_; rintro e w2 ⟨rfl, b2⟩)
    go_ret
    exact ⟨retBl HR.out, by first | exact belowThen HB.out b2 | exact b2⟩
  · have HR := Lib.hid (show false = r by rw [HE.out, decide_eq_false hx])
    have hx0 : (x == 0) = false := by simpa using hx
    clear HE hx
    go_enter Tryz.func18, Tryz.ntmps18
    go_wp2_with (go_at_call 39; refine (HC.out _ (by first | exact HB.out | exact HB0.out)).mono ?_; rintro e w2 ⟨rfl, b2⟩)
    go_ret
    exact ⟨retBl HR.out, by first | exact belowThen HB.out b2 | exact b2⟩
end Go.Proofs.YtpkagpobobmnfaaGreatDoor

namespace Go.Proofs.YtpkagpobobmnfaaGreatDoor
open Go Go.RowKit

end Go.Proofs.YtpkagpobobmnfaaGreatDoor

namespace Go.Proofs.YtpkagpobobmnfaaGreatDoor
open Go Go.RowKit

end Go.Proofs.YtpkagpobobmnfaaGreatDoor

namespace Go.Proofs.YtpkagpobobmnfaaGreatDoor
open Go Go.RowKit

end Go.Proofs.YtpkagpobobmnfaaGreatDoor

namespace Go.Proofs.YtpkagpobobmnfaaGreatDoor
open Go Go.ChangeShapes Go.WideShapes Go.ChangeAt Go.RowKit Go.Deep Go.Joins

section
variable {H : Type} {enc : TypeId × Value → H} {W : World} {b0 : Nat}
end
end Go.Proofs.YtpkagpobobmnfaaGreatDoor
