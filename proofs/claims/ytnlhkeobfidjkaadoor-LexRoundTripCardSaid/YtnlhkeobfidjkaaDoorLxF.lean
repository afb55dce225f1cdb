/-
  The specification's Alike where it is true; the text that Join returns is scanned back.
-/
import Derived.Test.YtnlhkeobfidjkaaDoorLxK
import Derived.BigQuiet
namespace Go.Proofs.YtnlhkeobfidjkaaDoor
open Go Go.RowKit

theorem alikeAt {l m : List Tok} (h : alike l m) {i : Nat} (hi : i < l.length) (hj : i < m.length) : m[i].kind = l[i].kind ∧ m[i].text = l[i].text ∧ m[i].n = l[i].n := by
  have h1 := congrArg (fun x => x[i]?) h
  simp only [List.getElem?_map, List.getElem?_eq_getElem hi, List.getElem?_eq_getElem hj, Option.map_some, Option.some.injEq, key, Prod.mk.injEq] at h1
  exact ⟨h1.1.symm, h1.2.1.symm, h1.2.2.symm⟩
theorem sepLast (l1 : List Tok) (t : Tok) (r : List Tok) : sepL (l1 ++ t :: r) l1.length = sepT l1.getLast? t := by
  rcases List.eq_nil_or_concat l1 with rfl | ⟨l0, q, rfl⟩
  · rfl
  · have e1 : (l0.concat q ++ t :: r)[l0.length]? = some q := by simp
    have e2 : (l0.concat q ++ t :: r)[l0.length + 1]? = some t := by simp
    have e3 : (l0.concat q).length = l0.length + 1 := by simp
    rw [e3, sepL]
    simp only [e1, e2, Option.map_some, Option.some.injEq]
    have e4 : (l0.concat q).getLast? = some q := by simp
    rw [e4]; rfl
theorem catJn : ∀ (l2 l1 : List Tok), cat (l1 ++ l2) (l1.length + l2.length) = cat (l1 ++ l2) l1.length ++ jn l1.getLast? l2
  | [], l1 => by simp [jn]
  | t :: r, l1 => by
    have h := catJn r (l1 ++ [t])
    rw [List.append_assoc, List.singleton_append] at h
    have e1 : (l1 ++ [t]).length = l1.length + 1 := by simp
    have e2 : (l1 ++ [t]).getLast? = some t := by simp
    rw [e1, e2] at h
    rw [List.length_cons, show l1.length + (r.length + 1) = l1.length + 1 + r.length by omega, h, catNext (k := l1.length) (by simp), sepLast, jn]
    have e3 : (l1 ++ t :: r)[l1.length]'(by simp) = t := by simp
    rw [e3]
    simp only [List.append_assoc]
theorem catAll (l : List Tok) : cat l l.length = jn none l := by
  have := catJn l []
  simpa [cat] using this
set_option maxRecDepth 100000 in
set_option maxHeartbeats 8000000 in
theorem rAlike (l m : List Tok) (n : Nat) (hn : l.length = n) (hm : m.length = n) (h : alike l m) (A B : Option Addr) (c d : Nat) (w : World) (hr : Rk w A c l) (hs : Rk w B d m) :
    Calls Tryd.prog 16 #[.slice A n c, .slice B n d] w fun e w' => e = .returned (.bool true) ∧ Below w.heap.size w w' := by
  have HN := Lib.hid hn
  have HM := Lib.hid hm
  have HA := Lib.hid h
  have HR := Lib.hid (fun X (hX : Below w.heap.size w X) => hr.below hX)
  have HS := Lib.hid (fun X (hX : Below w.heap.size w X) => hs.below hX)
  have HDN := Lib.hid (fun X (hX : Below w.heap.size w X) nq => belowDrewN hX nq)
  have hnb : n ≤ 9223372036854775807 := by
    have h1 := hr.le
    have h2 := leMaxK hr.max
    omega
  clear hn hm h hr hs
  go_enter Tryd.func16, Tryd.ntmps16
  go_wp2
  go_loopw [5] (fun vk wr => ∃ k : Nat, k ≤ n ∧ vk = .int .i64 k ∧ Below w.heap.size w wr) (fun i _ => n - (intOf i).toNat)
  case atStart => exact ⟨0, Nat.zero_le _, rfl, Below.refl _ _⟩
  case round =>
    obtain ⟨k, hk, rfl, hb⟩ := hrel
    by_cases hkn : k < n
    · have h1 : k < l.length := by rw [HN.out]; exact hkn
      have h2 : k < m.length := by rw [HM.out]; exact hkn
      obtain ⟨g, o, rfl, _, x0, x1, x2, x3⟩ := (HR.out wr hb).one h1
      obtain ⟨g', o', rfl, _, y0, y1, y2, y3⟩ := (HS.out wr hb).one h2
      obtain ⟨a1, a2, a3⟩ := alikeAt HA.out h1 h2
      rw [a1] at y0
      rw [a2] at y1
      rw [a3] at y2
      clear a1 a2 a3 x3 y3
      generalize l[k].kind = K at x0 y0
      generalize bs l[k].text = s at x1 y1
      generalize l[k].n = V at x2 y2
      have k0 : (0 : Int) ≤ k := by omega
      have k1 : (k : Int) < n := by omega
      clear h1 h2
      go_wp2_with fail
      go_quiet (fail)
      go_wp2
      go_roundw
      case rel => exact ⟨k + 1, by omega, by go_num, HDN.out _ hb _⟩
      case measure => simp [intOf]; omega
    · go_wp2
      go_ret
      exact ⟨rfl, hb⟩
end Go.Proofs.YtnlhkeobfidjkaaDoor
