/-
  The contracts of String and of the reference's AppendString, String.
-/
import Derived.Test.YtcbipokohjajoaaFLst3
import Derived.Test.YtcbipokohjajoaaFSame
import Derived.Lib.AppendStr
import Derived.Deep.RegionWith
import Derived.Deep.RegionLaw
import Derived.ChangeAlike
namespace Go.Proofs.Ytcbipokohjajoaa
open Go.RowKit

/-- The call returns a string, bytes and an error. -/
def GivesS (s r : List UInt8) (err : Nat) (w : World) (e : Ending) (w' : World) : Prop := ∃ B q d, e = .returned (.tuple #[.string ⟨s.toArray⟩, .slice B q d, .int .i64 err]) ∧ Hid (r.length = q) ∧ Rb w' B d r ∧ Below w.heap.size w w'
theorem iJoin1W (l : List UInt8) (n : Nat) (hn : l.length = n) (hs : n ≤ 400000) (A D : Option Addr) (c : Nat) (w : World) (h1 : Rds w D 1 [.slice A n c]) (ha : Rb w A c l) :
    Calls Try.prog 36 #[.slice D 1 1] w (GivesO l w) := by
  subst hn
  have h := iJoin [l] [.slice A l.length c] 1 rfl (by simp; omega) (by omega) D 1 w h1 ⟨⟨A, c, rfl, ha⟩, trivial⟩
  simpa using h
theorem Rb.drew {w : World} {A : Option Addr} {c : Nat} {l : List UInt8} (h : Rb w A c l) : Rb w.drew A c l := Rds.drew h
theorem strTNo {l : List UInt8} {most : Int} (h : errT l most ≠ 0) : strT l most = [] ∧ resT l most = [] := by unfold strT resT; rw [if_neg h, if_neg h]; exact ⟨rfl, rfl⟩
theorem strTOk {l : List UInt8} {most : Int} (h : errT l most = 0) : strT l most = (resU l).take (valU l) ∧ resT l most = (resU l).drop (valU l) := by unfold strT resT; rw [if_pos h, if_pos h]; exact ⟨rfl, rfl⟩
theorem errTD {l : List UInt8} {most : Int} (h : errD l most ≠ 0) : errT l most = errD l most := by unfold errT; rw [if_pos h]
theorem errTS {l : List UInt8} {most : Int} (h : errD l most = 0) (h2 : (resU l).length < valU l) : errT l most = 22 := by unfold errT; rw [if_neg (by omega), if_pos h2]
theorem errTO {l : List UInt8} {most : Int} (h : errD l most = 0) (h2 : ¬ (resU l).length < valU l) : errT l most = 0 := by unfold errT; rw [if_neg (by omega), if_neg h2]
theorem cutH (A : Option Addr) (n c k : Nat) (hk : k ≤ c) (kz : Int) (hz : kz = (k : Int)) (W : World) : (Instr.sliceAt 22 (.slice A n c) none (some (.int .i64 kz)) none).run Try.prog W = .ok (.slice A k c) W := by
  subst hz
  rw [run_sliceAt_slice (h := Try.underlying22), run_slice_h (ht := Try.underlying22) (h0 := by omega) (h2 := by omega), sizeB W]
  simp [Result.andThen, sliced]
  intro _
  cases A <;> rfl
set_option maxRecDepth 100000 in
set_option maxHeartbeats 1000000 in
theorem iStr (l : List UInt8) (most : Int) (n : Nat) (hn : l.length = n) (hs : n ≤ 300000) (A : Option Addr) (c : Nat) (w : World) (ha : Rb w A c l) :
    Calls Try.prog 22 #[.slice A n c, .int .i64 most] w (GivesS (strT l most) (resT l most) (errT l most) w) := by
  have HD := Lib.hid (iDecL l most n hn A c w ha); clear ha
  have hrl := resLenLe l
  rw [hn] at hrl
  clear hn
  by_cases h : errD l most = 0
  · by_cases h2 : (resU l).length < valU l
    · have h3 := errTS h h2
      have h4 := strTNo (l := l) (most := most) (by rw [h3]; decide)
      rw [h3, h4.1, h4.2]
      rw [h] at HD
      have H2 := Lib.hid h2
      clear h h2 h3 h4
      go_enter Try.func22, Try.ntmps22
      go_wp2_with fail
      refine HD.out.mono ?_
      rintro e w1 ⟨V, B, q, d, rfl, hX, b1⟩
      obtain ⟨hv, hq, r1, _⟩ := hX rfl
      have hqv : q < V := by rw [← hq, hv]; exact H2.out
      clear hX hv hq
      go_wp2
      go_ret3
      exact ⟨none, 0, 0, rfl, Lib.hid rfl, Rb.nil, b1⟩
    · have h3 := errTO h h2
      have h4 := strTOk (l := l) (most := most) h3
      rw [h3, h4.1, h4.2]
      rw [h] at HD
      have H2 := Lib.hid h2
      clear h h2 h3 h4
      go_enter Try.func22, Try.ntmps22
      go_wp2_with fail
      refine HD.out.mono ?_
      rintro e w1 ⟨V, B, q, d, rfl, hX, b1⟩
      obtain ⟨hv, hq, r1, _⟩ := hX rfl
      subst hv
      obtain ⟨V, hV⟩ : ∃ V, valU l = V := ⟨_, rfl⟩
      obtain ⟨R, hR⟩ : ∃ R, resU l = R := ⟨_, rfl⟩
      rw [hV, hR] at H2
      rw [hV]
      rw [hR] at hq r1 hrl
      have hqv : V ≤ q := by have := H2.out; omega
      have hqd := r1.le
      have hdm := r1.max
      unfold maxLen at hdm
      rw [hq] at hqd hrl
      have rT := r1.take V (by omega)
      have rD := tailRb r1 (k := V) (by omega)
      have hcut := cutB B q d V hqv V rfl
      have hcut2 := cutH B q d V (by omega) V rfl
      obtain ⟨T, hT⟩ : ∃ T, tailA B d V = T := ⟨_, rfl⟩
      rw [hT] at rD hcut
      have hTl : (R.take V).length = V := by rw [List.length_take]; omega
      have hDl : (R.drop V).length = q - V := by rw [List.length_drop, hq]
      obtain ⟨S1, hS1⟩ : ∃ S1, R.take V = S1 := ⟨_, rfl⟩
      obtain ⟨S2, hS2⟩ : ∃ S2, R.drop V = S2 := ⟨_, rfl⟩
      rw [hS1] at rT hTl
      rw [hS2] at rD hDl
      have HSS := Lib.hid (show (resU l).take (valU l) = S1 ∧ (resU l).drop (valU l) = S2 by rw [hV, hR]; exact ⟨hS1, hS2⟩)
      have hc1 := convB rT.drew hTl
      have hc2 : ∀ o : Obj, (convert 22 9 (.slice B V d)).run Try.prog (w1.alloc o).drew = .ok (.string ⟨S1.toArray⟩) (w1.alloc o).drew := fun o => convB (rT.alloc o).drew hTl
      have RT := Lib.hid rT
      have RD := Lib.hid rD
      have HTL := Lib.hid hTl
      have HDL := Lib.hid hDl
      have B1 := Lib.hid b1
      clear hT hS1 hS2 rT rD hTl hDl hV hR hq hX r1 HD b1
      go_wp2
      go_region_with (go_at_call 36; refine (iJoin1W S2 (q - V) HDL.out (by omega) T _ (d - V) _ (Rds.lit w1 [.slice T (q - V) (d - V)] 22 (by simp [maxLen])).drew (RD.out.alloc _).drew).mono ?_; rintro e w2 ⟨D, j, f, rfl, hj, o2, b2⟩; have hc3 := convB ((RT.out.alloc _).drew.below b2) HTL.out)
      all_goals
        have b3 := belowThen B1.out (belowThen (((belowAlloc w1 _).drew)) b2)
        go_wp2
        go_ret3
        rw [HSS.out.1, HSS.out.2]
        exact ⟨D, j, f, rfl, hj, o2.rb.1, b3⟩
  · have h3 := errTD h
    have h4 := strTNo (l := l) (most := most) (by rw [h3]; exact h)
    rw [h3, h4.1, h4.2]
    obtain ⟨E, hE⟩ : ∃ E, errD l most = E := ⟨_, rfl⟩
    rw [hE] at HD h ⊢
    have hE0 : ((E : Int) != 0) = true := by simp; omega
    clear h3 h4 hE h
    go_enter Try.func22, Try.ntmps22
    go_wp2_with fail
    refine HD.out.mono ?_
    rintro e w1 ⟨V, B, q, d, rfl, hX, b1⟩
    go_wp2
    go_ret3
    exact ⟨none, 0, 0, rfl, Lib.hid rfl, Rb.nil, b1⟩
/-- append of bytes as a step of a region that draws its order. -/
theorem stepB (w : World) {ops : Array Oper} {o : Oper} {a : Act} {K : Act → World → Prop} {Q : Exit → Act → World → Prop} {E : Prop} (hgd : o.guard = none) (s x : Operand)
    (ho : o.op = .call { callee := .builtin .append, args := #[s, x], argTypes := #[22, 22] })
    (base : Nat) (v : Value) (l : List UInt8) (hs : a.eval s = v) (hown : OwnB w base v l)
    (A : Option Addr) (m c : Nat) (news : List UInt8) (hx : a.eval x = .slice A m c) (hm : m = news.length) (hr : Rb w A c news)
    (hb : l.length + news.length ≤ 1000000) (hbase : base ≤ w.heap.size)
    (h : ∀ v' w', OwnB w' base v' (l ++ news) → Below base w w' → K (a.put o.dst v') w') :
    if Region.wanted o (yielded ops a.tmps) = true then Oper.wp Try.prog o a w K Q else E := by
  obtain ⟨i0, hi, hz0, hz1, hz2⟩ := info_parts infoB
  refine stepApp w hgd s x 22 ho base 5 i0 _ 1 Try.underlying22 hi hz0 hz1 hz2 rfl v l.length (bv l) hs hown A m c (bv news) hx (by simpa using hm) hr (bvOne _) (by omega) (by unfold maxLen; omega) hbase fun v' w' h1 _ h3 _ => h v' w' ?_ ?_
  · unfold OwnB bv
    rw [List.length_append, List.map_append, ← hm]
    exact h1
  · exact (Below.refl base w).grown h3 hbase fun k hk => (World.ownsRow.lt hown k hk).1
theorem OwnB.drew {w : World} {base : Nat} {v : Value} {l : List UInt8} (h : OwnB w base v l) : OwnB w.drew base v l := h
end Go.Proofs.Ytcbipokohjajoaa
