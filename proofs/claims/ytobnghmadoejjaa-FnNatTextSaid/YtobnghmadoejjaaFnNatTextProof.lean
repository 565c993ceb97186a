/- For every code the law FnNatText returns true: the great number that it draws is read from its text as it was, and what is divided is made of quotient and rest. No condition. -/
import Derived.Test.YtobnghmadoejjaaRows
import Derived.WalkKit
import Derived.ProofKit
import Derived.OpenShut
import Derived.Test.YtobnghmadoejjaaNd
import Derived.Test.YtobnghmadoejjaaDv
import Derived.Test.YtobnghmadoejjaaSk
namespace Go.Proofs.Ytobnghmadoejjaa.fnNatText
open Go.ChangeShapes Go.WideShapes Go.ChangeAt Go.RowKit
set_option linter.unusedVariables false

theorem own : ownKnob Try.prog.godebug = none := by kernel_rfl
theorem laidOut : laidOutB Try.prog = true := by kernel_rfl


set_option maxHeartbeats 4000000 in
set_option maxRecDepth 100000 in
theorem walkIn (a0 : Option Addr) (len0 cap0 : Nat) (z0 : List Int) (w : World) (h0 : IsRow .u8 w a0 len0 cap0 z0) (hlen : len0 ≤ 1048576) :
    Calls Try.prog 4 #[.slice a0 len0 cap0] w fun e w' => e = .returned (.bool true) ∧ Below w.heap.size w w' := by
  have cb := big_any a0 len0 cap0 w (by omega)
  rw [decide_eq_false (by omega)] at cb
  go_enter Try.func4, Try.ntmps4
  go_wp2_with fail
  refine cb.mono ?_
  clear cb
  rintro e w0 ⟨rfl, rfl⟩
  go_wp2_with fail
  refine (drawDiv_any a0 len0 cap0 z0 _ h0 hlen).mono ?_
  rintro e w1 ⟨v1, xs, d, rfl, hx, r1, hd1, hd2, B⟩
  clear h0
  have HX : Hid (xs.length ≤ 140737488351232) := by show _ ≤ _; omega
  clear hx
  by_cases hok : okL xs
  · have HOK : Hid (okL xs) := hok
    have HOT : Hid (decide (okL xs) = true) := decide_eq_true hok
    have HTX : Hid (num xs < top) := okL_num_lt xs hok
    have HNL : Hid (xs = ans (some (num xs))) := nl_of hok
    clear hok
    by_cases hdd : 1 ≤ d ∧ d ≤ 16777215
    · obtain ⟨D, rfl⟩ := Int.eq_ofNat_of_zero_le (show 0 ≤ d by omega)
      have hD1 : 1 ≤ D := by omega
      have hD2 : D ≤ 16777215 := by omega
      have HDV : Hid ((divO xs (D : Int)).isSome = true) := by
        show _ = _
        unfold divO
        rw [if_pos ⟨HOK.out, by omega, by omega⟩]; rfl
      have hr : num xs % D < D := Nat.mod_lt _ (by omega)
      have HE : Hid (num xs / D * D + num xs % D = num xs) := by
        show _ = _
        rw [Nat.mul_comm]; exact Nat.div_add_mod _ _
      clear hdd hd1 hd2
      go_wp2_with fail
      refine (div_yes r1 HOK.out hD1 hD2).mono ?_
      rintro e W1 ⟨vq, rfl, rq, hb⟩
      replace r1 := r1.later hb
      replace B := B.trans (hb.mono B.size)
      clear hb
      go_wp2_with fail
      refine (sdiv r1 HX.out HDV.out).mono ?_
      rintro e W2 ⟨vw, rw1, rfl, hb⟩
      replace r1 := r1.later hb
      replace rq := rq.later hb
      replace B := B.trans (hb.mono B.size)
      clear hb
      go_wp2_with fail
      refine (implText_any _ _ _ r1 HX.out).mono ?_
      rintro e W3 ⟨rfl, hb⟩
      replace r1 := r1.later hb
      replace rq := rq.later hb
      replace B := B.trans (hb.mono B.size)
      clear hb
      go_wp2_with fail
      refine (from_text HOK.out _).mono ?_
      rintro e W4 ⟨vb, rfl, rb, hb⟩
      replace r1 := r1.later hb
      replace rq := rq.later hb
      replace B := B.trans (hb.mono B.size)
      clear hb
      have co := specOk_any _ _ _ r1 HX.out
      rw [HOT.out] at co
      go_wp2_with fail
      refine (co).mono ?_
      rintro e W5 ⟨rfl, rfl⟩
      clear co
      go_wp2_with fail
      refine (same_yes r1 rb rfl HX.out).mono ?_
      rintro e W6 ⟨rfl, hb⟩
      replace r1 := r1.later hb
      replace rq := rq.later hb
      replace rb := rb.later hb
      replace B := B.trans (hb.mono B.size)
      clear hb
      clear rb
      go_wp2_with fail
      refine (of_nl (n := D) (by omega)).mono ?_
      rintro e W7 ⟨vd, rfl, rd, hb⟩
      replace r1 := r1.later hb
      replace rq := rq.later hb
      replace B := B.trans (hb.mono B.size)
      clear hb
      have hrb : num xs % D ≤ 9223372036854775807 := by omega
      go_wp2_with fail
      refine (of_nl hrb).mono ?_
      rintro e W8 ⟨ve, rfl, re, hb⟩
      replace r1 := r1.later hb
      replace rq := rq.later hb
      replace rd := rd.later hb
      replace B := B.trans (hb.mono B.size)
      clear hb
      have HP : Hid (num xs / D * D < top) := by
        show _ < _
        have := HE.out
        have := HTX.out
        omega
      have HQ : Hid (num xs / D < top) := Nat.lt_of_le_of_lt (Nat.div_le_self _ _) HTX.out
      go_wp2_with fail
      refine (mul_yes rq rd HQ.out (by unfold top; omega) HP.out).mono ?_
      rintro e W9 ⟨vp, rfl, rp, hb⟩
      replace r1 := r1.later hb
      replace rq := rq.later hb
      replace rd := rd.later hb
      replace re := re.later hb
      replace B := B.trans (hb.mono B.size)
      clear hb
      go_wp2_with fail
      refine (add_yes rp re (by rw [HE.out]; exact HTX.out)).mono ?_
      rintro e W10 ⟨vs, rfl, rs, hb⟩
      replace r1 := r1.later hb
      replace rq := rq.later hb
      replace rd := rd.later hb
      replace re := re.later hb
      replace rp := rp.later hb
      replace B := B.trans (hb.mono B.size)
      clear hb
      rw [HE.out, ← HNL.out] at rs
      go_wp2_with fail
      refine (same_yes rs r1 rfl HX.out).mono ?_
      rintro e W11 ⟨rfl, hb⟩
      replace r1 := r1.later hb
      replace rq := rq.later hb
      replace rd := rd.later hb
      replace re := re.later hb
      replace rp := rp.later hb
      replace rs := rs.later hb
      replace B := B.trans (hb.mono B.size)
      clear hb
      go_wp2
      go_ret
      exact ⟨rfl, B⟩
    · have HDC : Hid (¬ divC xs d) := fun h => hdd ⟨h.2.1, h.2.2⟩
      have HDV : Hid ((divO xs d).isSome = false) := by
        show _ = _
        unfold divO
        rw [if_neg HDC.out]; rfl
      clear hdd
      go_wp2_with fail
      refine (div_no r1 HX.out HDC.out).mono ?_
      rintro e W1 ⟨vq, rr, rfl, hb⟩
      replace r1 := r1.later hb
      replace B := B.trans (hb.mono B.size)
      clear hb
      go_wp2_with fail
      refine (sdiv r1 HX.out HDV.out).mono ?_
      rintro e W2 ⟨vw, rw1, rfl, hb⟩
      replace r1 := r1.later hb
      replace B := B.trans (hb.mono B.size)
      clear hb
      go_wp2_with fail
      refine (implText_any _ _ _ r1 HX.out).mono ?_
      rintro e W3 ⟨rfl, hb⟩
      replace r1 := r1.later hb
      replace B := B.trans (hb.mono B.size)
      clear hb
      go_wp2_with fail
      refine (from_text HOK.out _).mono ?_
      rintro e W4 ⟨vb, rfl, rb, hb⟩
      replace r1 := r1.later hb
      replace B := B.trans (hb.mono B.size)
      clear hb
      have co := specOk_any _ _ _ r1 HX.out
      rw [HOT.out] at co
      go_wp2_with fail
      refine (co).mono ?_
      rintro e W5 ⟨rfl, rfl⟩
      clear co
      go_wp2_with fail
      refine (same_yes r1 rb rfl HX.out).mono ?_
      rintro e W6 ⟨rfl, hb⟩
      replace r1 := r1.later hb
      replace rb := rb.later hb
      replace B := B.trans (hb.mono B.size)
      clear hb
      clear rb
      go_wp2
      go_ret
      exact ⟨rfl, B⟩
  · have HOK : Hid (¬ okL xs) := hok
    have HOT : Hid (decide (okL xs) = false) := decide_eq_false hok
    have HDC : Hid (¬ divC xs d) := fun h => hok h.1
    have HDV : Hid ((divO xs d).isSome = false) := by
      show _ = _
      unfold divO
      rw [if_neg HDC.out]; rfl
    clear hok
    go_wp2_with fail
    refine (div_no r1 HX.out HDC.out).mono ?_
    rintro e W1 ⟨vq, rr, rfl, hb⟩
    replace r1 := r1.later hb
    replace B := B.trans (hb.mono B.size)
    clear hb
    go_wp2_with fail
    refine (sdiv r1 HX.out HDV.out).mono ?_
    rintro e W2 ⟨vw, rw1, rfl, hb⟩
    replace r1 := r1.later hb
    replace B := B.trans (hb.mono B.size)
    clear hb
    go_wp2_with fail
    refine (implText_any _ _ _ r1 HX.out).mono ?_
    rintro e W3 ⟨rfl, hb⟩
    replace r1 := r1.later hb
    replace B := B.trans (hb.mono B.size)
    clear hb
    go_wp2_with fail
    refine (from_none HOK.out _).mono ?_
    rintro e W4 ⟨vb, rfl, hb⟩
    replace r1 := r1.later hb
    replace B := B.trans (hb.mono B.size)
    clear hb
    have co := specOk_any _ _ _ r1 HX.out
    rw [HOT.out] at co
    go_wp2_with fail
    refine (co).mono ?_
    rintro e W5 ⟨rfl, rfl⟩
    clear co
    go_wp2
    go_ret
    exact ⟨rfl, B⟩

set_option maxRecDepth 100000 in
theorem walk (a0 : Option Addr) (len0 cap0 : Nat) (z0 : List Int) (w : World) (h0 : IsRow .u8 w a0 len0 cap0 z0) :
    Calls Try.prog 4 #[.slice a0 len0 cap0] w fun e w' => e = .returned (.bool true) ∧ Below w.heap.size w w' := by
  by_cases hlen : len0 ≤ 1048576
  · exact walkIn a0 len0 cap0 z0 w h0 hlen
  · have cb := big_any a0 len0 cap0 w h0.le
    rw [decide_eq_true (by omega)] at cb
    clear h0
    go_enter Try.func4, Try.ntmps4
    go_wp2_with (go_at_call 5; refine cb.mono ?_; clear cb; rintro e w' ⟨rfl, rfl⟩)
    go_ret
    exact ⟨rfl, Below.refl _ _⟩

/-! ### THE ROW's STEP -/
set_option maxRecDepth 100000 in
theorem lifted (os : Os) (started : os.Started) (H : Type) (enc : TypeId × Value → H) :
    ReturnsInHanded {} Try.checked os 4 .any (Rows.fnNatTextSpec.pre6 enc Try.prog Try.f4 Rows.fnNatTextRow.domain false) (Rows.fnNatTextSpec.post enc Try.prog Try.f4 false true false false) := by
  refine returnsInHanded_of_change (C := Try.checked) own started (by kernel_rfl) Try.func4
    (ChangeSpec.witness6 (enc := enc) (C := Try.checked) false ⟨#[], #[.slice none 0 0], []⟩ 8 (by kernel_rfl) (by kernel_rfl) (by kernel_rfl) (by kernel_rfl)) ?_
  intro W base args ds gs before hval0 hW hcnd _
  have hval : ∀ (j : Nat) t v, Try.f4.params[j]? = some t → args[j]? = some v → Value.okWide Try.prog W .any base t v := hval0
  have hW' := hW
  obtain ⟨p, q, hA0, hV, rfl, hfz, hnd⟩ := hW
  have hA : DataW.TrodAll enc Try.prog W 0 (fun _ => true) true Try.f4.params.toList args.toList ds p := hA0
  rw [Try.params4] at hA hval
  obtain ⟨v0, vs0, d0, ds0, p0, q0, hargs, rfl, rfl, h0, r0⟩ := trodAll_cons hA
  obtain ⟨rfl, rfl, rfl⟩ := trodAll_nil r0
  obtain rfl : args = #[v0] := by cases args; simp_all
  obtain ⟨rfl, rfl⟩ := trodVars_none hV
  obtain ⟨a0, len0, cap0, rfl⟩ := okWide_slice Try.underlying22 (hval 0 22 v0 rfl rfl)
  have k0 := h0
  have lt0 : ∀ x ∈ p0, x.block < W.heap.size := by obtain ⟨m, hm⟩ := k0; exact DataW.trod_lt m _ _ _ hm
  obtain ⟨z0, w0⟩ : ∃ zs, IsRow .u8 W a0 len0 cap0 zs := by
    obtain ⟨fuel, hf⟩ := h0
    rcases open_ints Try.underlying22 Try.underlying5 (by kernel_rfl) hf with ⟨hcs, _⟩ | ⟨x, l, c, zs, hcs, _, hl, hm, hz, _, hcell, hwz⟩
    · simp [Value.cells] at hcs
      obtain ⟨rfl, rfl, rfl⟩ := hcs
      exact ⟨[], .inl ⟨rfl, rfl, rfl, rfl⟩⟩
    · simp [Value.cells] at hcs
      obtain ⟨rfl, rfl, rfl⟩ := hcs
      exact ⟨zs, .inr ⟨_, rfl, hl, hm, by simpa using hz, hcell, hwz⟩⟩
  clear hA0 hval0
  refine (walk a0 len0 cap0 z0 W w0).mono fun e W' ⟨he, bel⟩ => ?_
  subst he
  exact ⟨_, rfl, _, _, _, [], _, [], hW', trodAll_mk1 (shut_bool Try.underlying4 _), (trodAll_cons_mk (Below.trod laidOut (by kernel_rfl) (of_decide_eq_true (by kernel_rfl)) k0 bel lt0) trodAll_mk0), rfl, bel.frame _, fun h => by cases h⟩

theorem over : Rows.fnNatTextRow.holds Try.pinned (OpenSpec.ofChange Rows.fnNatTextSpec) :=
  OpenClaim.holds_of_wide 4 Try.f4 rfl rfl rfl rfl rfl rfl rfl ⟨rfl, rfl, rfl, rfl, rfl⟩ rfl rfl rfl rfl rfl (by kernel_rfl) Try.func4 (by kernel_rfl)
    (of_decide_eq_true (by kernel_rfl)) (by unfold Func.isWrapper; first | (rw [if_pos (by decide +kernel)]; kernel_rfl) | (rw [if_neg (by decide +kernel)]; exact ⟨rfl, rfl⟩))
    (fun os started H enc _ => lifted os started H enc)

theorem proved : Rows.FnNatTextSaid :=
  over
end Go.Proofs.Ytobnghmadoejjaa.fnNatText
namespace Go.Proofs.Ytobnghmadoejjaa
theorem fnNatText_holds : Rows.FnNatTextSaid := fnNatText.proved
#print axioms fnNatText_holds
end Go.Proofs.Ytobnghmadoejjaa
