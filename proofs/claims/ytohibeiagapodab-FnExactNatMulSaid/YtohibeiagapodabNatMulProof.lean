/- For every two lists of integers the exact law of NatMul returns true: the program answers the product that the specification answers, or none, both lists are left as they were, the answer is new memory and a second call gives it anew. No condition. -/
import Derived.Test.YtohibeiagapodabRows
import Derived.WalkKit
import Derived.ProofKit
import Derived.OpenShut
import Derived.Test.YtohibeiagapodabFm
import Derived.Test.YtohibeiagapodabSu
import Derived.Test.YtohibeiagapodabIt
import Derived.Test.YtohibeiagapodabIm
namespace Go.Proofs.Ytohibeiagapodab.fnExactNatMul
open Go.ChangeShapes Go.WideShapes Go.ChangeAt Go.RowKit
set_option linter.unusedVariables false

theorem own : ownKnob Try.prog.godebug = none := by kernel_rfl
theorem laidOut : laidOutB Try.prog = true := by kernel_rfl


theorem ans_len (zs ys : List Int) : (ans (mulO zs ys)).length ≤ 16 := by
  unfold mulO
  split
  · next h =>
    show (up (digs _)).length ≤ 16
    rw [up_len]
    exact (digs_len 16 _).2 (h.2.2)
  · simp [ans]

set_option maxHeartbeats 3200000 in
theorem walkIn (a0 : Option Addr) (len0 cap0 : Nat) (z0 : List Int) (a1 : Option Addr) (len1 cap1 : Nat) (z1 : List Int) (w : World) (h0 : IsRow .i64 w a0 len0 cap0 z0) (h1 : IsRow .i64 w a1 len1 cap1 z1) (hlen0 : len0 ≤ 1048576) (hlen1 : len1 ≤ 1048576) :
    Calls Try.prog 4 #[.slice a0 len0 cap0, .slice a1 len1 cap1] w fun e w' => e = .returned (.bool true) ∧ Below w.heap.size w w' := by
  have T0 := fun wx (hx : Below w.heap.size w wx) => toI_any a0 len0 cap0 z0 wx (h0.later hx) hlen0
  have T1 := fun wx (hx : Below w.heap.size w wx) => toI_any a1 len1 cap1 z1 wx (h1.later hx) hlen1
  have hl0 := h0.len
  have hl1 := h1.len
  generalize z0.take len0 = zs at T0 hl0
  generalize z1.take len1 = ys at T1 hl1
  have HL0 : Hid (zs.length = len0) := hl0
  have HL1 : Hid (ys.length = len1) := hl1
  have HT0 := T0
  have HT1 := T1
  clear h0 h1 hl0 hl1 T0 T1
  have hans := ans_len zs ys
  have S := fun W v1 v2 (x : RowI W v1 zs) (y : RowI W v2 ys) => specMul_any v1 v2 zs ys W x y (by rw [HL0.out]; omega) (by rw [HL1.out]; omega)
  have I := fun W v1 v2 (x : RowI W v1 zs) (y : RowI W v2 ys) => implNatMul_any v1 v2 zs ys W x y (by rw [HL0.out]; omega) (by rw [HL1.out]; omega)
  generalize mulO zs ys = r at S I hans
  have HS := S
  have HI := I
  clear S I
  go_enter Try.func4, Try.ntmps4
  go_wp2_with fail
  refine (HT0 _ (Below.refl _ _)).mono ?_
  rintro e w1 ⟨g1, rfl, ho1, hb1⟩
  have hs1 := hb1.size
  go_wp2_with fail
  refine (HT1 _ hb1).mono ?_
  rintro e w2 ⟨g2, rfl, ho2, hb2⟩
  have hs2 := hb2.size
  have ho1 := own_below ho1 hb2
  have b2 : Below w.heap.size w w2 := hb1.trans (hb2.mono hs1)
  go_wp2_with fail
  refine (HS w2 _ _ (RowI.of_own ho1 HL0.out) (RowI.of_own ho2 HL1.out)).mono ?_
  rintro e w3 ⟨v0, rfl, hv0, hb3⟩
  clear ho1 ho2
  have hlt0 := fun k hk => (hv0.lt k hk).2
  have hs3 := hb3.size
  have b3 : Below w.heap.size w w3 := b2.trans (hb3.mono (by omega))
  go_wp2_with fail
  refine (HT0 _ b3).mono ?_
  rintro e w4 ⟨g4, rfl, ho4, hb4⟩
  have hlt4 := fun k hk => (ho4.lt k hk).2
  have hs4 := hb4.size
  have hv0 := own_below hv0 hb4
  have b4 : Below w.heap.size w w4 := b3.trans (hb4.mono (by omega))
  go_wp2_with fail
  refine (HT1 _ b4).mono ?_
  rintro e w5 ⟨g5, rfl, ho5, hb5⟩
  have hlt5 := fun k hk => (ho5.lt k hk).2
  have hs5 := hb5.size
  have hv0 := own_below hv0 hb5
  have ho4 := own_below ho4 hb5
  have b5 : Below w.heap.size w w5 := b4.trans (hb5.mono (by omega))
  go_wp2_with fail
  refine (HI w5 _ _ (RowI.of_own ho4 HL0.out) (RowI.of_own ho5 HL1.out)).mono ?_
  rintro e w6 ⟨v1, rfl, hv1, hb6⟩
  have hs6 := hb6.size
  have hv0 := own_below hv0 hb6
  have ho4 := own_below ho4 hb6
  have ho5 := own_below ho5 hb6
  have b6 : Below w.heap.size w w6 := b5.trans (hb6.mono (by omega))
  go_wp2_with fail
  refine (eqI_at rfl (by omega) hv1 hv0).mono ?_
  rintro e w7 ⟨rfl, hb7⟩
  have hs7 := hb7.size
  have hv0 := own_below hv0 hb7
  have hv1 := own_below hv1 hb7
  have ho4 := own_below ho4 hb7
  have ho5 := own_below ho5 hb7
  have b7 : Below w.heap.size w w7 := b6.trans (hb7.mono (by omega))
  go_wp2_with fail
  refine (HT0 _ b7).mono ?_
  rintro e w8 ⟨g8, rfl, ho8, hb8⟩
  have hs8 := hb8.size
  have hv0 := own_below hv0 hb8
  have hv1 := own_below hv1 hb8
  have ho4 := own_below ho4 hb8
  have ho5 := own_below ho5 hb8
  have b8 : Below w.heap.size w w8 := b7.trans (hb8.mono (by omega))
  go_wp2_with fail
  refine (eqI_at HL0.out (by omega) ho4 ho8).mono ?_
  rintro e w9 ⟨rfl, hb9⟩
  clear ho8
  have hs9 := hb9.size
  have hv0 := own_below hv0 hb9
  have hv1 := own_below hv1 hb9
  have ho4 := own_below ho4 hb9
  have ho5 := own_below ho5 hb9
  have b9 : Below w.heap.size w w9 := b8.trans (hb9.mono (by omega))
  go_wp2_with fail
  refine (HT1 _ b9).mono ?_
  rintro e w10 ⟨g10, rfl, ho10, hb10⟩
  have hs10 := hb10.size
  have hv0 := own_below hv0 hb10
  have hv1 := own_below hv1 hb10
  have ho4 := own_below ho4 hb10
  have ho5 := own_below ho5 hb10
  have b10 : Below w.heap.size w w10 := b9.trans (hb10.mono (by omega))
  go_wp2_with fail
  refine (eqI_at HL1.out (by omega) ho5 ho10).mono ?_
  rintro e w11 ⟨rfl, hb11⟩
  clear ho10
  have hs11 := hb11.size
  have hv0 := own_below hv0 hb11
  have hv1 := own_below hv1 hb11
  have ho4 := own_below ho4 hb11
  have ho5 := own_below ho5 hb11
  have b11 : Below w.heap.size w w11 := b10.trans (hb11.mono (by omega))
  go_wp2_with fail
  refine (markI_any _ _ _ 1 _ _ (by omega) (by omega) (by omega) ho4).mono ?_
  rintro e w12 ⟨rfl, _, hg12⟩
  have hs12 := hg12.size
  have hv0 := hv0.kept hg12 (apart' hv0 ho4 hlt0)
  have hv1 := hv1.kept hg12 (apart2 hv1 ho4 hlt4)
  have ho5 := ho5.kept hg12 (apart2 ho5 ho4 hlt4)
  have b12 : Below w.heap.size w w12 := b11.grown hg12 (by omega) (fun k hk => by have := (ho4.lt k hk).1; omega)
  clear ho4
  go_wp2_with fail
  refine (markI_any _ _ _ _ _ _ (by omega) (by omega) (by omega) ho5).mono ?_
  rintro e w13 ⟨rfl, _, hg13⟩
  have hs13 := hg13.size
  have hv0 := hv0.kept hg13 (apart' hv0 ho5 hlt0)
  have hv1 := hv1.kept hg13 (apart2 hv1 ho5 hlt5)
  have b13 : Below w.heap.size w w13 := b12.grown hg13 (by omega) (fun k hk => by have := (ho5.lt k hk).1; omega)
  clear ho5
  go_wp2_with fail
  refine (eqI_at rfl (by omega) hv1 hv0).mono ?_
  rintro e w14 ⟨rfl, hb14⟩
  have hs14 := hb14.size
  have hv0 := own_below hv0 hb14
  have hv1 := own_below hv1 hb14
  have b14 : Below w.heap.size w w14 := b13.trans (hb14.mono (by omega))
  go_wp2_with fail
  refine (markI_any _ _ v1 1 _ _ (by omega) (by omega) (by omega) hv1).mono ?_
  rintro e w15 ⟨rfl, ⟨xs, hv1', hxs⟩, hg15⟩
  have hs15 := hg15.size
  have hv0 := hv0.kept hg15 (apart' hv0 hv1 hlt0)
  have b15 : Below w.heap.size w w15 := b14.grown hg15 (by omega) (fun k hk => by have := (hv1.lt k hk).1; omega)
  go_wp2_with fail
  refine (heldI_any _ _ v1 1 xs _ (by omega) (by omega) (by omega) hv1' hxs).mono ?_
  rintro e w16 ⟨rfl, rfl⟩
  go_wp2_with fail
  refine (HT0 _ b15).mono ?_
  rintro e w17 ⟨g17, rfl, ho17, hb17⟩
  have hs17 := hb17.size
  have hv0 := own_below hv0 hb17
  have hv1' := own_below hv1' hb17
  have b17 : Below w.heap.size w w17 := b15.trans (hb17.mono (by omega))
  go_wp2_with fail
  refine (HT1 _ b17).mono ?_
  rintro e w18 ⟨g18, rfl, ho18, hb18⟩
  have hs18 := hb18.size
  have hv0 := own_below hv0 hb18
  have hv1' := own_below hv1' hb18
  have ho17 := own_below ho17 hb18
  have b18 : Below w.heap.size w w18 := b17.trans (hb18.mono (by omega))
  go_wp2_with fail
  refine (HI w18 _ _ (RowI.of_own ho17 HL0.out) (RowI.of_own ho18 HL1.out)).mono ?_
  rintro e w19 ⟨v2, rfl, hv2, hb19⟩
  have hs19 := hb19.size
  have hv0 := own_below hv0 hb19
  have hv1' := own_below hv1' hb19
  have b19 : Below w.heap.size w w19 := b18.trans (hb19.mono (by omega))
  go_wp2_with fail
  refine (eqI_at rfl (by omega) hv2 hv0).mono ?_
  rintro e w20 ⟨rfl, hb20⟩
  have hs20 := hb20.size
  have hv1' := own_below hv1' hb20
  have b20 : Below w.heap.size w w20 := b19.trans (hb20.mono (by omega))
  go_wp2_with fail
  refine (heldI_any _ _ v1 1 xs _ (by omega) (by omega) (by omega) hv1' hxs).mono ?_
  rintro e w21 ⟨rfl, rfl⟩
  go_wp2
  go_ret
  exact ⟨rfl, b20⟩

theorem walk (a0 : Option Addr) (len0 cap0 : Nat) (z0 : List Int) (a1 : Option Addr) (len1 cap1 : Nat) (z1 : List Int) (w : World) (h0 : IsRow .i64 w a0 len0 cap0 z0) (h1 : IsRow .i64 w a1 len1 cap1 z1) :
    Calls Try.prog 4 #[.slice a0 len0 cap0, .slice a1 len1 cap1] w fun e w' => e = .returned (.bool true) ∧ Below w.heap.size w w' := by
  by_cases hlen0 : len0 ≤ 1048576
  · by_cases hlen1 : len1 ≤ 1048576
    · exact walkIn a0 len0 cap0 z0 a1 len1 cap1 z1 w h0 h1 hlen0 hlen1
    · have hm : len1 ≤ 9223372036854775807 := h1.le
      clear h0 h1
      go_enter Try.func4, Try.ntmps4
      go_wp2_with fail
      go_ret
      exact ⟨rfl, Below.refl _ _⟩
  · have hm : len0 ≤ 9223372036854775807 := h0.le
    clear h0 h1
    go_enter Try.func4, Try.ntmps4
    go_wp2_with fail
    go_ret
    exact ⟨rfl, Below.refl _ _⟩

/-! ### THE ROW's STEP -/
set_option maxRecDepth 100000 in
theorem lifted (os : Os) (started : os.Started) (H : Type) (enc : TypeId × Value → H) :
    ReturnsInHanded {} Try.checked os 4 .any (Rows.fnExactNatMulSpec.pre6 enc Try.prog Try.f4 Rows.fnExactNatMulRow.domain false) (Rows.fnExactNatMulSpec.post enc Try.prog Try.f4 false true false false) := by
  refine returnsInHanded_of_change (C := Try.checked) own started (by kernel_rfl) Try.func4
    (ChangeSpec.witness6 (enc := enc) (C := Try.checked) false ⟨#[], #[.slice none 0 0, .slice none 0 0], []⟩ 8 (by kernel_rfl) (by kernel_rfl) (by kernel_rfl) (by kernel_rfl)) ?_
  intro W base args ds gs before hval0 hW hcnd _
  have hval : ∀ (j : Nat) t v, Try.f4.params[j]? = some t → args[j]? = some v → Value.okWide Try.prog W .any base t v := hval0
  have hW' := hW
  obtain ⟨p, q, hA0, hV, rfl, hfz, hnd⟩ := hW
  have hA : DataW.TrodAll enc Try.prog W 0 (fun _ => true) true Try.f4.params.toList args.toList ds p := hA0
  rw [Try.params4] at hA hval
  obtain ⟨v0, vs0, d0, ds0, p0, q0, hargs, rfl, rfl, h0, r0⟩ := trodAll_cons hA
  obtain ⟨v1, vs1, d1, ds1, p1, q1, rfl, rfl, rfl, h1, r1⟩ := trodAll_cons r0
  obtain ⟨rfl, rfl, rfl⟩ := trodAll_nil r1
  obtain rfl : args = #[v0, v1] := by cases args; simp_all
  obtain ⟨rfl, rfl⟩ := trodVars_none hV
  obtain ⟨a0, len0, cap0, rfl⟩ := okWide_slice Try.underlying22 (hval 0 22 v0 rfl rfl)
  have k0 := h0
  have lt0 : ∀ x ∈ p0, x.block < W.heap.size := by obtain ⟨m, hm⟩ := k0; exact DataW.trod_lt m _ _ _ hm
  obtain ⟨z0, w0⟩ : ∃ zs, IsRow .i64 W a0 len0 cap0 zs := by
    obtain ⟨fuel, hf⟩ := h0
    rcases open_ints Try.underlying22 Try.underlying3 (by kernel_rfl) hf with ⟨hcs, _⟩ | ⟨x, l, c, zs, hcs, _, hl, hm, hz, _, hcell, hwz⟩
    · simp [Value.cells] at hcs
      obtain ⟨rfl, rfl, rfl⟩ := hcs
      exact ⟨[], .inl ⟨rfl, rfl, rfl, rfl⟩⟩
    · simp [Value.cells] at hcs
      obtain ⟨rfl, rfl, rfl⟩ := hcs
      exact ⟨zs, .inr ⟨_, rfl, hl, hm, by simpa using hz, hcell, hwz⟩⟩
  obtain ⟨a1, len1, cap1, rfl⟩ := okWide_slice Try.underlying22 (hval 1 22 v1 rfl rfl)
  have k1 := h1
  have lt1 : ∀ x ∈ p1, x.block < W.heap.size := by obtain ⟨m, hm⟩ := k1; exact DataW.trod_lt m _ _ _ hm
  obtain ⟨z1, w1⟩ : ∃ zs, IsRow .i64 W a1 len1 cap1 zs := by
    obtain ⟨fuel, hf⟩ := h1
    rcases open_ints Try.underlying22 Try.underlying3 (by kernel_rfl) hf with ⟨hcs, _⟩ | ⟨x, l, c, zs, hcs, _, hl, hm, hz, _, hcell, hwz⟩
    · simp [Value.cells] at hcs
      obtain ⟨rfl, rfl, rfl⟩ := hcs
      exact ⟨[], .inl ⟨rfl, rfl, rfl, rfl⟩⟩
    · simp [Value.cells] at hcs
      obtain ⟨rfl, rfl, rfl⟩ := hcs
      exact ⟨zs, .inr ⟨_, rfl, hl, hm, by simpa using hz, hcell, hwz⟩⟩
  clear hA0 hval0
  refine (walk a0 len0 cap0 z0 a1 len1 cap1 z1 W w0 w1).mono fun e W' ⟨he, bel⟩ => ?_
  subst he
  exact ⟨_, rfl, _, _, _, [], _, [], hW', trodAll_mk1 (shut_bool Try.underlying4 _), (trodAll_cons_mk (Below.trod laidOut (by kernel_rfl) (of_decide_eq_true (by kernel_rfl)) k0 bel lt0) (trodAll_cons_mk (Below.trod laidOut (by kernel_rfl) (of_decide_eq_true (by kernel_rfl)) k1 bel lt1) trodAll_mk0)), rfl, bel.frame _, fun h => by cases h⟩

theorem over : Rows.fnExactNatMulRow.holds Try.pinned (OpenSpec.ofChange Rows.fnExactNatMulSpec) :=
  OpenClaim.holds_of_wide 4 Try.f4 rfl rfl rfl rfl rfl rfl rfl ⟨rfl, rfl, rfl, rfl, rfl⟩ rfl rfl rfl rfl rfl (by kernel_rfl) Try.func4 (by kernel_rfl)
    (of_decide_eq_true (by kernel_rfl)) (by unfold Func.isWrapper; first | (rw [if_pos (by decide +kernel)]; kernel_rfl) | (rw [if_neg (by decide +kernel)]; exact ⟨rfl, rfl⟩))
    (fun os started H enc _ => lifted os started H enc)

theorem proved : Rows.FnExactNatMulSaid :=
  over
end Go.Proofs.Ytohibeiagapodab.fnExactNatMul
namespace Go.Proofs.Ytohibeiagapodab
theorem natMul_holds : Rows.FnExactNatMulSaid := fnExactNatMul.proved
#print axioms natMul_holds
end Go.Proofs.Ytohibeiagapodab
