/- For every schema the exact law of SchemaOk returns true: the program and the specification say alike whether it is right, and nothing is written into it. No condition. -/
import Derived.Test.YtlpjigpnpafkiaaRows
import Derived.WalkKit
import Derived.ProofKit
import Derived.OpenShut
import Derived.Test.YtlpjigpnpafkiaaVg
import Derived.Test.YtlpjigpnpafkiaaVh
import Derived.Test.YtlpjigpnpafkiaaVd
import Derived.Test.YtlpjigpnpafkiaaVe
import Derived.Test.YtlpjigpnpafkiaaVy
namespace Go.Proofs.Ytlpjigpnpafkiaa.fnExactSchemaOk
open Go.ChangeShapes Go.WideShapes Go.ChangeAt Go.RowKit
set_option linter.unusedVariables false

theorem own : ownKnob Try.prog.godebug = none := by kernel_rfl
theorem laidOut : laidOutB Try.prog = true := by kernel_rfl


set_option maxRecDepth 100000 in
set_option maxHeartbeats 1600000 in
theorem walk (v : Value) (a : SchemaD) (w : World) (h : SchemaAt w v a) (hi : inS a) :
    Calls Try.prog 6 #[v] w fun e w' => e = .returned (.bool true) ∧ Below w.heap.size w w' := by
  have HH : Hid (SchemaAt w v a) := h
  obtain ⟨y1, y2, rfl, rr1, rr2⟩ := id h
  obtain ⟨o1, c1, rfl, -, -⟩ := id rr1
  obtain ⟨o2, c2, rfl, -, -⟩ := id rr2
  clear rr1 rr2
  have c0 := fun W (hW : Below w.heap.size w W) => szSchema_row _ a 1048576 W (h.later hW) hi (by omega) (by omega)
  clear h hi
  go_enter Try.func6, Try.ntmps6
  go_wp2_with fail
  obtain ⟨K, B0⟩ := blk_1 36 w #[.slice o1 a.attrs.length c1, .slice o2 a.classes.length c2]
  refine (c0 _ B0).mono ?_
  rintro e w1 ⟨r, rfl, hr, hb1⟩
  clear c0
  have B1 := B0.trans (hb1.mono (by simp))
  replace K := K.below hb1
  clear B0 hb1
  rcases hr with ⟨r0, r1, hf⟩ | rfl
  rotate_left
  · go_wp2
    go_ret
    exact ⟨rfl, B1⟩
  have HF : Hid (fitS a) := hf
  clear hf
  have r0n : ¬ r < 0 := by omega
  have HT : Hid (∀ W, Below w.heap.size w W → Calls Try.prog 18 #[.agg #[.slice o1 a.attrs.length c1, .slice o2 a.classes.length c2]] W fun e w' => ∃ v', e = .returned v' ∧ OwnS W.heap.size w' v' a ∧ Below W.heap.size W w') := fun W hW => toSchema_row _ a W (HH.out.later hW) HF.out
  have k0 : w1.cell? ⟨w.heap.size, 0, none⟩ = some (.slice o1 a.attrs.length c1) := K.cell 0
  have k1 : w1.cell? ⟨w.heap.size, 1, none⟩ = some (.slice o2 a.classes.length c2) := K.cell 1
  go_wp2_with fail
  refine (HT.out _ B1).mono ?_
  rintro e w2 ⟨v2, rfl, ho2, hb2⟩
  clear k0 k1
  have B2 := B1.trans (hb2.mono B1.size)
  replace K := K.below hb2
  clear B1 hb2
  have e1 := specSchemaOk_any v2 a w2 ho2.at HF.out.ok
  have e2 := fun W v3 (h3 : SchemaAt W v3 a) (hW : Below w.heap.size w W) => implSchemaOk_any v3 a W h3 HF.out.ok
  generalize schemaOk a = G at e1 e2
  have HC : Hid (∀ W v3 (_ : SchemaAt W v3 a) (_ : Below w.heap.size w W), Calls Try.prog 19 #[v3] W fun e w' => e = .returned (.bool G) ∧ Below W.heap.size W w') := e2
  clear e2 ho2
  go_wp2_with fail
  refine e1.mono ?_
  rintro e w3 ⟨rfl, hb3⟩
  clear e1
  have B3 := B2.trans (hb3.mono B2.size)
  replace K := K.below hb3
  clear B2 hb3
  have k0 : w3.cell? ⟨w.heap.size, 0, none⟩ = some (.slice o1 a.attrs.length c1) := K.cell 0
  have k1 : w3.cell? ⟨w.heap.size, 1, none⟩ = some (.slice o2 a.classes.length c2) := K.cell 1
  go_wp2_with fail
  refine (HT.out _ B3).mono ?_
  rintro e w4 ⟨v4, rfl, ho4, hb4⟩
  clear k0 k1
  have B4 := B3.trans (hb4.mono B3.size)
  replace K := K.below hb4
  clear B3 hb4
  have HX : Hid (SchemaAt w4 v4 a) := ho4.at
  clear ho4
  obtain ⟨y1, y2, rfl, rr1, rr2⟩ := id HX.out
  obtain ⟨p1, d1, rfl, -, -⟩ := id rr1
  obtain ⟨p2, d2, rfl, -, -⟩ := id rr2
  clear rr1 rr2
  go_wp2_with fail
  obtain ⟨K2, B5⟩ := blk_1 41 w4 #[.slice p1 a.attrs.length d1, .slice p2 a.classes.length d2]
  have X5 := HX.out.later B5
  have B6 := B4.trans (B5.mono B4.size)
  replace K := K.below B5
  refine (HC.out _ _ X5 B6).mono ?_
  rintro e w5 ⟨rfl, hb5⟩
  have B7 := B6.trans (hb5.mono B6.size)
  replace K := K.below hb5
  replace K2 := K2.below hb5
  have X6 := X5.later hb5
  clear hb5 B6 B5 X5 HC HX B4
  go_wp2_with fail
  refine wp_region_held_drew (S := fun w' => Blk 36 w' w.heap.size #[.slice o1 a.attrs.length c1, .slice o2 a.classes.length c2] ∧ Blk 41 w' w4.heap.size #[.slice p1 a.attrs.length d1, .slice p2 a.classes.length d2]) (by kernel_rfl) ⟨K, K2⟩ ?_
  intro hS
  have B8 := B7.drew
  have X7 := X6.later (Below.refl w5.heap.size w5).drew
  clear B7 X6 K K2
  generalize w5.drew = w6 at hS B8 X7
  refine takeL 0 (.agg #[.slice p1 a.attrs.length d1, .slice p2 a.classes.length d2]) rfl (by kernel_rfl) (by kernel_rfl) (by kernel_rfl) (fun _ _ _ h => h) (yields_row Try.underlying41 (by kernel_rfl) (by rfl) _ rfl _ rfl (fun _ h => h.2)) hS ?_
  simp only [Act.put, List.setIfInBounds_toArray, List.set_cons_zero, List.set_cons_succ]
  refine takeL 1 (.agg #[.slice o1 a.attrs.length c1, .slice o2 a.classes.length c2]) rfl (by kernel_rfl) (by kernel_rfl) (by kernel_rfl) (fun _ _ _ h => h) (yields_row Try.underlying36 (by kernel_rfl) (by rfl) _ rfl _ rfl (fun _ h => h.1)) hS ?_
  simp only [Act.put, List.setIfInBounds_toArray, List.set_cons_zero, List.set_cons_succ]
  refine nextL 2 rfl (by kernel_rfl) (by rfl) fun K hK => ?_
  have dd := HT.out w6 B8
  go_simp
  refine dd.mono ?_
  rintro e w7 ⟨v7, rfl, ho7, hb7⟩
  refine hK _ _ ⟨hS.1.below hb7, hS.2.below hb7⟩ ?_
  clear hK K dd
  intro hS
  have B9 := B8.trans (hb7.mono B8.size)
  have X8 := X7.later hb7
  clear B8 X7 hb7
  refine nextL 3 rfl (by kernel_rfl) (by rfl) fun K hK => ?_
  have dd := eqSchema_row _ v7 a w7 X8 ho7.at HF.out.ok
  go_simp
  refine dd.mono ?_
  rintro e w8 ⟨rfl, hb8⟩
  refine hK _ _ ⟨hS.1.below hb8, hS.2.below hb8⟩ ?_
  clear hK K dd ho7 X8
  intro hS
  have B10 := B9.trans (hb8.mono B9.size)
  clear B9 hb8
  refine takeL 4 (.bool false) rfl (by kernel_rfl) (by kernel_rfl) (by kernel_rfl) (fun _ _ _ h => h) (.inl ⟨by rfl, fun w _ => by rfl⟩) hS ?_
  simp only [Act.put, List.setIfInBounds_toArray, List.set_cons_zero, List.set_cons_succ]
  refine wpAnyH_done (by kernel_rfl) ?_ _
  clear hS
  go_wp2
  go_ret
  exact ⟨rfl, B10⟩

/-! ### THE ROW's STEP -/
set_option maxRecDepth 100000 in
theorem lifted (os : Os) (started : os.Started) (H : Type) (enc : TypeId × Value → H) :
    ReturnsInHanded {} Try.checked os 6 .any (Rows.fnExactSchemaOkSpec.pre6 enc Try.prog Try.f6 Rows.fnExactSchemaOkRow.domain false) (Rows.fnExactSchemaOkSpec.post enc Try.prog Try.f6 false true false false) := by
  refine returnsInHanded_of_change (C := Try.checked) own started (by kernel_rfl) Try.func6
    (ChangeSpec.witness6 (enc := enc) (C := Try.checked) false ⟨#[], #[.agg #[.slice none 0 0, .slice none 0 0]], []⟩ 8 (by kernel_rfl) (by kernel_rfl) (by kernel_rfl) (by kernel_rfl)) ?_
  intro W base args ds gs before hval0 hW hcnd _
  have hval : ∀ (j : Nat) t v, Try.f6.params[j]? = some t → args[j]? = some v → Value.okWide Try.prog W .any base t v := hval0
  have hW' := hW
  obtain ⟨p, q, hA0, hV, rfl, hfz, hnd⟩ := hW
  have hA : DataW.TrodAll enc Try.prog W 0 (fun _ => true) true Try.f6.params.toList args.toList ds p := hA0
  rw [Try.params6] at hA hval
  obtain ⟨v0, vs0, d0, ds0, p0, q0, hargs, rfl, rfl, h0, r0⟩ := trodAll_cons hA
  obtain ⟨rfl, rfl, rfl⟩ := trodAll_nil r0
  obtain rfl : args = #[v0] := by cases args; simp_all
  obtain ⟨rfl, rfl⟩ := trodVars_none hV
  have k0 := h0
  have lt0 : ∀ x ∈ p0, x.block < W.heap.size := by obtain ⟨m, hm⟩ := k0; exact DataW.trod_lt m _ _ _ hm
  obtain ⟨a0, r0, i0⟩ := open_schema (hval 0 36 v0 rfl rfl) h0
  clear hA0 hval0
  refine (walk v0 a0 W r0 i0).mono fun e W' ⟨he, bel⟩ => ?_
  subst he
  exact ⟨_, rfl, _, _, _, [], _, [], hW', trodAll_mk1 (shut_bool Try.underlying4 _), (trodAll_cons_mk (Below.trod laidOut (by kernel_rfl) (of_decide_eq_true (by kernel_rfl)) k0 bel lt0) trodAll_mk0), rfl, bel.frame _, fun h => by cases h⟩

theorem over : Rows.fnExactSchemaOkRow.holds Try.pinned (OpenSpec.ofChange Rows.fnExactSchemaOkSpec) :=
  OpenClaim.holds_of_wide 6 Try.f6 rfl rfl rfl rfl rfl rfl rfl ⟨rfl, rfl, rfl, rfl, rfl⟩ rfl rfl rfl rfl rfl (by kernel_rfl) Try.func6 (by kernel_rfl)
    (of_decide_eq_true (by kernel_rfl)) (by unfold Func.isWrapper; first | (rw [if_pos (by decide +kernel)]; kernel_rfl) | (rw [if_neg (by decide +kernel)]; exact ⟨rfl, rfl⟩))
    (fun os started H enc _ => lifted os started H enc)

theorem proved : Rows.FnExactSchemaOkSaid :=
  over
end Go.Proofs.Ytlpjigpnpafkiaa.fnExactSchemaOk
namespace Go.Proofs.Ytlpjigpnpafkiaa
theorem schemaOk_holds : Rows.FnExactSchemaOkSaid := fnExactSchemaOk.proved
#print axioms schemaOk_holds
end Go.Proofs.Ytlpjigpnpafkiaa
