/- For every attribute and every number the exact law of CellText returns true: the program writes the text that the specification writes, and nothing into the attribute. The library's tables are as the program's text lays them. No other condition. -/
import Derived.Test.YtfekcckckmhioaaDoorCards
import Derived.Test.YtfekcckckmhioaaDoorTie
import Derived.Test.YtfekcckckmhioaaDoorCellTextPack5
import Derived.Test.YtfekcckckmhioaaDoorCellTextPack11
import Derived.Test.YtfekcckckmhioaaDoorCellTextPack12
import Derived.WalkSmall
import Derived.ChangeOld
import Derived.LaidMore
import Derived.Lib.LaidTab
import Derived.Stop.Joined
import Derived.Stop.LaidErr
import Derived.SevenTiedAt
namespace Go.Proofs.YtfekcckckmhioaaDoor.fnExactCellText
open Go.ChangeShapes Go.WideShapes Go.ChangeAt Go.RowKit

theorem own : ownKnob Tryd.prog.godebug = none := by kernel_rfl
theorem gPType : (Tryd.prog.globals[1]?).map (·.type) = some 97 := by kernel_rfl
theorem cellsE : Tryd.prog.cellsOf 90 = 1 := by kernel_rfl
theorem cellsT : Tryd.prog.cellsOf 97 = 20 := by kernel_rfl
theorem tabE : (Rows.laid_internal_strconv_uint64pow10 : DataW Unit) = Lib.tabData .u64 Lib.pow10Tab := by kernel_rfl
theorem laidOut : laidOutB Tryd.prog = true := by kernel_rfl

/-- What the list gives: the table of powers of ten. -/
theorem table {W : World} (h : laidMetH Tryd.prog Rows.fnExactCellTextRow.laid W) : Tab W := by
  rw [MakeChecks.laidMetH_plain _ _ _ (by kernel_rfl)] at h
  have h2 := laidMet.tail (laidMet.tail h)
  rw [tabE] at h2
  have ht := Lib.tabIs_of_head gPw gPType Tryd.underlying97 Tryd.underlying90 cellsE cellsT h2
  refine ⟨ht, ?_⟩
  have hc := ht.cell gPw 0 (by decide)
  rcases Nat.lt_or_ge 1 W.heap.size with h3 | h3
  · exact h3
  · have e : W.heap[1]? = none := Array.getElem?_eq_none h3
    simp [World.cell?, e] at hc


set_option maxRecDepth 100000 in
set_option maxHeartbeats 1600000 in
theorem walk (v : Value) (a : AttrD) (b : Int) (w : World) (h : AttrAt w v a) (hi : inA a) (_ : -9223372036854775808 ≤ b) (_ : b ≤ 9223372036854775807) (hT : Tab w) :
    Calls Tryd.prog 3 #[v, .int .i64 b] w fun e w' => e = .returned (.bool true) ∧ Below w.heap.size w w' := by
  have HTAB : Hid (Tab w) := hT
  clear hT
  have HH : Hid (AttrAt w v a) := h
  obtain ⟨y1, y2, rfl, rr1, rr2⟩ := id h
  obtain ⟨o1, c1, rfl, -, -⟩ := id rr1
  obtain ⟨o2, c2, rfl, -, -⟩ := id rr2
  clear rr1 rr2
  have c0 := fun W (hW : Below w.heap.size w W) => szAttr_row _ a 1048576 W (h.later hW) hi (by omega) (by omega)
  clear h hi
  go_enter Tryd.func3, Tryd.ntmps3
  go_wp2_with fail
  obtain ⟨K, B0⟩ := blk_1 25 w #[.string a.name, .slice o1 a.cuts.length c1, .slice o2 a.vals.length c2]
  refine (c0 _ B0).mono ?_
  rintro e w1 ⟨r, rfl, hr, hb1⟩
  clear c0
  have B1 := B0.trans (hb1.mono (by simp))
  replace K := K.below hb1
  clear B0 hb1
  rcases hr with ⟨r0, r1, hf⟩ | rfl
  rotate_left
  · go_wp2
    go_ret
    exact ⟨rfl, B1⟩
  have HF : Hid (fitA a) := hf
  clear hf
  have r0n : ¬ r < 0 := by omega
  have HT : Hid (∀ W, Below w.heap.size w W → Calls Tryd.prog 7 #[.agg #[.string a.name, .slice o1 a.cuts.length c1, .slice o2 a.vals.length c2]] W fun e w' => ∃ v', e = .returned v' ∧ OwnA W.heap.size w' v' a ∧ Below W.heap.size W w') := fun W hW => toAttr_row _ a W (HH.out.later hW) HF.out.cuts HF.out.vals
  have k0 : w1.cell? ⟨w.heap.size, 0, none⟩ = some (.string a.name) := K.cell 0
  have k1 : w1.cell? ⟨w.heap.size, 1, none⟩ = some (.slice o1 a.cuts.length c1) := K.cell 1
  have k2 : w1.cell? ⟨w.heap.size, 2, none⟩ = some (.slice o2 a.vals.length c2) := K.cell 2
  go_wp2_with fail
  refine (HT.out _ B1).mono ?_
  rintro e w2 ⟨v2, rfl, ho2, hb2⟩
  clear k0 k1 k2
  have B2 := B1.trans (hb2.mono B1.size)
  replace K := K.below hb2
  clear B1 hb2
  have e1 := specCellText_any v2 a b w2 ho2.at HF.out.ok
  have e2 := fun W v3 (h3 : AttrAt W v3 a) (hW : Below w.heap.size w W) => implCellText_any v3 a b W h3 HF.out.ok (HTAB.out.later hW)
  generalize cellText a b = G at e1 e2
  have HC : Hid (∀ W v3 (_ : AttrAt W v3 a) (_ : Below w.heap.size w W), Calls Tryd.prog 8 #[v3, .int .i64 b] W fun e w' => e = .returned (.string G) ∧ Below W.heap.size W w') := e2
  clear e2 ho2
  go_wp2_with fail
  refine e1.mono ?_
  rintro e w3 ⟨rfl, hb3⟩
  clear e1
  have B3 := B2.trans (hb3.mono B2.size)
  replace K := K.below hb3
  clear B2 hb3
  have k0 : w3.cell? ⟨w.heap.size, 0, none⟩ = some (.string a.name) := K.cell 0
  have k1 : w3.cell? ⟨w.heap.size, 1, none⟩ = some (.slice o1 a.cuts.length c1) := K.cell 1
  have k2 : w3.cell? ⟨w.heap.size, 2, none⟩ = some (.slice o2 a.vals.length c2) := K.cell 2
  go_wp2_with fail
  refine (HT.out _ B3).mono ?_
  rintro e w4 ⟨v4, rfl, ho4, hb4⟩
  clear k0 k1 k2
  have B4 := B3.trans (hb4.mono B3.size)
  replace K := K.below hb4
  clear B3 hb4
  have HX : Hid (AttrAt w4 v4 a) := ho4.at
  clear ho4
  obtain ⟨y1, y2, rfl, rr1, rr2⟩ := id HX.out
  obtain ⟨p1, d1, rfl, -, -⟩ := id rr1
  obtain ⟨p2, d2, rfl, -, -⟩ := id rr2
  clear rr1 rr2
  go_wp2_with fail
  obtain ⟨K2, B5⟩ := blk_1 28 w4 #[.string a.name, .slice p1 a.cuts.length d1, .slice p2 a.vals.length d2]
  have X5 := HX.out.later B5
  have B6 := B4.trans (B5.mono B4.size)
  replace K := K.below B5
  refine (HC.out _ _ X5 B6).mono ?_
  rintro e w5 ⟨rfl, hb5⟩
  have B7 := B6.trans (hb5.mono B6.size)
  replace K := K.below hb5
  replace K2 := K2.below hb5
  have X6 := X5.later hb5
  clear hb5 B6 B5 X5 HC HX B4
  go_wp2_with fail
  refine wp_region_held_drew (S := fun w' => Blk 25 w' w.heap.size #[.string a.name, .slice o1 a.cuts.length c1, .slice o2 a.vals.length c2] ∧ Blk 28 w' w4.heap.size #[.string a.name, .slice p1 a.cuts.length d1, .slice p2 a.vals.length d2]) (by kernel_rfl) ⟨K, K2⟩ ?_
  intro hS
  have B8 := B7.drew
  have X7 := X6.later (Below.refl w5.heap.size w5).drew
  clear B7 X6 K K2
  generalize w5.drew = w6 at hS B8 X7
  refine takeL 0 (.agg #[.string a.name, .slice p1 a.cuts.length d1, .slice p2 a.vals.length d2]) rfl (by kernel_rfl) (by kernel_rfl) (by kernel_rfl) (fun _ _ _ h => h) (yields_row Tryd.underlying28 (by kernel_rfl) (by rfl) _ rfl _ rfl (fun _ h => h.2)) hS ?_
  simp only [Act.put, List.setIfInBounds_toArray, List.set_cons_zero, List.set_cons_succ]
  refine takeL 1 (.agg #[.string a.name, .slice o1 a.cuts.length c1, .slice o2 a.vals.length c2]) rfl (by kernel_rfl) (by kernel_rfl) (by kernel_rfl) (fun _ _ _ h => h) (yields_row Tryd.underlying25 (by kernel_rfl) (by rfl) _ rfl _ rfl (fun _ h => h.1)) hS ?_
  simp only [Act.put, List.setIfInBounds_toArray, List.set_cons_zero, List.set_cons_succ]
  refine nextL 2 rfl (by kernel_rfl) (by rfl) fun K hK => ?_
  have dd := HT.out w6 B8
  go_simp
  refine dd.mono ?_
  rintro e w7 ⟨v7, rfl, ho7, hb7⟩
  refine hK _ _ ⟨hS.1.below hb7, hS.2.below hb7⟩ ?_
  clear hK K dd
  intro hS
  have B9 := B8.trans (hb7.mono B8.size)
  have X8 := X7.later hb7
  clear B8 X7 hb7
  refine nextL 3 rfl (by kernel_rfl) (by rfl) fun K hK => ?_
  have dd := eqAttr_row _ v7 a w7 X8 ho7.at HF.out.ok
  go_simp
  refine dd.mono ?_
  rintro e w8 ⟨rfl, hb8⟩
  refine hK _ _ ⟨hS.1.below hb8, hS.2.below hb8⟩ ?_
  clear hK K dd ho7 X8
  intro hS
  have B10 := B9.trans (hb8.mono B9.size)
  clear B9 hb8
  refine takeL 4 (.bool false) rfl (by kernel_rfl) (by kernel_rfl) (by kernel_rfl) (fun _ _ _ h => h) (.inl ⟨by rfl, fun w _ => by rfl⟩) hS ?_
  simp only [Act.put, List.setIfInBounds_toArray, List.set_cons_zero, List.set_cons_succ]
  refine wpAnyH_done (by kernel_rfl) ?_ _
  clear hS
  go_wp2
  go_ret
  exact ⟨rfl, B10⟩

theorem door_met (os : Os) (args : Array Value) : laidMetH Tryd.prog Rows.fnExactCellTextRow.laid ((World.doorLaid Tryd.prog 24 os).forCall (fun _ _ => 0) ⟨#[], args, []⟩).memory :=
  laidMetH_of_parts3 (fuel := 8) (laidMet_of_run' 8 (by kernel_rfl) (by kernel_rfl)) (by kernel_rfl) (by kernel_rfl)

set_option maxRecDepth 100000 in
theorem lifted (os : Os) (started : os.Started) (H : Type) (enc : TypeId × Value → H) :
    ReturnsInHanded {} Tryd.checked os 3 .any (fun w args => (Rows.fnExactCellTextSpec.pre enc Tryd.prog Tryd.f3 [] false w args ∧ laidMetH Tryd.prog Rows.fnExactCellTextRow.laid w) ∧ sizedMet enc Tryd.prog Tryd.f3 (OpenSpec.ofChange Rows.fnExactCellTextSpec) false w args)
      (Rows.fnExactCellTextSpec.post enc Tryd.prog Tryd.f3 false true false false) := by
  refine returnsInHanded_of_change_and (C := Tryd.checked) (X := fun w _ => laidMetH Tryd.prog Rows.fnExactCellTextRow.laid w) (fun _ _ _ hh h => h.of_heap hh) own started (by kernel_rfl) Tryd.func3
    (ChangeSpec.witness_shaped (enc := enc) (C := Tryd.checked) (os := os) (X := fun w _ => laidMetH Tryd.prog Rows.fnExactCellTextRow.laid w) false (World.doorLaid Tryd.prog 24 os) #[.agg #[.string ByteArray.empty, .slice none 0 0, .slice none 0 0], .int .i64 0] 8 rfl (World.shaped_of_RefB (by kernel_rfl) (by kernel_rfl)) (by kernel_rfl) (by kernel_rfl) (by kernel_rfl) (door_met os _)) ?_
  intro W base args ds gs before hval0 hW _ _ hL _
  have hval : ∀ (j : Nat) t v, Tryd.f3.params[j]? = some t → args[j]? = some v → Value.okWide Tryd.prog W .any base t v := hval0
  have hW' := hW
  obtain ⟨p, q, hA0, hV, rfl, hfz, hnd⟩ := hW
  have hA : DataW.TrodAll enc Tryd.prog W 0 (fun _ => true) true Tryd.f3.params.toList args.toList ds p := hA0
  rw [Tryd.params3] at hA hval
  obtain ⟨v0, vs0, d0, ds0, p0, q0, hargs, rfl, rfl, h0, r0⟩ := trodAll_cons hA
  obtain ⟨v1, vs1, d1, ds1, p1, q1, rfl, rfl, rfl, h1, r1⟩ := trodAll_cons r0
  obtain ⟨rfl, rfl, rfl⟩ := trodAll_nil r1
  obtain rfl : args = #[v0, v1] := by cases args; simp_all
  obtain ⟨rfl, rfl⟩ := trodVars_none hV
  have k0 := h0
  have lt0 : ∀ x ∈ p0, x.block < W.heap.size := by obtain ⟨m, hm⟩ := k0; exact DataW.trod_lt m _ _ _ hm
  obtain ⟨a0, R0, I0⟩ := open_attr (hval 0 25 v0 rfl rfl) h0
  obtain ⟨a1, rfl, rfl, rfl, w1⟩ := open_int Tryd.underlying3 (hval 1 3 v1 rfl rfl) h1
  have ht := table hL
  clear hA0 hval0
  refine (walk v0 a0 a1 W R0 I0 (bounds_i64 w1).1 (bounds_i64 w1).2 ht).mono fun e W' ⟨he, bel⟩ => ?_
  subst he
  exact ⟨_, rfl, _, _, _, [], _, [], hW', trodAll_mk1 (shut_bool Tryd.underlying4 _), (trodAll_cons_mk (Below.trod laidOut (by kernel_rfl) (of_decide_eq_true (by kernel_rfl)) k0 bel lt0) (trodAll_cons_mk (shut_int Tryd.underlying3 w1) trodAll_mk0)), rfl, bel.frame _, fun h => by cases h⟩

theorem said : Rows.FnExactCellTextSaid :=
  OpenClaim.holds_of_wide 3 Tryd.f3 rfl rfl rfl rfl rfl rfl rfl ⟨rfl, rfl, rfl, rfl, rfl⟩ rfl rfl rfl rfl rfl (by kernel_rfl) Tryd.func3 (by kernel_rfl)
    (of_decide_eq_true (by kernel_rfl)) (by unfold Func.isWrapper; first | (rw [if_pos (by decide +kernel)]; kernel_rfl) | (rw [if_neg (by decide +kernel)]; exact ⟨rfl, rfl⟩))
    (fun os started H enc _ => lifted os started H enc)

theorem plain (f : FuncId) (fn : Func) (hf : Tryd.pinned.checked.prog.funcNamed "loop.example/g00477/laws.FnExactCellText" = some f) (hfn : Tryd.pinned.checked.prog.funcs[f]? = some fn) :
    false = Tryd.pinned.checked.prog.looks [] ∧ ∀ (j : Nat) t, fn.params[j]? = some t → Tryd.pinned.checked.prog.wantsStandIn t = false := by
  obtain rfl : f = 3 := Option.some.inj ((show Tryd.prog.funcNamed "loop.example/g00477/laws.FnExactCellText" = some 3 by kernel_rfl).symm.trans hf) |>.symm
  obtain rfl : fn = Tryd.f3 := (Option.some.inj (Tryd.func3.symm.trans hfn)).symm
  refine ⟨by kernel_rfl, fun j t ht => ?_⟩
  rw [Tryd.params3] at ht
  have hm : t ∈ [25, 3] := by simpa using Array.mem_of_getElem? ht
  have hall : ([25, 3].all fun u => !Tryd.prog.wantsStandIn u) = true := by kernel_rfl
  exact (show Tryd.prog.wantsStandIn t = false by simpa using List.all_eq_true.1 hall t hm)

theorem card : Rows.FnExactCellTextCardSaid :=
  Claim7.holds_tied_plain_at .later [] _ _ _ _ said (fun _ h => by cases h) (by kernel_rfl) (fun _ h => by cases h) fnExactCellText_row_tie rfl ⟨rfl, rfl⟩ (by kernel_rfl) rfl plain (by kernel_rfl)
end Go.Proofs.YtfekcckckmhioaaDoor.fnExactCellText
namespace Go.Proofs.YtfekcckckmhioaaDoor
theorem cellText_holds : Rows.FnExactCellTextCardSaid := fnExactCellText.card
#print axioms cellText_holds
end Go.Proofs.YtfekcckckmhioaaDoor
