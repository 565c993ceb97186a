/- For every fraction the exact law of FracText returns true: the program writes the text that the specification writes. The library's tables are as the program's text lays them. No other condition. -/
import Derived.Test.YtonimdaimldbgabDoorCards
import Derived.Test.YtonimdaimldbgabDoorTie
import Derived.Test.YtonimdaimldbgabDoorDg
import Derived.Test.YtonimdaimldbgabDoorFo
import Derived.Test.YtonimdaimldbgabDoorShelfI
import Derived.Test.YtonimdaimldbgabDoorTk
import Derived.WalkSmall
import Derived.Lib.ItoaLen
import Derived.ChangeOld
import Derived.LaidMore
import Derived.Lib.LaidTab
import Derived.Lib.AppendIntMem
import Derived.Stop.Joined
import Derived.Stop.LaidErr
import Derived.SevenTiedAt
namespace Go.Proofs.YtonimdaimldbgabDoor.fnExactFracText
open Go.ChangeShapes Go.WideShapes Go.ChangeAt Go.RowKit

theorem own : ownKnob Tryd.prog.godebug = none := by kernel_rfl
theorem gP : Tryd.prog.globalNamed "internal/strconv.uint64pow10" = some 0 := by kernel_rfl
theorem gPType : (Tryd.prog.globals[0]?).map (·.type) = some 41 := by kernel_rfl
theorem cellsE : Tryd.prog.cellsOf 34 = 1 := by kernel_rfl
theorem cellsT : Tryd.prog.cellsOf 41 = 20 := by kernel_rfl
theorem tabE : (Rows.laid_internal_strconv_uint64pow10 : DataW Unit) = Lib.tabData .u64 Lib.pow10Tab := by kernel_rfl

/-- What the list gives: the table of powers of ten. -/
theorem table {W : World} (h : laidMetH Tryd.prog Rows.fnExactFracTextRow.laid W) : Lib.TabIs Tryd.prog W "internal/strconv.uint64pow10" .u64 Lib.pow10Tab := by
  rw [MakeChecks.laidMetH_plain _ _ _ (by kernel_rfl)] at h
  have h2 := laidMet.tail (laidMet.tail h)
  rw [tabE] at h2
  exact Lib.tabIs_of_head gP gPType Tryd.underlying41 Tryd.underlying34 cellsE cellsT h2

theorem tab_later {W W' : World} (h : Lib.TabIs Tryd.prog W "internal/strconv.uint64pow10" .u64 Lib.pow10Tab) (hlt : 0 < W.heap.size) (hb : Below W.heap.size W W') : Lib.TabIs Tryd.prog W' "internal/strconv.uint64pow10" .u64 Lib.pow10Tab :=
  var?_below hb gP hlt h

theorem implDigits (n : Int) (w : World) (h0 : -9223372036854775808 ≤ n) (h1 : n ≤ 9223372036854775807) (ht : Lib.TabIs Tryd.prog w "internal/strconv.uint64pow10" .u64 Lib.pow10Tab) :
    Calls Tryd.prog 10 #[.int .i64 n] w fun e w' => e = .returned (.string ⟨(Lib.itoa n).toArray⟩) ∧ Below w.heap.size w w' := by
  go_enter Tryd.func10, Tryd.ntmps10
  go_wp2_with fail
  refine (Tryd.strconv_Itoa n h0 h1 _ ht).mono ?_
  rintro e w' ⟨rfl, k, os, rfl⟩
  go_wp2
  go_ret
  exact ⟨rfl, Lib.below_grow _ _ (Nat.le_refl _) _ _⟩

theorem laidOut : laidOutB Tryd.prog = true := by kernel_rfl
/-- What FracText answers. -/
def txt (a b : Int) : ByteArray := if frB a b = true then (⟨(Lib.itoa a).toArray⟩ : ByteArray) ++ ⟨#[47]⟩ ++ ⟨(Lib.itoa b).toArray⟩ else ⟨#[]⟩

set_option maxHeartbeats 1600000 in
theorem textS (a b : Int) (w : World) (h0 : -9223372036854775808 ≤ a) (h1 : a ≤ 9223372036854775807) (h2 : -9223372036854775808 ≤ b) (h3 : b ≤ 9223372036854775807) :
    Calls Tryd.prog 4 #[frV a b] w fun e w' => e = .returned (.string (txt a b)) ∧ Below w.heap.size w w' := by
  obtain ⟨F0, B⟩ := blk_1 25 w #[.int .i64 a, .int .i64 b]
  have c1 := fun W => fracOkS a b W
  unfold txt
  cases h : frB a b
  · rw [if_neg (by simp)]
    rw [h] at c1
    clear h
    go_enter Tryd.func4, Tryd.ntmps4
    go_wp2_with fail
    refine (c1 _).mono ?_
    rintro e w1 ⟨rfl, hb1⟩
    go_wp2
    go_ret
    exact ⟨rfl, B.trans (hb1.mono B.size)⟩
  · rw [if_pos rfl]
    rw [h] at c1
    clear h
    have c2 := fun W => digits_any a W h0 h1
    have c3 := fun W => digits_any b W h2 h3
    have hX : (Lib.itoa a).toArray.size ≤ 21 := by simpa using Lib.itoa_length_le a h0 h1
    have hY : (Lib.itoa b).toArray.size ≤ 21 := by simpa using Lib.itoa_length_le b h2 h3
    generalize (Lib.itoa a).toArray = X at c2 hX
    generalize (Lib.itoa b).toArray = Y at c3 hY
    go_enter Tryd.func4, Tryd.ntmps4
    go_wp2_with fail
    refine (c1 _).mono ?_
    rintro e w1 ⟨rfl, hb1⟩
    have F0 := F0.below hb1
    have B := B.trans (hb1.mono B.size)
    go_wp2_with fail
    refine wp_region_held_drew (S := fun w' => Fr w' w.heap.size a b) (by kernel_rfl) F0 ?_
    intro hS
    have B := B.drew
    generalize w1.drew = V at hS B
    refine takeL 0 (.pointer (some ⟨w.heap.size, 0, none⟩)) rfl (by kernel_rfl) (by kernel_rfl) (by kernel_rfl) (fun _ _ _ h => h) (.inl ⟨by rfl, fun w _ => by rfl⟩) hS ?_
    simp only [Act.put, List.setIfInBounds_toArray, List.set_cons_zero, List.set_cons_succ]
    refine takeL 1 (.int .i64 a) rfl (by kernel_rfl) (by kernel_rfl) (by kernel_rfl) (fun _ _ _ h => h) (yields_int (by rfl) _ rfl _ rfl a (fun _ h => FrT.c0 h)) hS ?_
    simp only [Act.put, List.setIfInBounds_toArray, List.set_cons_zero, List.set_cons_succ]
    refine takeL 4 (.pointer (some ⟨w.heap.size, 1, none⟩)) rfl (by kernel_rfl) (by kernel_rfl) (by kernel_rfl) (fun _ _ _ h => h) (.inl ⟨by rfl, fun w _ => by rfl⟩) hS ?_
    simp only [Act.put, List.setIfInBounds_toArray, List.set_cons_zero, List.set_cons_succ]
    refine takeL 5 (.int .i64 b) rfl (by kernel_rfl) (by kernel_rfl) (by kernel_rfl) (fun _ _ _ h => h) (yields_int (by rfl) _ rfl _ rfl b (fun _ h => FrT.c1 h)) hS ?_
    simp only [Act.put, List.setIfInBounds_toArray, List.set_cons_zero, List.set_cons_succ]
    refine nextL 2 rfl (by kernel_rfl) (by rfl) fun K hK => ?_
    have e1 := c2 V 
    go_simp
    refine e1.mono ?_
    rintro e V1 ⟨rfl, hb2⟩
    refine hK _ _ (Blk.below hS hb2) ?_
    clear hK K e1
    intro hS
    have B := B.trans (hb2.mono B.size)
    refine takeL 3 (.string (⟨X⟩ ++ ⟨#[47]⟩)) rfl (by kernel_rfl) (by kernel_rfl) (by kernel_rfl) (fun _ _ _ h => h) (yields_cat (by rfl) _ _ rfl ⟨X⟩ ⟨#[47]⟩ rfl rfl (by show X.size + 1 ≤ _; omega)) hS ?_
    simp only [Act.put, List.setIfInBounds_toArray, List.set_cons_zero, List.set_cons_succ]
    refine nextL 6 rfl (by kernel_rfl) (by rfl) fun K hK => ?_
    have e1 := c3 V1 
    go_simp
    refine e1.mono ?_
    rintro e V2 ⟨rfl, hb3⟩
    refine hK _ _ (Blk.below hS hb3) ?_
    clear hK K e1
    intro hS
    have B := B.trans (hb3.mono B.size)
    refine takeL 7 (.string (⟨X⟩ ++ ⟨#[47]⟩ ++ ⟨Y⟩)) rfl (by kernel_rfl) (by kernel_rfl) (by kernel_rfl) (fun _ _ _ h => h) (yields_cat (by rfl) _ _ rfl (⟨X⟩ ++ ⟨#[47]⟩) ⟨Y⟩ rfl rfl (by rw [ByteArray.size_append]; show X.size + 1 + Y.size ≤ _; omega)) hS ?_
    simp only [Act.put, List.setIfInBounds_toArray, List.set_cons_zero, List.set_cons_succ]
    refine takeL 8 (.string (⟨X⟩ ++ ⟨#[47]⟩ ++ ⟨Y⟩)) rfl (by kernel_rfl) (by kernel_rfl) (by kernel_rfl) (fun _ _ _ h => h) (.inl ⟨by rfl, fun w _ => by rfl⟩) hS ?_
    simp only [Act.put, List.setIfInBounds_toArray, List.set_cons_zero, List.set_cons_succ]
    refine wpAnyH_done (by kernel_rfl) ?_ _
    go_wp2
    go_ret
    exact ⟨rfl, B⟩

set_option maxHeartbeats 1600000 in
theorem textI (a b : Int) (w : World) (h0 : -9223372036854775808 ≤ a) (h1 : a ≤ 9223372036854775807) (h2 : -9223372036854775808 ≤ b) (h3 : b ≤ 9223372036854775807) (ht : ∀ W, Below w.heap.size w W → Lib.TabIs Tryd.prog W "internal/strconv.uint64pow10" .u64 Lib.pow10Tab) :
    Calls Tryd.prog 6 #[frV a b] w fun e w' => e = .returned (.string (txt a b)) ∧ Below w.heap.size w w' := by
  obtain ⟨F0, B⟩ := blk_1 25 w #[.int .i64 a, .int .i64 b]
  have c1 := fun W => fracOkI a b W
  unfold txt
  cases h : frB a b
  · rw [if_neg (by simp)]
    rw [h] at c1
    clear h
    go_enter Tryd.func6, Tryd.ntmps6
    go_wp2_with fail
    refine (c1 _).mono ?_
    rintro e w1 ⟨rfl, hb1⟩
    go_wp2
    go_ret
    exact ⟨rfl, B.trans (hb1.mono B.size)⟩
  · rw [if_pos rfl]
    rw [h] at c1
    clear h
    have c2 := fun W hW => implDigits a W h0 h1 (ht W hW)
    have c3 := fun W hW => implDigits b W h2 h3 (ht W hW)
    have hX : (Lib.itoa a).toArray.size ≤ 21 := by simpa using Lib.itoa_length_le a h0 h1
    have hY : (Lib.itoa b).toArray.size ≤ 21 := by simpa using Lib.itoa_length_le b h2 h3
    generalize (Lib.itoa a).toArray = X at c2 hX
    generalize (Lib.itoa b).toArray = Y at c3 hY
    go_enter Tryd.func6, Tryd.ntmps6
    go_wp2_with fail
    refine (c1 _).mono ?_
    rintro e w1 ⟨rfl, hb1⟩
    have F0 := F0.below hb1
    have B := B.trans (hb1.mono B.size)
    go_wp2_with fail
    refine wp_region_held_drew (S := fun w' => Fr w' w.heap.size a b) (by kernel_rfl) F0 ?_
    intro hS
    have B := B.drew
    generalize w1.drew = V at hS B
    refine takeL 0 (.pointer (some ⟨w.heap.size, 0, none⟩)) rfl (by kernel_rfl) (by kernel_rfl) (by kernel_rfl) (fun _ _ _ h => h) (.inl ⟨by rfl, fun w _ => by rfl⟩) hS ?_
    simp only [Act.put, List.setIfInBounds_toArray, List.set_cons_zero, List.set_cons_succ]
    refine takeL 1 (.int .i64 a) rfl (by kernel_rfl) (by kernel_rfl) (by kernel_rfl) (fun _ _ _ h => h) (yields_int (by rfl) _ rfl _ rfl a (fun _ h => FrT.c0 h)) hS ?_
    simp only [Act.put, List.setIfInBounds_toArray, List.set_cons_zero, List.set_cons_succ]
    refine takeL 4 (.pointer (some ⟨w.heap.size, 1, none⟩)) rfl (by kernel_rfl) (by kernel_rfl) (by kernel_rfl) (fun _ _ _ h => h) (.inl ⟨by rfl, fun w _ => by rfl⟩) hS ?_
    simp only [Act.put, List.setIfInBounds_toArray, List.set_cons_zero, List.set_cons_succ]
    refine takeL 5 (.int .i64 b) rfl (by kernel_rfl) (by kernel_rfl) (by kernel_rfl) (fun _ _ _ h => h) (yields_int (by rfl) _ rfl _ rfl b (fun _ h => FrT.c1 h)) hS ?_
    simp only [Act.put, List.setIfInBounds_toArray, List.set_cons_zero, List.set_cons_succ]
    refine nextL 2 rfl (by kernel_rfl) (by rfl) fun K hK => ?_
    have e1 := c2 V B
    go_simp
    refine e1.mono ?_
    rintro e V1 ⟨rfl, hb2⟩
    refine hK _ _ (Blk.below hS hb2) ?_
    clear hK K e1
    intro hS
    have B := B.trans (hb2.mono B.size)
    refine takeL 3 (.string (⟨X⟩ ++ ⟨#[47]⟩)) rfl (by kernel_rfl) (by kernel_rfl) (by kernel_rfl) (fun _ _ _ h => h) (yields_cat (by rfl) _ _ rfl ⟨X⟩ ⟨#[47]⟩ rfl rfl (by show X.size + 1 ≤ _; omega)) hS ?_
    simp only [Act.put, List.setIfInBounds_toArray, List.set_cons_zero, List.set_cons_succ]
    refine nextL 6 rfl (by kernel_rfl) (by rfl) fun K hK => ?_
    have e1 := c3 V1 B
    go_simp
    refine e1.mono ?_
    rintro e V2 ⟨rfl, hb3⟩
    refine hK _ _ (Blk.below hS hb3) ?_
    clear hK K e1
    intro hS
    have B := B.trans (hb3.mono B.size)
    refine takeL 7 (.string (⟨X⟩ ++ ⟨#[47]⟩ ++ ⟨Y⟩)) rfl (by kernel_rfl) (by kernel_rfl) (by kernel_rfl) (fun _ _ _ h => h) (yields_cat (by rfl) _ _ rfl (⟨X⟩ ++ ⟨#[47]⟩) ⟨Y⟩ rfl rfl (by rw [ByteArray.size_append]; show X.size + 1 + Y.size ≤ _; omega)) hS ?_
    simp only [Act.put, List.setIfInBounds_toArray, List.set_cons_zero, List.set_cons_succ]
    refine takeL 8 (.string (⟨X⟩ ++ ⟨#[47]⟩ ++ ⟨Y⟩)) rfl (by kernel_rfl) (by kernel_rfl) (by kernel_rfl) (fun _ _ _ h => h) (.inl ⟨by rfl, fun w _ => by rfl⟩) hS ?_
    simp only [Act.put, List.setIfInBounds_toArray, List.set_cons_zero, List.set_cons_succ]
    refine wpAnyH_done (by kernel_rfl) ?_ _
    go_wp2
    go_ret
    exact ⟨rfl, B⟩

set_option maxHeartbeats 800000 in
theorem walk (n0 m0 : Int) (w : World) (l0 : -9223372036854775808 ≤ n0) (u0 : n0 ≤ 9223372036854775807) (x0 : -9223372036854775808 ≤ m0) (y0 : m0 ≤ 9223372036854775807)
    (ht : Lib.TabIs Tryd.prog w "internal/strconv.uint64pow10" .u64 Lib.pow10Tab) (hlt : 0 < w.heap.size) :
    Calls Tryd.prog 3 #[frV n0 m0] w fun e w' => e = .returned (.bool true) ∧ Below w.heap.size w w' := by
  have c1 := fun W => textS n0 m0 W l0 u0 x0 y0
  have c2 := fun W (hW : Below w.heap.size w W) => textI n0 m0 W l0 u0 x0 y0 (fun V hV => tab_later ht hlt (hW.trans (hV.mono hW.size)))
  generalize txt n0 m0 = T at c1 c2
  go_enter Tryd.func3, Tryd.ntmps3
  go_wp2_with fail
  refine (toFrac_any n0 m0 _).mono ?_
  rintro e w1 ⟨rfl, hb1⟩
  have F0 := (Blk.new 23 w #[.int .i64 n0, .int .i64 m0]).below hb1
  have b0 := below_1 w (.cells #[.int .i64 n0, .int .i64 m0] 23)
  have b1 := b0.trans (hb1.mono b0.size)
  go_wp2_with fail
  refine (c1 _).mono ?_
  rintro e w2 ⟨rfl, hb2⟩
  have b2 := b1.trans (hb2.mono b1.size)
  have F0 := F0.below hb2
  have f0 := FrT.c0 F0
  have f1 := FrT.c1 F0
  go_wp2_with fail
  refine (toFrac_any n0 m0 _).mono ?_
  rintro e w3 ⟨rfl, hb3⟩
  have b3 := b2.trans (hb3.mono b2.size)
  clear f0 f1
  go_wp2_with fail
  refine (c2 _ b3).mono ?_
  rintro e w4 ⟨rfl, hb4⟩
  have b4 := b3.trans (hb4.mono b3.size)
  go_wp2
  go_ret
  exact ⟨rfl, b4⟩

theorem door_met (os : Os) (args : Array Value) : laidMetH Tryd.prog Rows.fnExactFracTextRow.laid ((World.doorLaid Tryd.prog 24 os).forCall (fun _ _ => 0) ⟨#[], args, []⟩).memory :=
  laidMetH_of_parts3 (fuel := 8) (laidMet_of_run' 8 (by kernel_rfl) (by kernel_rfl)) (by kernel_rfl) (by kernel_rfl)

set_option maxRecDepth 100000 in
theorem lifted (os : Os) (started : os.Started) (H : Type) (enc : TypeId × Value → H) :
    ReturnsInHanded {} Tryd.checked os 3 .any (fun w args => (Rows.fnExactFracTextSpec.pre enc Tryd.prog Tryd.f3 [] false w args ∧ laidMetH Tryd.prog Rows.fnExactFracTextRow.laid w) ∧ sizedMet enc Tryd.prog Tryd.f3 (OpenSpec.ofChange Rows.fnExactFracTextSpec) false w args)
      (Rows.fnExactFracTextSpec.post enc Tryd.prog Tryd.f3 false true false false) := by
  refine returnsInHanded_of_change_and (C := Tryd.checked) (X := fun w _ => laidMetH Tryd.prog Rows.fnExactFracTextRow.laid w) (fun _ _ _ hh h => h.of_heap hh) own started (by kernel_rfl) Tryd.func3
    (ChangeSpec.witness_shaped (enc := enc) (C := Tryd.checked) (os := os) (X := fun w _ => laidMetH Tryd.prog Rows.fnExactFracTextRow.laid w) false (World.doorLaid Tryd.prog 24 os) #[.agg #[.int .i64 0, .int .i64 0]] 8 rfl (World.shaped_of_RefB (by kernel_rfl) (by kernel_rfl)) (by kernel_rfl) (by kernel_rfl) (by kernel_rfl) (door_met os _)) ?_
  intro W base args ds gs before hval0 hW _ _ hL _
  have hval : ∀ (j : Nat) t v, Tryd.f3.params[j]? = some t → args[j]? = some v → Value.okWide Tryd.prog W .any base t v := hval0
  have hW' := hW
  obtain ⟨p, q, hA0, hV, rfl, hfz, hnd⟩ := hW
  have hA : DataW.TrodAll enc Tryd.prog W 0 (fun _ => true) true Tryd.f3.params.toList args.toList ds p := hA0
  rw [Tryd.params3] at hA hval
  obtain ⟨v0, vs0, d0, ds0, p0, q0, hargs, rfl, rfl, h0, r0⟩ := trodAll_cons hA
  obtain ⟨rfl, rfl, rfl⟩ := trodAll_nil r0
  obtain rfl : args = #[v0] := by cases args; simp_all
  obtain ⟨rfl, rfl⟩ := trodVars_none hV
  have k0 := h0
  have lt0 : ∀ x ∈ p0, x.block < W.heap.size := by obtain ⟨m, hm⟩ := k0; exact DataW.trod_lt m _ _ _ hm
  obtain ⟨n0, m0, rfl, wn0, wm0⟩ := open_frac (hval 0 23 v0 rfl rfl) h0
  have ht := table hL
  have hlt : 0 < W.heap.size := by
    have hc := ht.cell gP 0 (by decide)
    rcases Nat.lt_or_ge 0 W.heap.size with h3 | h3
    · exact h3
    · have e : W.heap[0]? = none := Array.getElem?_eq_none h3
      simp [World.cell?, e] at hc
  clear hA0 hval0
  refine (walk n0 m0 W (bounds_i64 wn0).1 (bounds_i64 wn0).2 (bounds_i64 wm0).1 (bounds_i64 wm0).2 ht hlt).mono fun e W' ⟨he, bel⟩ => ?_
  subst he
  exact ⟨_, rfl, _, _, _, [], _, [], hW', trodAll_mk1 (shut_bool Tryd.underlying4 _), (trodAll_cons_mk (Below.trod laidOut (by kernel_rfl) (of_decide_eq_true (by kernel_rfl)) k0 bel lt0) trodAll_mk0), rfl, bel.frame _, fun h => by cases h⟩

theorem said : Rows.FnExactFracTextSaid :=
  OpenClaim.holds_of_wide 3 Tryd.f3 rfl rfl rfl rfl rfl rfl rfl ⟨rfl, rfl, rfl, rfl, rfl⟩ rfl rfl rfl rfl rfl (by kernel_rfl) Tryd.func3 (by kernel_rfl)
    (of_decide_eq_true (by kernel_rfl)) (by unfold Func.isWrapper; first | (rw [if_pos (by decide +kernel)]; kernel_rfl) | (rw [if_neg (by decide +kernel)]; exact ⟨rfl, rfl⟩))
    (fun os started H enc _ => lifted os started H enc)

theorem plain (f : FuncId) (fn : Func) (hf : Tryd.pinned.checked.prog.funcNamed "loop.example/g00477/laws.FnExactFracText" = some f) (hfn : Tryd.pinned.checked.prog.funcs[f]? = some fn) :
    false = Tryd.pinned.checked.prog.looks [] ∧ ∀ (j : Nat) t, fn.params[j]? = some t → Tryd.pinned.checked.prog.wantsStandIn t = false := by
  obtain rfl : f = 3 := Option.some.inj ((show Tryd.prog.funcNamed "loop.example/g00477/laws.FnExactFracText" = some 3 by kernel_rfl).symm.trans hf) |>.symm
  obtain rfl : fn = Tryd.f3 := (Option.some.inj (Tryd.func3.symm.trans hfn)).symm
  refine ⟨by kernel_rfl, fun j t ht => ?_⟩
  rw [Tryd.params3] at ht
  have hm : t ∈ [23] := by simpa using Array.mem_of_getElem? ht
  have hall : ([23].all fun u => !Tryd.prog.wantsStandIn u) = true := by kernel_rfl
  exact (show Tryd.prog.wantsStandIn t = false by simpa using List.all_eq_true.1 hall t hm)

theorem card : Rows.FnExactFracTextCardSaid :=
  Claim7.holds_tied_plain_at .later [] _ _ _ _ said (fun _ h => by cases h) (by kernel_rfl) (fun _ h => by cases h) fnExactFracText_row_tie rfl ⟨rfl, rfl⟩ (by kernel_rfl) rfl plain (by kernel_rfl)
end Go.Proofs.YtonimdaimldbgabDoor.fnExactFracText
namespace Go.Proofs.YtonimdaimldbgabDoor
theorem fracText_holds : Rows.FnExactFracTextCardSaid := fnExactFracText.card
#print axioms fracText_holds
end Go.Proofs.YtonimdaimldbgabDoor
