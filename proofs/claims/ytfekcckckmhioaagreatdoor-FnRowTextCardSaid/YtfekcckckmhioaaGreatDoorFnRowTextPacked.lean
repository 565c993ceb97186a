/- For every code the law FnRowText returns true: an example is read from its text as it was. The library's tables and errors, the package's own error and the type that errors.As asks for are as the program's text lays them. No other condition. -/
import Derived.Test.YtfekcckckmhioaaGreatDoorCards
import Derived.Test.YtfekcckckmhioaaGreatDoorTie
import Derived.Test.YtfekcckckmhioaaGreatDoorFnRowTextPack26
import Derived.ShutString
import Derived.ChangeVars
import Derived.ChangeOld
import Derived.LaidMore
import Derived.LaidHandle
import Derived.Lib.LaidTab
import Derived.Stop.Joined
import Derived.Stop.LaidErr
import Derived.SevenTiedAt
import Derived.Deep.DeepHandedRow
namespace Go.Proofs.YtfekcckckmhioaaGreatDoor.fnRowText
open Go.ChangeShapes Go.WideShapes Go.ChangeAt Go.RowKit
set_option linter.unusedVariables false

theorem own : ownKnob Tryz.prog.godebug = none := by kernel_rfl
theorem laidOut : laidOutB Tryz.prog = true := by kernel_rfl
theorem gPType : (Tryz.prog.globals[3]?).map (·.type) = some 180 := by kernel_rfl
theorem cellsE : Tryz.prog.cellsOf 172 = 1 := by kernel_rfl
theorem cellsT : Tryz.prog.cellsOf 180 = 20 := by kernel_rfl
theorem tabE : (Rows.laid_internal_strconv_uint64pow10 : DataW Unit) = Lib.tabData .u64 Lib.pow10Tab := by kernel_rfl
theorem gE : Tryz.prog.globalNamed "loop.example/g00477/impl.errNoNumber" = some 2 := by kernel_rfl
theorem gEType : (Tryz.prog.globals[2]?).map (·.type) = some 62 := by kernel_rfl
theorem gSType : (Tryz.prog.globals[6]?).map (·.type) = some 62 := by kernel_rfl
theorem gRType : (Tryz.prog.globals[7]?).map (·.type) = some 62 := by kernel_rfl
theorem gH : Tryz.prog.globalNamed "errors.errorType" = some 0 := by kernel_rfl
theorem rtRow : (Tryz.prog.cutTypes.find? (·.1 == "internal/reflectlite.rtype")).map (·.2) = some 144 := by kernel_rfl
theorem oneRow : ((List.range 236).filter fun t => Tryz.prog.rowNamed t [101, 114, 114, 111, 114]) = [62] := by kernel_rfl
theorem typesSize : Tryz.prog.types.size = 236 := by kernel_rfl
theorem handleE : typeHandle Tryz.prog 62 = .pointer (some ⟨10, 62, none⟩) := by kernel_rfl
theorem star : "*" ++ "errors.errorString" = "*errors.errorString" := by decide
theorem rowE (u : TypeId) (h : Tryz.prog.typeName? 3 u = some "*errors.errorString") : u = 206 :=
  typeName_ptr_named (nm := "errors.errorString") (by rw [star]; kernel_rfl) (by kernel_rfl) (by decide) u (by rw [star]; exact h)
theorem cellsS : Tryz.prog.cellsOf 208 = 1 := by kernel_rfl
theorem cellsStr : Tryz.prog.cellsOf 9 = 1 := by kernel_rfl
theorem lt_of_var {W : World} {n : String} {g : Nat} {v : Value} (hg : Tryz.prog.globalNamed n = some g) (h : W.var? Tryz.prog n = some #[v]) : g < W.heap.size := by
  have hc : W.cell? ⟨g, 0, none⟩ = some v := by
    have := World.var?_cell hg h 0
    simpa using this
  rcases Nat.lt_or_ge g W.heap.size with h3 | h3
  · exact h3
  · have e : W.heap[g]? = none := Array.getElem?_eq_none h3
    simp [World.cell?, e] at hc

theorem partH : (Rows.fnRowTextRow.laid.filter fun x => x.2.handleName?.isSome) = [("errors.errorType", Rows.laid_errors_errorType)] := by kernel_rfl
theorem partN : (Rows.fnRowTextRow.laid.filter fun x => x.2.handleName?.isNone) = [("math/bits.deBruijn32tab", Rows.laid_math_bits_deBruijn32tab), ("math/bits.deBruijn64tab", Rows.laid_math_bits_deBruijn64tab), ("internal/strconv.uint64pow10", Rows.laid_internal_strconv_uint64pow10), ("unicode/utf8.acceptRanges", Rows.laid_unicode_utf8_acceptRanges), ("strconv.ErrRange", Rows.laid_strconv_ErrRange), ("strconv.ErrSyntax", Rows.laid_strconv_ErrSyntax), ("loop.example/g00477/impl.errNoNumber", Rows.laid_loop_example_g00477_impl_errNoNumber), ("unicode/utf8.first", Rows.laid_unicode_utf8_first)] := by kernel_rfl
/-- What the list gives. -/
theorem ready {W : World} (h0 : laidMetH Tryz.prog Rows.fnRowTextRow.laid W) : (∃ u ev, Ready u ev W) ∧ EtAt W := by
  unfold laidMetH at h0
  rw [partH, partN] at h0
  obtain ⟨h, hh⟩ : laidMet Tryz.prog [("math/bits.deBruijn32tab", Rows.laid_math_bits_deBruijn32tab), ("math/bits.deBruijn64tab", Rows.laid_math_bits_deBruijn64tab), ("internal/strconv.uint64pow10", Rows.laid_internal_strconv_uint64pow10), ("unicode/utf8.acceptRanges", Rows.laid_unicode_utf8_acceptRanges), ("strconv.ErrRange", Rows.laid_strconv_ErrRange), ("strconv.ErrSyntax", Rows.laid_strconv_ErrSyntax), ("loop.example/g00477/impl.errNoNumber", Rows.laid_loop_example_g00477_impl_errNoNumber), ("unicode/utf8.first", Rows.laid_unicode_utf8_first)] W ∧ handlesMet Tryz.prog [("errors.errorType", Rows.laid_errors_errorType)] W := h0
  constructor
  · have h2 := laidMet.tail (laidMet.tail h)
    have h3 := laidMet.tail (laidMet.tail h2)
    have h4 := laidMet.tail h3
    have h5 := laidMet.tail h4
    obtain ⟨a3, s3, hv3, _⟩ := laid_sentinel h3 gRng gRType Tryz.underlying62 rowE Tryz.underlying206 Tryz.underlying208 rfl rfl Tryz.underlying9 cellsS cellsStr
    obtain ⟨a4, s4, hv4, _⟩ := laid_sentinel h4 gSyn gSType Tryz.underlying62 rowE Tryz.underlying206 Tryz.underlying208 rfl rfl Tryz.underlying9 cellsS cellsStr
    obtain ⟨a5, s5, hv5, _⟩ := laid_sentinel h5 gE gEType Tryz.underlying62 rowE Tryz.underlying206 Tryz.underlying208 rfl rfl Tryz.underlying9 cellsS cellsStr
    rw [tabE] at h2
    have ht : Lib.TabIs Tryz.prog W "internal/strconv.uint64pow10" .u64 Lib.pow10Tab := Lib.tabIs_of_head gPow gPType Tryz.underlying180 Tryz.underlying172 cellsE cellsT h2
    have hlt : 3 < W.heap.size := by
      have hc := ht.cell gPow 0 (by decide)
      rcases Nat.lt_or_ge 3 W.heap.size with h3 | h3
      · exact h3
      · have e : W.heap[3]? = none := Array.getElem?_eq_none h3
        simp [World.cell?, e] at hc
    refine ⟨206, .pointer (some a5), ht, ⟨_, _, hv4⟩, ⟨_, _, hv3⟩, ?_, hlt, lt_of_var gSyn hv4, lt_of_var gRng hv3, lt_of_var gE hv5⟩
    have := World.var?_cell gE hv5 0
    simpa using this
  · obtain ⟨name, u, ty, e1, e2, e3, e4, e5⟩ := hh _ (List.mem_singleton.2 rfl)
    have en : name = [101, 114, 114, 111, 114] := (Option.some.inj e1).symm
    subst en
    obtain rfl := Option.some.inj (rtRow.symm.trans e2)
    have hm : ty ∈ (List.range 236).filter fun t => Tryz.prog.rowNamed t [101, 114, 114, 111, 114] := List.mem_filter.2 ⟨List.mem_range.2 (by rw [← typesSize]; exact e3), e4⟩
    rw [oneRow] at hm
    obtain rfl := List.mem_singleton.1 hm
    rw [handleE] at e5
    exact ⟨lt_of_var gH e5, by simpa using World.var?_cell gH e5 0⟩


theorem walk {w : World} (a0 : Option Addr) (len0 cap0 : Nat) (z0 : List Int) (h0 : IsRow .u8 w a0 len0 cap0 z0) (u : TypeId) (ev : Value) (m : Int) (_ : World) (hE : Env u ev m w) (hg : EtAt w) :
    Calls Tryz.prog 4 #[.slice a0 len0 cap0] w fun e w' => e = .returned (.bool true) ∧ Below w.heap.size w w' := rowText_walk a0 len0 cap0 z0 w h0 u ev m hE hg

def tabCells : DataW Unit → Array Value
  | .agg l => (l.map fun | .lit (.int k n) => Value.int k n | _ => .int .u8 0).toArray
  | _ => #[]
/-- A world for the witness: what the door's run leaves, the pinned table as it is pinned. -/
def withFirst (w : World) : World :=
  { w with heap := w.heap.modify 4 fun
      | .cells _ t frozen => .cells (tabCells Rows.laid_unicode_utf8_first) t frozen
      | o => o }
theorem laid_met (os : Os) : laidMetH Tryz.prog Rows.fnRowTextRow.laid ((withFirst (World.doorLaid Tryz.prog 98 os)).forCall (fun _ _ => 0) ⟨#[], #[.slice none 0 0], []⟩).memory :=
  laidMetH_of_parts3 (fuel := 8) (laidMet_of_run' 8 (by kernel_rfl) (by kernel_rfl)) (by kernel_rfl) (by kernel_rfl)
theorem reads (os : Os) {H : Type} (enc : TypeId × Value → H) : (DataW.whole enc Tryz.prog ((withFirst (World.doorLaid Tryz.prog 98 os)).forCall (fun _ _ => 0) ⟨#[], #[.slice none 0 0], []⟩).memory Tryz.f4.params.toList Rows.fnRowTextSpec.vars false #[(Value.slice none 0 0)].toList 8).isSome = true := by kernel_rfl

set_option maxRecDepth 100000 in
theorem lifted (os : Os) (started : os.Started) (H : Type) (enc : TypeId × Value → H) (F : Stop.Interp) :
    ReturnsInHanded {} Tryz.checked os 4 .any ((OpenSpec.ofChange Rows.fnRowTextSpec).preRow enc Tryz.prog Tryz.f4 Rows.fnRowTextRow.domain false Rows.fnRowTextRow.laid) (((OpenSpec.ofChange Rows.fnRowTextSpec).at F).post enc Tryz.prog Tryz.f4 false true false false) := by
  obtain ⟨x, hx⟩ := Option.isSome_iff_exists.1 (reads os enc)
  refine returnsInHanded_of_row (C := Tryz.checked) (s := OpenSpec.ofChange Rows.fnRowTextSpec) own started (by kernel_rfl) Tryz.func4
    (witness_row_at (enc := enc) (C := Tryz.checked) false (withFirst (World.doorLaid Tryz.prog 98 os)) #[.slice none 0 0] rfl (by kernel_rfl) (by kernel_rfl) (by kernel_rfl)
      (OpenSpec.preRow_of_cond 8 hx rfl (fun k hk => by cases hk) (by kernel_rfl) (laid_met os))) ?_
  intro W base args ds gs before hval0 hW _ _ _ hL hsh _
  have hval : ∀ (j : Nat) t v, Tryz.f4.params[j]? = some t → args[j]? = some v → Value.okWide Tryz.prog W .any base t v := hval0
  have hW' := hW
  obtain ⟨p, q, hA0, hV, rfl, hfz, hnd⟩ := hW
  have hA : DataW.TrodAll enc Tryz.prog W 0 (fun _ => true) true Tryz.f4.params.toList args.toList ds p := hA0
  rw [Tryz.params4] at hA hval
  obtain ⟨v0, vs0, d0, ds0, p0, q0, hargs, rfl, rfl, h0, r0⟩ := trodAll_cons hA
  obtain ⟨rfl, rfl, rfl⟩ := trodAll_nil r0
  obtain rfl : args = #[v0] := by cases args; simp_all
  have k0 := h0
  have lt0 : ∀ x ∈ p0, x.block < W.heap.size := by obtain ⟨m, hm⟩ := k0; exact DataW.trod_lt m _ _ _ hm
  obtain ⟨b0, len0, cap0, rfl⟩ := okWide_slice Tryz.underlying26 (hval 0 26 v0 rfl rfl)
  obtain ⟨z0, w0⟩ : ∃ zs, IsRow .u8 W b0 len0 cap0 zs := by
    obtain ⟨fuel, hf⟩ := h0
    rcases open_ints Tryz.underlying26 Tryz.underlying5 (by kernel_rfl) hf with ⟨hcs, _⟩ | ⟨x, l, c, zs, hcs, _, hl, hm, hz, _, hcell, hwz⟩
    · simp [Value.cells] at hcs
      obtain ⟨rfl, rfl, rfl⟩ := hcs
      exact ⟨[], .inl ⟨rfl, rfl, rfl, rfl⟩⟩
    · simp [Value.cells] at hcs
      obtain ⟨rfl, rfl, rfl⟩ := hcs
      exact ⟨zs, .inr ⟨_, rfl, hl, hm, by simpa using hz, hcell, hwz⟩⟩
  obtain ⟨g0, t0, cs0, f0, dv, pv, hgs, hg0, ht0, hv0, hd0, rfl⟩ := trodVars_one hV
  obtain rfl := Option.some.inj (gE.symm.trans hg0)
  obtain rfl := Option.some.inj (gEType.symm.trans ht0)
  obtain ⟨x, rfl, hx, rfl, rfl, hcx⟩ := token_of hg0 Tryz.underlying62 hv0 hd0
  obtain ⟨⟨u, ev, hr⟩, het⟩ := ready hL
  have hlt : 2 < W.heap.size := hr.2.2.2.2.2.2.2
  obtain ⟨m, hm⟩ := Tryz.laysM146.s1_3 W hsh
  have hm' : W.cell? ⟨1, 0, none⟩ = some (.int .i64 m) := hm
  have hg : 1 < W.heap.size := lt_of_cell (a := ⟨1, 0, none⟩) hm'
  clear hA0 hval0
  subst hgs
  refine (walk b0 len0 cap0 z0 w0 u ev m W ⟨hr, hg, hm'⟩ het).mono fun e W' ⟨he, bel⟩ => ?_
  subst he
  have hvar := vars_read1 enc gE gEType Tryz.underlying62 (var?_below bel gE hlt hv0) hx
  exact ⟨_, rfl, _, _, _, [], _, _, hW', trodAll_mk1 (shut_bool Tryz.underlying4 _), (trodAll_cons_mk (Below.trod laidOut (by kernel_rfl) (of_decide_eq_true (by kernel_rfl)) k0 bel lt0) trodAll_mk0), hvar _, bel.frame _, fun h => by cases h⟩

theorem said : Rows.FnRowTextSaid :=
  OpenClaim.holds_of_cond 4 Tryz.f4 rfl rfl rfl rfl rfl rfl rfl ⟨rfl, rfl, rfl, rfl, rfl⟩ rfl rfl rfl rfl rfl (by kernel_rfl) Tryz.func4 (by kernel_rfl)
    (of_decide_eq_true (by kernel_rfl)) (by unfold Func.isWrapper; first | (rw [if_pos (by decide +kernel)]; kernel_rfl) | (rw [if_neg (by decide +kernel)]; exact ⟨rfl, rfl⟩))
    (fun os started H enc _ F => by rw [OpenClaim.pre_eq_preRow]; exact lifted os started H enc F)

theorem plain (f : FuncId) (fn : Func) (hf : Tryz.pinned.checked.prog.funcNamed "loop.example/g00477/laws.FnRowText" = some f) (hfn : Tryz.pinned.checked.prog.funcs[f]? = some fn) :
    true = Tryz.pinned.checked.prog.looks [] ∧ ∀ (j : Nat) t, fn.params[j]? = some t → Tryz.pinned.checked.prog.wantsStandIn t = false := by
  obtain rfl : f = 4 := Option.some.inj ((show Tryz.prog.funcNamed "loop.example/g00477/laws.FnRowText" = some 4 by kernel_rfl).symm.trans hf) |>.symm
  obtain rfl : fn = Tryz.f4 := (Option.some.inj (Tryz.func4.symm.trans hfn)).symm
  refine ⟨by kernel_rfl, fun j t ht => ?_⟩
  rw [Tryz.params4] at ht
  have hm : t ∈ [26] := by simpa using Array.mem_of_getElem? ht
  have hall : ([26].all fun u => !Tryz.prog.wantsStandIn u) = true := by kernel_rfl
  exact (show Tryz.prog.wantsStandIn t = false by simpa using List.all_eq_true.1 hall t hm)

theorem card : Rows.FnRowTextCardSaid :=
  Claim7.holds_tied_plain_at .later [] _ _ _ _ said (fun _ h => by cases h) (by kernel_rfl) (fun _ h => by cases h) fnRowText_row_tie rfl ⟨rfl, rfl⟩ (by kernel_rfl) rfl plain (by kernel_rfl)
end Go.Proofs.YtfekcckckmhioaaGreatDoor.fnRowText
namespace Go.Proofs.YtfekcckckmhioaaGreatDoor
theorem fnRowText_holds : Rows.FnRowTextCardSaid := fnRowText.card
#print axioms fnRowText_holds
end Go.Proofs.YtfekcckckmhioaaGreatDoor
