/- For every code the law FnSchemaRead returns true: a text that is read as a schema is the text of that schema. No condition. -/
import Derived.Test.YtndnplpmkkdieaaGreatDoorCards
import Derived.Test.YtndnplpmkkdieaaGreatDoorTie
import Derived.Test.YtndnplpmkkdieaaGreatDoorFnSchemaReadPack20
import Derived.ShutString
import Derived.ChangeVars
import Derived.ChangeOld
import Derived.LaidMore
import Derived.Lib.LaidTab
import Derived.Stop.Joined
import Derived.Stop.LaidErr
import Derived.SevenTiedAt
import Derived.Deep.DeepHandedRow
namespace Go.Proofs.YtndnplpmkkdieaaGreatDoor.fnSchemaRead
open Go.ChangeShapes Go.WideShapes Go.ChangeAt Go.RowKit
open Go.ChangeMaps (open_string shut_string)

theorem own : ownKnob Tryz.prog.godebug = none := by kernel_rfl
theorem laidOut : laidOutB Tryz.prog = true := by kernel_rfl
theorem gPType : (Tryz.prog.globals[4]?).map (·.type) = some 113 := by kernel_rfl
theorem cellsE : Tryz.prog.cellsOf 99 = 1 := by kernel_rfl
theorem cellsT : Tryz.prog.cellsOf 113 = 20 := by kernel_rfl
theorem tabE : (Rows.laid_internal_strconv_uint64pow10 : DataW Unit) = Lib.tabData .u64 Lib.pow10Tab := by kernel_rfl
theorem gE : Tryz.prog.globalNamed "loop.example/g00477/impl.errNoNumber" = some 1 := by kernel_rfl
theorem gEType : (Tryz.prog.globals[1]?).map (·.type) = some 68 := by kernel_rfl
theorem gSType : (Tryz.prog.globals[5]?).map (·.type) = some 68 := by kernel_rfl
theorem gRType : (Tryz.prog.globals[6]?).map (·.type) = some 68 := by kernel_rfl
theorem star : "*" ++ "errors.errorString" = "*errors.errorString" := by decide
theorem rowE (u : TypeId) (h : Tryz.prog.typeName? 3 u = some "*errors.errorString") : u = 132 :=
  typeName_ptr_named (nm := "errors.errorString") (by rw [star]; kernel_rfl) (by kernel_rfl) (by decide) u (by rw [star]; exact h)
theorem cellsS : Tryz.prog.cellsOf 134 = 1 := by kernel_rfl
theorem cellsStr : Tryz.prog.cellsOf 9 = 1 := by kernel_rfl
theorem lt_of_var {W : World} {n : String} {g : Nat} {v : Value} (hg : Tryz.prog.globalNamed n = some g) (h : W.var? Tryz.prog n = some #[v]) : g < W.heap.size := by
  have hc : W.cell? ⟨g, 0, none⟩ = some v := by
    have := World.var?_cell hg h 0
    simpa using this
  rcases Nat.lt_or_ge g W.heap.size with h3 | h3
  · exact h3
  · have e : W.heap[g]? = none := Array.getElem?_eq_none h3
    simp [World.cell?, e] at hc

/-- What the list gives. -/
theorem ready {W : World} (h : laidMetH Tryz.prog Rows.fnSchemaReadRow.laid W) : ∃ u ev, Ready u ev W := by
  rw [MakeChecks.laidMetH_plain _ _ _ (by kernel_rfl)] at h
  have h2 := laidMet.tail (laidMet.tail h)
  have h3 := laidMet.tail (laidMet.tail h2)
  have h4 := laidMet.tail h3
  have h5 := laidMet.tail h4
  obtain ⟨a3, s3, hv3, _⟩ := laid_sentinel h3 gRng gRType Tryz.underlying68 rowE Tryz.underlying132 Tryz.underlying134 rfl rfl Tryz.underlying9 cellsS cellsStr
  obtain ⟨a4, s4, hv4, _⟩ := laid_sentinel h4 gSyn gSType Tryz.underlying68 rowE Tryz.underlying132 Tryz.underlying134 rfl rfl Tryz.underlying9 cellsS cellsStr
  obtain ⟨a5, s5, hv5, _⟩ := laid_sentinel h5 gE gEType Tryz.underlying68 rowE Tryz.underlying132 Tryz.underlying134 rfl rfl Tryz.underlying9 cellsS cellsStr
  rw [tabE] at h2
  have ht : Lib.TabIs Tryz.prog W "internal/strconv.uint64pow10" .u64 Lib.pow10Tab := Lib.tabIs_of_head gPow gPType Tryz.underlying113 Tryz.underlying99 cellsE cellsT h2
  have hlt : 4 < W.heap.size := by
    have hc := ht.cell gPow 0 (by decide)
    rcases Nat.lt_or_ge 4 W.heap.size with h3 | h3
    · exact h3
    · have e : W.heap[4]? = none := Array.getElem?_eq_none h3
      simp [World.cell?, e] at hc
  refine ⟨132, .pointer (some a5), ht, ⟨_, _, hv4⟩, ⟨_, _, hv3⟩, ?_, hlt, lt_of_var gSyn hv4, lt_of_var gRng hv3, lt_of_var gE hv5⟩
  have := World.var?_cell gE hv5 0
  simpa using this


def tabCells : DataW Unit → Array Value
  | .agg l => (l.map fun | .lit (.int k n) => Value.int k n | _ => .int .u8 0).toArray
  | _ => #[]
/-- A world for the witness: what the door's run leaves, the pinned table as it is pinned. -/
def withFirst (w : World) : World :=
  { w with heap := w.heap.modify 2 fun
      | .cells _ t frozen => .cells (tabCells Rows.laid_unicode_utf8_first) t frozen
      | o => o }
theorem laid_met (os : Os) : laidMetH Tryz.prog Rows.fnSchemaReadRow.laid ((withFirst (World.doorLaid Tryz.prog 91 os)).forCall (fun _ _ => 0) ⟨#[], #[.slice none 0 0], []⟩).memory :=
  laidMetH_of_parts3 (fuel := 8) (laidMet_of_run' 8 (by kernel_rfl) (by kernel_rfl)) (by kernel_rfl) (by kernel_rfl)
theorem reads (os : Os) {H : Type} (enc : TypeId × Value → H) : (DataW.whole enc Tryz.prog ((withFirst (World.doorLaid Tryz.prog 91 os)).forCall (fun _ _ => 0) ⟨#[], #[.slice none 0 0], []⟩).memory Tryz.f4.params.toList Rows.fnSchemaReadSpec.vars false #[Value.slice none 0 0].toList 8).isSome = true := by kernel_rfl

set_option maxRecDepth 100000 in
theorem lifted (os : Os) (started : os.Started) (H : Type) (enc : TypeId × Value → H) (F : Stop.Interp) :
    ReturnsInHanded {} Tryz.checked os 4 .any ((OpenSpec.ofChange Rows.fnSchemaReadSpec).preRow enc Tryz.prog Tryz.f4 Rows.fnSchemaReadRow.domain false Rows.fnSchemaReadRow.laid) (((OpenSpec.ofChange Rows.fnSchemaReadSpec).at F).post enc Tryz.prog Tryz.f4 false true false false) := by
  obtain ⟨x, hx⟩ := Option.isSome_iff_exists.1 (reads os enc)
  refine returnsInHanded_of_row (C := Tryz.checked) (s := OpenSpec.ofChange Rows.fnSchemaReadSpec) own started (by kernel_rfl) Tryz.func4
    (witness_row_at (enc := enc) (C := Tryz.checked) false (withFirst (World.doorLaid Tryz.prog 91 os)) #[.slice none 0 0] rfl (by kernel_rfl) (by kernel_rfl) (by kernel_rfl)
      (OpenSpec.preRow_of_cond 8 hx rfl (fun k hk => by cases hk) (by kernel_rfl) (laid_met os))) ?_
  intro W base args ds gs before hval0 hW _ _ _ hL hsh _
  have hval : ∀ (j : Nat) t v, Tryz.f4.params[j]? = some t → args[j]? = some v → Value.okWide Tryz.prog W .any base t v := hval0
  have hW' := hW
  obtain ⟨p, q, hA0, hV, rfl, hfz, hnd⟩ := hW
  have hA : DataW.TrodAll enc Tryz.prog W 0 (fun _ => true) true Tryz.f4.params.toList args.toList ds p := hA0
  rw [Tryz.params4] at hA hval
  obtain ⟨v0, vs0, d0, ds0, p0, q0, hargs, rfl, rfl, h0, r0⟩ := trodAll_cons hA
  obtain ⟨rfl, rfl, rfl⟩ := trodAll_nil r0
  obtain rfl : args = #[v0] := by cases args; simp_all
  obtain ⟨a0, len0, cap0, rfl⟩ := okWide_slice Tryz.underlying22 (hval 0 22 v0 rfl rfl)
  have k0 := h0
  have lt0 : ∀ x ∈ p0, x.block < W.heap.size := by obtain ⟨m, hm⟩ := k0; exact DataW.trod_lt m _ _ _ hm
  obtain ⟨z0, w0⟩ : ∃ zs, IsRow .u8 W a0 len0 cap0 zs := by
    obtain ⟨fuel, hf⟩ := h0
    rcases open_ints Tryz.underlying22 Tryz.underlying5 (by kernel_rfl) hf with ⟨hcs, _⟩ | ⟨x, l, c, zs, hcs, _, hl, hm, hz, _, hcell, hwz⟩
    · simp [Value.cells] at hcs
      obtain ⟨rfl, rfl, rfl⟩ := hcs
      exact ⟨[], .inl ⟨rfl, rfl, rfl, rfl⟩⟩
    · simp [Value.cells] at hcs
      obtain ⟨rfl, rfl, rfl⟩ := hcs
      exact ⟨zs, .inr ⟨_, rfl, hl, hm, by simpa using hz, hcell, hwz⟩⟩
  obtain ⟨g0, t0, cs0, f0, dv, pv, hgs, hg0, ht0, hv0, hd0, rfl⟩ := trodVars_one hV
  obtain rfl := Option.some.inj (gE.symm.trans hg0)
  obtain rfl := Option.some.inj (gEType.symm.trans ht0)
  obtain ⟨x, rfl, hx, rfl, rfl, hcx⟩ := token_of hg0 Tryz.underlying68 hv0 hd0
  obtain ⟨u, ev, hr⟩ := ready hL
  have hlt : 1 < W.heap.size := hr.2.2.2.2.2.2.2
  obtain ⟨m, hm⟩ := Tryz.laysM146.s1_3 W hsh
  have hm' : W.cell? ⟨0, 0, none⟩ = some (.int .i64 m) := hm
  have hg : 0 < W.heap.size := lt_of_cell (a := ⟨0, 0, none⟩) hm'
  clear hA0 hval0
  subst hgs
  refine (schRead_walk a0 len0 cap0 z0 W w0 u ev m ⟨hr, hg, hm'⟩).mono fun e W' ⟨he, bel⟩ => ?_
  subst he
  have hvar := vars_read1 enc gE gEType Tryz.underlying68 (var?_below bel gE hlt hv0) hx
  exact ⟨_, rfl, _, _, _, [], _, _, hW', trodAll_mk1 (shut_bool Tryz.underlying4 _), (trodAll_cons_mk (Below.trod laidOut (by kernel_rfl) (of_decide_eq_true (by kernel_rfl)) k0 bel lt0) trodAll_mk0), hvar _, bel.frame _, fun h => by cases h⟩

theorem said : Rows.FnSchemaReadSaid :=
  OpenClaim.holds_of_cond 4 Tryz.f4 rfl rfl rfl rfl rfl rfl rfl ⟨rfl, rfl, rfl, rfl, rfl⟩ rfl rfl rfl rfl rfl (by kernel_rfl) Tryz.func4 (by kernel_rfl)
    (of_decide_eq_true (by kernel_rfl)) (by unfold Func.isWrapper; first | (rw [if_pos (by decide +kernel)]; kernel_rfl) | (rw [if_neg (by decide +kernel)]; exact ⟨rfl, rfl⟩))
    (fun os started H enc _ F => by rw [OpenClaim.pre_eq_preRow]; exact lifted os started H enc F)

theorem plain (f : FuncId) (fn : Func) (hf : Tryz.pinned.checked.prog.funcNamed "loop.example/g00477/laws.FnSchemaRead" = some f) (hfn : Tryz.pinned.checked.prog.funcs[f]? = some fn) :
    true = Tryz.pinned.checked.prog.looks [] ∧ ∀ (j : Nat) t, fn.params[j]? = some t → Tryz.pinned.checked.prog.wantsStandIn t = false := by
  obtain rfl : f = 4 := Option.some.inj ((show Tryz.prog.funcNamed "loop.example/g00477/laws.FnSchemaRead" = some 4 by kernel_rfl).symm.trans hf) |>.symm
  obtain rfl : fn = Tryz.f4 := (Option.some.inj (Tryz.func4.symm.trans hfn)).symm
  refine ⟨by kernel_rfl, fun j t ht => ?_⟩
  rw [Tryz.params4] at ht
  have hm : t ∈ [22] := by simpa using Array.mem_of_getElem? ht
  have hall : ([22].all fun u => !Tryz.prog.wantsStandIn u) = true := by kernel_rfl
  exact (show Tryz.prog.wantsStandIn t = false by simpa using List.all_eq_true.1 hall t hm)

theorem card : Rows.FnSchemaReadCardSaid :=
  Claim7.holds_tied_plain_at .later [] _ _ _ _ said (fun _ h => by cases h) (by kernel_rfl) (fun _ h => by cases h) fnSchemaRead_row_tie rfl ⟨rfl, rfl⟩ (by kernel_rfl) rfl plain (by kernel_rfl)
end Go.Proofs.YtndnplpmkkdieaaGreatDoor.fnSchemaRead
namespace Go.Proofs.YtndnplpmkkdieaaGreatDoor
theorem fnSchemaRead_holds : Rows.FnSchemaReadCardSaid := fnSchemaRead.card
#print axioms fnSchemaRead_holds
end Go.Proofs.YtndnplpmkkdieaaGreatDoor
