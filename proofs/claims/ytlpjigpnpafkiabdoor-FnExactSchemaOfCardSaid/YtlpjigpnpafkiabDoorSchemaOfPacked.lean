/- For every text the exact law of SchemaOf returns true: the program reads the schema that the specification reads, in memory of its own, or none where it reads none, and a second call gives it anew. The library's tables and errors and the package's own error are as the program's text lays them. No other condition. -/
import Derived.Test.YtlpjigpnpafkiabDoorCards
import Derived.Test.YtlpjigpnpafkiabDoorTie
import Derived.Test.YtlpjigpnpafkiabDoorSchemaOfPack16
import Derived.ShutString
import Derived.ChangeVars
import Derived.ChangeOld
import Derived.LaidMore
import Derived.Lib.LaidTab
import Derived.Stop.Joined
import Derived.Stop.LaidErr
import Derived.SevenTiedAt
import Derived.Deep.DeepHandedRow
namespace Go.Proofs.YtlpjigpnpafkiabDoor.fnExactSchemaOf
open Go.ChangeShapes Go.WideShapes Go.ChangeAt Go.RowKit
open Go.ChangeMaps (open_string shut_string)

theorem own : ownKnob Tryd.prog.godebug = none := by kernel_rfl
theorem laidOut : laidOutB Tryd.prog = true := by kernel_rfl
theorem gPType : (Tryd.prog.globals[2]?).map (·.type) = some 108 := by kernel_rfl
theorem cellsE : Tryd.prog.cellsOf 97 = 1 := by kernel_rfl
theorem cellsT : Tryd.prog.cellsOf 108 = 20 := by kernel_rfl
theorem tabE : (Rows.laid_internal_strconv_uint64pow10 : DataW Unit) = Lib.tabData .u64 Lib.pow10Tab := by kernel_rfl
theorem gE : Tryd.prog.globalNamed "loop.example/g00477/impl.errNoNumber" = some 1 := by kernel_rfl
theorem gEType : (Tryd.prog.globals[1]?).map (·.type) = some 77 := by kernel_rfl
theorem gSType : (Tryd.prog.globals[7]?).map (·.type) = some 77 := by kernel_rfl
theorem gRType : (Tryd.prog.globals[8]?).map (·.type) = some 77 := by kernel_rfl
theorem star : "*" ++ "errors.errorString" = "*errors.errorString" := by decide
theorem rowE (u : TypeId) (h : Tryd.prog.typeName? 3 u = some "*errors.errorString") : u = 136 :=
  typeName_ptr_named (nm := "errors.errorString") (by rw [star]; kernel_rfl) (by kernel_rfl) (by decide) u (by rw [star]; exact h)
theorem cellsS : Tryd.prog.cellsOf 138 = 1 := by kernel_rfl
theorem cellsStr : Tryd.prog.cellsOf 9 = 1 := by kernel_rfl
theorem lt_of_var {W : World} {n : String} {g : Nat} {v : Value} (hg : Tryd.prog.globalNamed n = some g) (h : W.var? Tryd.prog n = some #[v]) : g < W.heap.size := by
  have hc : W.cell? ⟨g, 0, none⟩ = some v := by
    have := World.var?_cell hg h 0
    simpa using this
  rcases Nat.lt_or_ge g W.heap.size with h3 | h3
  · exact h3
  · have e : W.heap[g]? = none := Array.getElem?_eq_none h3
    simp [World.cell?, e] at hc

/-- What the list gives. -/
theorem ready {W : World} (h : laidMetH Tryd.prog Rows.fnExactSchemaOfRow.laid W) : ∃ u ev, Ready u ev W := by
  rw [MakeChecks.laidMetH_plain _ _ _ (by kernel_rfl)] at h
  have h2 := laidMet.tail (laidMet.tail h)
  have h3 := laidMet.tail (laidMet.tail h2)
  have h4 := laidMet.tail h3
  have h5 := laidMet.tail h4
  obtain ⟨a3, s3, hv3, _⟩ := laid_sentinel h3 gRng gRType Tryd.underlying77 rowE Tryd.underlying136 Tryd.underlying138 rfl rfl Tryd.underlying9 cellsS cellsStr
  obtain ⟨a4, s4, hv4, _⟩ := laid_sentinel h4 gSyn gSType Tryd.underlying77 rowE Tryd.underlying136 Tryd.underlying138 rfl rfl Tryd.underlying9 cellsS cellsStr
  obtain ⟨a5, s5, hv5, _⟩ := laid_sentinel h5 gE gEType Tryd.underlying77 rowE Tryd.underlying136 Tryd.underlying138 rfl rfl Tryd.underlying9 cellsS cellsStr
  rw [tabE] at h2
  have ht : Lib.TabIs Tryd.prog W "internal/strconv.uint64pow10" .u64 Lib.pow10Tab := Lib.tabIs_of_head gPow gPType Tryd.underlying108 Tryd.underlying97 cellsE cellsT h2
  have hlt : 2 < W.heap.size := by
    have hc := ht.cell gPow 0 (by decide)
    rcases Nat.lt_or_ge 2 W.heap.size with h3 | h3
    · exact h3
    · have e : W.heap[2]? = none := Array.getElem?_eq_none h3
      simp [World.cell?, e] at hc
  refine ⟨136, .pointer (some a5), ht, ⟨_, _, hv4⟩, ⟨_, _, hv3⟩, ?_, hlt, lt_of_var gSyn hv4, lt_of_var gRng hv3, lt_of_var gE hv5⟩
  have := World.var?_cell gE hv5 0
  simpa using this


theorem walk (a0 : ByteArray) (w0 : a0.size ≤ maxLen) (u : TypeId) (ev : Value) (m : Int) (w : World) (hE : Env u ev m w) :
    Calls Tryd.prog 6 #[.string a0] w fun e w' => e = .returned (.bool true) ∧ Below w.heap.size w w' := by
  unfold maxLen at w0
  by_cases hs : a0.size ≤ 1048576
  · exact schemaOf_walk a0 hs u ev m w hE
  · clear hE
    go_enter Tryd.func6, Tryd.ntmps6
    go_wp2_with fail
    go_ret
    exact ⟨rfl, Below.refl _ _⟩

def tabCells : DataW Unit → Array Value
  | .agg l => (l.map fun | .lit (.int k n) => Value.int k n | _ => .int .u8 0).toArray
  | _ => #[]
/-- A world for the witness: what the door's run leaves, the pinned table as it is pinned. -/
def withFirst (w : World) : World :=
  { w with heap := w.heap.modify 3 fun
      | .cells _ t frozen => .cells (tabCells Rows.laid_unicode_utf8_first) t frozen
      | o => o }
theorem laid_met (os : Os) : laidMetH Tryd.prog Rows.fnExactSchemaOfRow.laid ((withFirst (World.doorLaid Tryd.prog 91 os)).forCall (fun _ _ => 0) ⟨#[], #[.string ByteArray.empty], []⟩).memory :=
  laidMetH_of_parts3 (fuel := 8) (laidMet_of_run' 8 (by kernel_rfl) (by kernel_rfl)) (by kernel_rfl) (by kernel_rfl)
theorem reads (os : Os) {H : Type} (enc : TypeId × Value → H) : (DataW.whole enc Tryd.prog ((withFirst (World.doorLaid Tryd.prog 91 os)).forCall (fun _ _ => 0) ⟨#[], #[.string ByteArray.empty], []⟩).memory Tryd.f6.params.toList Rows.fnExactSchemaOfSpec.vars false #[Value.string ByteArray.empty].toList 8).isSome = true := by kernel_rfl

set_option maxRecDepth 100000 in
theorem lifted (os : Os) (started : os.Started) (H : Type) (enc : TypeId × Value → H) (F : Stop.Interp) :
    ReturnsInHanded {} Tryd.checked os 6 .any ((OpenSpec.ofChange Rows.fnExactSchemaOfSpec).preRow enc Tryd.prog Tryd.f6 Rows.fnExactSchemaOfRow.domain false Rows.fnExactSchemaOfRow.laid) (((OpenSpec.ofChange Rows.fnExactSchemaOfSpec).at F).post enc Tryd.prog Tryd.f6 false true false false) := by
  obtain ⟨x, hx⟩ := Option.isSome_iff_exists.1 (reads os enc)
  refine returnsInHanded_of_row (C := Tryd.checked) (s := OpenSpec.ofChange Rows.fnExactSchemaOfSpec) own started (by kernel_rfl) Tryd.func6
    (witness_row_at (enc := enc) (C := Tryd.checked) false (withFirst (World.doorLaid Tryd.prog 91 os)) #[.string ByteArray.empty] rfl (by kernel_rfl) (by kernel_rfl) (by kernel_rfl)
      (OpenSpec.preRow_of_cond 8 hx rfl (fun k hk => by cases hk) (by kernel_rfl) (laid_met os))) ?_
  intro W base args ds gs before hval0 hW _ _ _ hL hsh _
  have hval : ∀ (j : Nat) t v, Tryd.f6.params[j]? = some t → args[j]? = some v → Value.okWide Tryd.prog W .any base t v := hval0
  have hW' := hW
  obtain ⟨p, q, hA0, hV, rfl, hfz, hnd⟩ := hW
  have hA : DataW.TrodAll enc Tryd.prog W 0 (fun _ => true) true Tryd.f6.params.toList args.toList ds p := hA0
  rw [Tryd.params6] at hA hval
  obtain ⟨v0, vs0, d0, ds0, p0, q0, hargs, rfl, rfl, h0, r0⟩ := trodAll_cons hA
  obtain ⟨rfl, rfl, rfl⟩ := trodAll_nil r0
  obtain rfl : args = #[v0] := by cases args; simp_all
  obtain ⟨a0, rfl, rfl, rfl, w0⟩ := open_string Tryd.underlying9 (hval 0 9 v0 rfl rfl) h0
  obtain ⟨g0, t0, cs0, f0, dv, pv, hgs, hg0, ht0, hv0, hd0, rfl⟩ := trodVars_one hV
  obtain rfl := Option.some.inj (gE.symm.trans hg0)
  obtain rfl := Option.some.inj (gEType.symm.trans ht0)
  obtain ⟨x, rfl, hx, rfl, rfl, hcx⟩ := token_of hg0 Tryd.underlying77 hv0 hd0
  obtain ⟨u, ev, hr⟩ := ready hL
  have hlt : 1 < W.heap.size := hr.2.2.2.2.2.2.2
  obtain ⟨m, hm⟩ := Tryd.laysM146.s1_3 W hsh
  have hm' : W.cell? ⟨0, 0, none⟩ = some (.int .i64 m) := hm
  have hg : 0 < W.heap.size := lt_of_cell (a := ⟨0, 0, none⟩) hm'
  clear hA0 hval0
  subst hgs
  refine (walk a0 w0 u ev m W ⟨hr, hg, hm'⟩).mono fun e W' ⟨he, bel⟩ => ?_
  subst he
  have hvar := vars_read1 enc gE gEType Tryd.underlying77 (var?_below bel gE hlt hv0) hx
  exact ⟨_, rfl, _, _, _, [], _, _, hW', trodAll_mk1 (shut_bool Tryd.underlying4 _), (trodAll_cons_mk (shut_string Tryd.underlying9 w0) trodAll_mk0), hvar _, bel.frame _, fun h => by cases h⟩

theorem said : Rows.FnExactSchemaOfSaid :=
  OpenClaim.holds_of_cond 6 Tryd.f6 rfl rfl rfl rfl rfl rfl rfl ⟨rfl, rfl, rfl, rfl, rfl⟩ rfl rfl rfl rfl rfl (by kernel_rfl) Tryd.func6 (by kernel_rfl)
    (of_decide_eq_true (by kernel_rfl)) (by unfold Func.isWrapper; first | (rw [if_pos (by decide +kernel)]; kernel_rfl) | (rw [if_neg (by decide +kernel)]; exact ⟨rfl, rfl⟩))
    (fun os started H enc _ F => by rw [OpenClaim.pre_eq_preRow]; exact lifted os started H enc F)

theorem plain (f : FuncId) (fn : Func) (hf : Tryd.pinned.checked.prog.funcNamed "loop.example/g00477/laws.FnExactSchemaOf" = some f) (hfn : Tryd.pinned.checked.prog.funcs[f]? = some fn) :
    true = Tryd.pinned.checked.prog.looks [] ∧ ∀ (j : Nat) t, fn.params[j]? = some t → Tryd.pinned.checked.prog.wantsStandIn t = false := by
  obtain rfl : f = 6 := Option.some.inj ((show Tryd.prog.funcNamed "loop.example/g00477/laws.FnExactSchemaOf" = some 6 by kernel_rfl).symm.trans hf) |>.symm
  obtain rfl : fn = Tryd.f6 := (Option.some.inj (Tryd.func6.symm.trans hfn)).symm
  refine ⟨by kernel_rfl, fun j t ht => ?_⟩
  rw [Tryd.params6] at ht
  have hm : t ∈ [9] := by simpa using Array.mem_of_getElem? ht
  have hall : ([9].all fun u => !Tryd.prog.wantsStandIn u) = true := by kernel_rfl
  exact (show Tryd.prog.wantsStandIn t = false by simpa using List.all_eq_true.1 hall t hm)

theorem card : Rows.FnExactSchemaOfCardSaid :=
  Claim7.holds_tied_plain_at .later [] _ _ _ _ said (fun _ h => by cases h) (by kernel_rfl) (fun _ h => by cases h) fnExactSchemaOf_row_tie rfl ⟨rfl, rfl⟩ (by kernel_rfl) rfl plain (by kernel_rfl)
end Go.Proofs.YtlpjigpnpafkiabDoor.fnExactSchemaOf
namespace Go.Proofs.YtlpjigpnpafkiabDoor
theorem schemaOf_holds : Rows.FnExactSchemaOfCardSaid := fnExactSchemaOf.card
#print axioms schemaOf_holds
end Go.Proofs.YtlpjigpnpafkiabDoor
