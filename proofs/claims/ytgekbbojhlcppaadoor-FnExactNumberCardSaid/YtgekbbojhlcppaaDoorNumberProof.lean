/- For every text the exact law of Number returns true: the program reads the number that the specification reads, or none where it reads none. The library's tables and errors and the package's own error are as the program's text lays them. No other condition. -/
import Derived.Test.YtgekbbojhlcppaaDoorCards
import Derived.Test.YtgekbbojhlcppaaDoorTie
import Derived.Test.YtgekbbojhlcppaaDoorNc
import Derived.ShutString
import Derived.ChangeVars
import Derived.ChangeOld
import Derived.LaidMore
import Derived.Stop.Joined
import Derived.Stop.LaidErr
import Derived.SevenTiedAt
namespace Go.Proofs.YtgekbbojhlcppaaDoor.fnExactNumber
open Go.ChangeShapes Go.WideShapes Go.ChangeAt Go.RowKit
open Go.ChangeMaps (open_string shut_string)

theorem own : ownKnob Tryd.prog.godebug = none := by kernel_rfl
theorem gPType : (Tryd.prog.globals[4]?).map (·.type) = some 93 := by kernel_rfl
theorem cellsE : Tryd.prog.cellsOf 77 = 1 := by kernel_rfl
theorem cellsT : Tryd.prog.cellsOf 93 = 20 := by kernel_rfl
theorem tabE : (Rows.laid_internal_strconv_uint64pow10 : DataW Unit) = Lib.tabData .u64 Lib.pow10Tab := by kernel_rfl
theorem gE : Tryd.prog.globalNamed "loop.example/g00477/impl.errNoNumber" = some 1 := by kernel_rfl
theorem gEType : (Tryd.prog.globals[1]?).map (·.type) = some 60 := by kernel_rfl
theorem gSType : (Tryd.prog.globals[2]?).map (·.type) = some 60 := by kernel_rfl
theorem gRType : (Tryd.prog.globals[3]?).map (·.type) = some 60 := by kernel_rfl
theorem star : "*" ++ "errors.errorString" = "*errors.errorString" := by decide
theorem rowE (u : TypeId) (h : Tryd.prog.typeName? 3 u = some "*errors.errorString") : u = 98 :=
  typeName_ptr_named (nm := "errors.errorString") (by rw [star]; kernel_rfl) (by kernel_rfl) (by decide) u (by rw [star]; exact h)
theorem cellsS : Tryd.prog.cellsOf 100 = 1 := by kernel_rfl
theorem cellsStr : Tryd.prog.cellsOf 9 = 1 := by kernel_rfl
theorem lt_of_var {W : World} {n : String} {g : Nat} {v : Value} (hg : Tryd.prog.globalNamed n = some g) (h : W.var? Tryd.prog n = some #[v]) : g < W.heap.size := by
  have hc : W.cell? ⟨g, 0, none⟩ = some v := by
    have := World.var?_cell hg h 0
    simpa using this
  rcases Nat.lt_or_ge g W.heap.size with h3 | h3
  · exact h3
  · have e : W.heap[g]? = none := Array.getElem?_eq_none h3
    simp [World.cell?, e] at hc

/-- What the list gives. -/
theorem ready {W : World} (h : laidMetH Tryd.prog Rows.fnExactNumberRow.laid W) : ∃ u ev, Ready u ev W := by
  rw [MakeChecks.laidMetH_plain _ _ _ (by kernel_rfl)] at h
  have h2 := laidMet.tail (laidMet.tail h)
  have h3 := laidMet.tail h2
  have h4 := laidMet.tail h3
  have h5 := laidMet.tail h4
  obtain ⟨a3, s3, hv3, _⟩ := laid_sentinel h3 gRng gRType Tryd.underlying60 rowE Tryd.underlying98 Tryd.underlying100 rfl rfl Tryd.underlying9 cellsS cellsStr
  obtain ⟨a4, s4, hv4, _⟩ := laid_sentinel h4 gSyn gSType Tryd.underlying60 rowE Tryd.underlying98 Tryd.underlying100 rfl rfl Tryd.underlying9 cellsS cellsStr
  obtain ⟨a5, s5, hv5, _⟩ := laid_sentinel h5 gE gEType Tryd.underlying60 rowE Tryd.underlying98 Tryd.underlying100 rfl rfl Tryd.underlying9 cellsS cellsStr
  rw [tabE] at h2
  have ht : Lib.TabIs Tryd.prog W "internal/strconv.uint64pow10" .u64 Lib.pow10Tab := Lib.tabIs_of_head gPow gPType Tryd.underlying93 Tryd.underlying77 cellsE cellsT h2
  have hlt : 4 < W.heap.size := by
    have hc := ht.cell gPow 0 (by decide)
    rcases Nat.lt_or_ge 4 W.heap.size with h3 | h3
    · exact h3
    · have e : W.heap[4]? = none := Array.getElem?_eq_none h3
      simp [World.cell?, e] at hc
  refine ⟨98, .pointer (some a5), ht, ⟨_, _, hv4⟩, ⟨_, _, hv3⟩, ?_, hlt, lt_of_var gSyn hv4, lt_of_var gRng hv3, lt_of_var gE hv5⟩
  have := World.var?_cell gE hv5 0
  simpa using this

theorem got_form (o : Option Int) : ∃ x y, gotInt o = .tuple #[.int .i64 x, .bool y] := by cases o <;> exact ⟨_, _, rfl⟩

set_option maxHeartbeats 800000 in
theorem walk (a0 : ByteArray) (w0 : a0.size ≤ maxLen) (u : TypeId) (ev : Value) (w : World) (hr : Ready u ev w) :
    Calls Tryd.prog 6 #[.string a0] w fun e w' => e = .returned (.bool true) ∧ Below w.heap.size w w' := by
  unfold maxLen at w0
  by_cases hs : a0.size ≤ 1048576
  · have S := specNumber_any a0 w w0
    have I := fun w1 (hb : Below w.heap.size w w1) => implNumber_any a0 u ev w1 hs (hr.later hb)
    rw [number_one] at S
    generalize must 0 999999 a0.data.toList = o at S I
    obtain ⟨x, y, hxy⟩ := got_form o
    rw [hxy] at S I
    clear hxy hr
    go_enter Tryd.func6, Tryd.ntmps6
    go_wp2_with fail
    refine S.mono ?_
    clear S
    rintro e w1 ⟨rfl, hb1⟩
    have hs1 := hb1.size
    go_wp2_with fail
    refine (I w1 hb1).mono ?_
    clear I
    rintro e w2 ⟨rfl, hb2⟩
    go_wp2
    go_ret
    exact ⟨rfl, hb1.trans (hb2.mono hs1)⟩
  · clear hr
    go_enter Tryd.func6, Tryd.ntmps6
    go_wp2_with fail
    go_ret
    exact ⟨rfl, Below.refl _ _⟩

theorem door_met (os : Os) (args : Array Value) : laidMetH Tryd.prog Rows.fnExactNumberRow.laid ((World.doorLaid Tryd.prog 110 os).forCall (fun _ _ => 0) ⟨#[], args, []⟩).memory :=
  laidMetH_of_parts3 (fuel := 8) (laidMet_of_run' 8 (by kernel_rfl) (by kernel_rfl)) (by kernel_rfl) (by kernel_rfl)

set_option maxRecDepth 100000 in
theorem lifted (os : Os) (started : os.Started) (H : Type) (enc : TypeId × Value → H) :
    ReturnsInHanded {} Tryd.checked os 6 .any (fun w args => (Rows.fnExactNumberSpec.pre enc Tryd.prog Tryd.f6 [] false w args ∧ laidMetH Tryd.prog Rows.fnExactNumberRow.laid w) ∧ sizedMet enc Tryd.prog Tryd.f6 (OpenSpec.ofChange Rows.fnExactNumberSpec) false w args)
      (Rows.fnExactNumberSpec.post enc Tryd.prog Tryd.f6 false true false false) := by
  refine returnsInHanded_of_change_and (C := Tryd.checked) (X := fun w _ => laidMetH Tryd.prog Rows.fnExactNumberRow.laid w) (fun _ _ _ hh h => h.of_heap hh) own started (by kernel_rfl) Tryd.func6
    (ChangeSpec.witness_shaped (enc := enc) (C := Tryd.checked) (os := os) (X := fun w _ => laidMetH Tryd.prog Rows.fnExactNumberRow.laid w) false (World.doorLaid Tryd.prog 110 os) #[.string ByteArray.empty] 8 rfl (World.shaped_of_RefB (by kernel_rfl) (by kernel_rfl)) (by kernel_rfl) (by kernel_rfl) (by kernel_rfl) (door_met os _)) ?_
  intro W base args ds gs before hval0 hW _ _ hL _
  have hval : ∀ (j : Nat) t v, Tryd.f6.params[j]? = some t → args[j]? = some v → Value.okWide Tryd.prog W .any base t v := hval0
  have hW' := hW
  obtain ⟨p, q, hA0, hV, rfl, hfz, hnd⟩ := hW
  have hA : DataW.TrodAll enc Tryd.prog W 0 (fun _ => true) true Tryd.f6.params.toList args.toList ds p := hA0
  rw [Tryd.params6] at hA hval
  obtain ⟨v0, vs0, d0, ds0, p0, q0, hargs, rfl, rfl, h0, r0⟩ := trodAll_cons hA
  obtain ⟨rfl, rfl, rfl⟩ := trodAll_nil r0
  obtain rfl : args = #[v0] := by cases args; simp_all
  obtain ⟨a0, rfl, rfl, rfl, w0⟩ := open_string Tryd.underlying9 (hval 0 9 v0 rfl rfl) h0
  obtain ⟨g0, t0, cs0, f0, dv, pv, hgs, hg0, ht0, hv0, hd0, rfl⟩ := trodVars_one hV
  obtain rfl := Option.some.inj (gE.symm.trans hg0)
  obtain rfl := Option.some.inj (gEType.symm.trans ht0)
  obtain ⟨x, rfl, hx, rfl, rfl, hcx⟩ := token_of hg0 Tryd.underlying60 hv0 hd0
  obtain ⟨u, ev, hr⟩ := ready hL
  have hlt : 1 < W.heap.size := hr.2.2.2.2.2.2.2
  clear hA0 hval0
  subst hgs
  refine (walk a0 w0 u ev W hr).mono fun e W' ⟨he, bel⟩ => ?_
  subst he
  have hvar := vars_read1 enc gE gEType Tryd.underlying60 (var?_below bel gE hlt hv0) hx
  exact ⟨_, rfl, _, _, _, [], _, _, hW', trodAll_mk1 (shut_bool Tryd.underlying4 _), (trodAll_cons_mk (shut_string Tryd.underlying9 w0) trodAll_mk0), hvar _, bel.frame _, fun h => by cases h⟩

theorem said : Rows.FnExactNumberSaid :=
  OpenClaim.holds_of_wide 6 Tryd.f6 rfl rfl rfl rfl rfl rfl rfl ⟨rfl, rfl, rfl, rfl, rfl⟩ rfl rfl rfl rfl rfl (by kernel_rfl) Tryd.func6 (by kernel_rfl)
    (of_decide_eq_true (by kernel_rfl)) (by unfold Func.isWrapper; first | (rw [if_pos (by decide +kernel)]; kernel_rfl) | (rw [if_neg (by decide +kernel)]; exact ⟨rfl, rfl⟩))
    (fun os started H enc _ => lifted os started H enc)

theorem plain (f : FuncId) (fn : Func) (hf : Tryd.pinned.checked.prog.funcNamed "loop.example/g00477/laws.FnExactNumber" = some f) (hfn : Tryd.pinned.checked.prog.funcs[f]? = some fn) :
    true = Tryd.pinned.checked.prog.looks [] ∧ ∀ (j : Nat) t, fn.params[j]? = some t → Tryd.pinned.checked.prog.wantsStandIn t = false := by
  obtain rfl : f = 6 := Option.some.inj ((show Tryd.prog.funcNamed "loop.example/g00477/laws.FnExactNumber" = some 6 by kernel_rfl).symm.trans hf) |>.symm
  obtain rfl : fn = Tryd.f6 := (Option.some.inj (Tryd.func6.symm.trans hfn)).symm
  refine ⟨by kernel_rfl, fun j t ht => ?_⟩
  rw [Tryd.params6] at ht
  have hm : t ∈ [9] := by simpa using Array.mem_of_getElem? ht
  have hall : ([9].all fun u => !Tryd.prog.wantsStandIn u) = true := by kernel_rfl
  exact (show Tryd.prog.wantsStandIn t = false by simpa using List.all_eq_true.1 hall t hm)

theorem card : Rows.FnExactNumberCardSaid :=
  Claim7.holds_tied_plain_at .later [] _ _ _ _ said (fun _ h => by cases h) (by kernel_rfl) (fun _ h => by cases h) fnExactNumber_row_tie rfl ⟨rfl, rfl⟩ (by kernel_rfl) rfl plain (by kernel_rfl)
end Go.Proofs.YtgekbbojhlcppaaDoor.fnExactNumber
namespace Go.Proofs.YtgekbbojhlcppaaDoor
theorem number_holds : Rows.FnExactNumberCardSaid := fnExactNumber.card
#print axioms number_holds
end Go.Proofs.YtgekbbojhlcppaaDoor
