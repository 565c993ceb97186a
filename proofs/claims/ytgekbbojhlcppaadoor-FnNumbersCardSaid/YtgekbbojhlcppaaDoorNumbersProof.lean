/- For every code the law of the first chapter returns true: numbers and texts that are drawn from it are read as they were written, wherever they stand, and so are small numbers with a sign. The library's tables and errors and the package's own two errors are as the program's text lays them. No other condition. -/
import Derived.Test.YtgekbbojhlcppaaDoorCards
import Derived.Test.YtgekbbojhlcppaaDoorTie
import Derived.Test.YtgekbbojhlcppaaDoorFn
import Derived.ChangeVars
import Derived.ChangeOld
import Derived.LaidMore
import Derived.Stop.Joined
import Derived.Stop.LaidErr
import Derived.SevenTiedAt
namespace Go.Proofs.YtgekbbojhlcppaaDoor.fnNumbers
open Go.ChangeShapes Go.WideShapes Go.ChangeAt Go.RowKit

theorem laidOut : laidOutB Tryd.prog = true := by kernel_rfl
theorem own : ownKnob Tryd.prog.godebug = none := by kernel_rfl
theorem gPType : (Tryd.prog.globals[4]?).map (·.type) = some 93 := by kernel_rfl
theorem cellsE : Tryd.prog.cellsOf 77 = 1 := by kernel_rfl
theorem cellsT : Tryd.prog.cellsOf 93 = 20 := by kernel_rfl
theorem tabE : (Rows.laid_internal_strconv_uint64pow10 : DataW Unit) = Lib.tabData .u64 Lib.pow10Tab := by kernel_rfl
theorem gE : Tryd.prog.globalNamed "loop.example/g00477/impl.errNoNumber" = some 1 := by kernel_rfl
theorem gEType : (Tryd.prog.globals[1]?).map (·.type) = some 60 := by kernel_rfl
theorem gT : Tryd.prog.globalNamed "loop.example/g00477/impl.errNoText" = some 0 := by kernel_rfl
theorem gTType : (Tryd.prog.globals[0]?).map (·.type) = some 60 := by kernel_rfl
theorem gSType : (Tryd.prog.globals[2]?).map (·.type) = some 60 := by kernel_rfl
theorem gRType : (Tryd.prog.globals[3]?).map (·.type) = some 60 := by kernel_rfl
theorem star : "*" ++ "errors.errorString" = "*errors.errorString" := by decide
theorem rowE (u : TypeId) (h : Tryd.prog.typeName? 3 u = some "*errors.errorString") : u = 98 :=
  typeName_ptr_named (nm := "errors.errorString") (by rw [star]; kernel_rfl) (by kernel_rfl) (by decide) u (by rw [star]; exact h)
theorem cellsS : Tryd.prog.cellsOf 100 = 1 := by kernel_rfl
theorem cellsStr : Tryd.prog.cellsOf 9 = 1 := by kernel_rfl
theorem lt_of_var {W : World} {n : String} {g : Nat} {v : Value} (hg : Tryd.prog.globalNamed n = some g) (h : W.var? Tryd.prog n = some #[v]) : g < W.heap.size := by
  have hc : W.cell? ⟨g, 0, none⟩ = some v := by
    have := World.var?_cell hg h 0
    simpa using this
  rcases Nat.lt_or_ge g W.heap.size with h3 | h3
  · exact h3
  · have e : W.heap[g]? = none := Array.getElem?_eq_none h3
    simp [World.cell?, e] at hc

/-- What the list gives. -/
theorem ready {W : World} (h : laidMetH Tryd.prog Rows.fnNumbersRow.laid W) : ∃ u ev u2 ev2, Laid W W u u2 ev ev2 := by
  rw [MakeChecks.laidMetH_plain _ _ _ (by kernel_rfl)] at h
  have h2 := laidMet.tail (laidMet.tail h)
  have h3 := laidMet.tail h2
  have h4 := laidMet.tail h3
  have h5 := laidMet.tail h4
  have h6 := laidMet.tail h5
  obtain ⟨a6, s6, hv6, _⟩ := laid_sentinel h6 gT gTType Tryd.underlying60 rowE Tryd.underlying98 Tryd.underlying100 rfl rfl Tryd.underlying9 cellsS cellsStr
  obtain ⟨a3, s3, hv3, _⟩ := laid_sentinel h3 gRng gRType Tryd.underlying60 rowE Tryd.underlying98 Tryd.underlying100 rfl rfl Tryd.underlying9 cellsS cellsStr
  obtain ⟨a4, s4, hv4, _⟩ := laid_sentinel h4 gSyn gSType Tryd.underlying60 rowE Tryd.underlying98 Tryd.underlying100 rfl rfl Tryd.underlying9 cellsS cellsStr
  obtain ⟨a5, s5, hv5, _⟩ := laid_sentinel h5 gE gEType Tryd.underlying60 rowE Tryd.underlying98 Tryd.underlying100 rfl rfl Tryd.underlying9 cellsS cellsStr
  rw [tabE] at h2
  have ht : Lib.TabIs Tryd.prog W "internal/strconv.uint64pow10" .u64 Lib.pow10Tab := Lib.tabIs_of_head gPow gPType Tryd.underlying93 Tryd.underlying77 cellsE cellsT h2
  have hlt : 4 < W.heap.size := by
    have hc := ht.cell gPow 0 (by decide)
    rcases Nat.lt_or_ge 4 W.heap.size with h3 | h3
    · exact h3
    · have e : W.heap[4]? = none := Array.getElem?_eq_none h3
      simp [World.cell?, e] at hc
  have hc5 : W.cell? ⟨1, 0, none⟩ = some (.iface 98 (.pointer (some a5))) := by
    have := World.var?_cell gE hv5 0
    simpa using this
  have hc6 : W.cell? ⟨0, 0, none⟩ = some (.iface 98 (.pointer (some a6))) := by
    have := World.var?_cell gT hv6 0
    simpa using this
  exact ⟨98, .pointer (some a5), 98, .pointer (some a6), Below.refl _ _, ⟨ht, ⟨_, _, hv4⟩, ⟨_, _, hv3⟩, hc5, hlt, lt_of_var gSyn hv4, lt_of_var gRng hv3, lt_of_var gE hv5⟩, hc6, lt_of_var gT hv6⟩

theorem walk (a0 : Option Addr) (len0 cap0 : Nat) (z0 : List Int) (u u2 : TypeId) (ev ev2 : Value) (w : World) (h0 : IsRow .u8 w a0 len0 cap0 z0) (hL : Laid w w u u2 ev ev2) :
    Calls Tryd.prog 3 #[.slice a0 len0 cap0] w fun e w' => e = .returned (.bool true) ∧ Below w.heap.size w w' := by
  by_cases hlen : len0 ≤ 1048576
  · exact fnNumbers_in a0 len0 cap0 z0 u u2 ev ev2 w h0 hlen hL
  · have hm : len0 ≤ 9223372036854775807 := h0.le
    have hbig : decide ((1048576 : Int) < (len0 : Int)) = true := by simp; omega
    have B := big_any a0 len0 cap0 w hm
    rw [hbig] at B
    clear h0 hL hbig
    go_enter Tryd.func3, Tryd.ntmps3
    go_wp2_with fail
    refine B.mono ?_
    clear B
    rintro e w' ⟨rfl, rfl⟩
    go_wp2
    go_ret
    exact ⟨rfl, Below.refl _ _⟩

theorem door_met (os : Os) (args : Array Value) : laidMetH Tryd.prog Rows.fnNumbersRow.laid ((World.doorLaid Tryd.prog 110 os).forCall (fun _ _ => 0) ⟨#[], args, []⟩).memory :=
  laidMetH_of_parts3 (fuel := 8) (laidMet_of_run' 8 (by kernel_rfl) (by kernel_rfl)) (by kernel_rfl) (by kernel_rfl)

set_option maxRecDepth 100000 in
theorem lifted (os : Os) (started : os.Started) (H : Type) (enc : TypeId × Value → H) :
    ReturnsInHanded {} Tryd.checked os 3 .any (fun w args => (Rows.fnNumbersSpec.pre enc Tryd.prog Tryd.f3 [] false w args ∧ laidMetH Tryd.prog Rows.fnNumbersRow.laid w) ∧ sizedMet enc Tryd.prog Tryd.f3 (OpenSpec.ofChange Rows.fnNumbersSpec) false w args)
      (Rows.fnNumbersSpec.post enc Tryd.prog Tryd.f3 false true false false) := by
  refine returnsInHanded_of_change_and (C := Tryd.checked) (X := fun w _ => laidMetH Tryd.prog Rows.fnNumbersRow.laid w) (fun _ _ _ hh h => h.of_heap hh) own started (by kernel_rfl) Tryd.func3
    (ChangeSpec.witness_shaped (enc := enc) (C := Tryd.checked) (os := os) (X := fun w _ => laidMetH Tryd.prog Rows.fnNumbersRow.laid w) false (World.doorLaid Tryd.prog 110 os) #[.slice none 0 0] 8 rfl (World.shaped_of_RefB (by kernel_rfl) (by kernel_rfl)) (by kernel_rfl) (by kernel_rfl) (by kernel_rfl) (door_met os _)) ?_
  intro W base args ds gs before hval0 hW _ _ hL _
  have hval : ∀ (j : Nat) t v, Tryd.f3.params[j]? = some t → args[j]? = some v → Value.okWide Tryd.prog W .any base t v := hval0
  have hW' := hW
  obtain ⟨p, q, hA0, hV, rfl, hfz, hnd⟩ := hW
  have hA : DataW.TrodAll enc Tryd.prog W 0 (fun _ => true) true Tryd.f3.params.toList args.toList ds p := hA0
  rw [Tryd.params3] at hA hval
  obtain ⟨v0, vs0, d0, ds0, p0, q0, hargs, rfl, rfl, h0, r0⟩ := trodAll_cons hA
  obtain ⟨rfl, rfl, rfl⟩ := trodAll_nil r0
  obtain rfl : args = #[v0] := by cases args; simp_all
  obtain ⟨a0, len0, cap0, rfl⟩ := okWide_slice Tryd.underlying22 (hval 0 22 v0 rfl rfl)
  have k0 := h0
  have lt0 : ∀ x ∈ p0, x.block < W.heap.size := by obtain ⟨m, hm⟩ := k0; exact DataW.trod_lt m _ _ _ hm
  obtain ⟨z0, w0⟩ : ∃ zs, IsRow .u8 W a0 len0 cap0 zs := by
    obtain ⟨fuel, hf⟩ := h0
    rcases open_ints Tryd.underlying22 Tryd.underlying5 (by kernel_rfl) hf with ⟨hcs, _⟩ | ⟨x, l, c, zs, hcs, _, hl, hm, hz, _, hcell, hwz⟩
    · simp [Value.cells] at hcs
      obtain ⟨rfl, rfl, rfl⟩ := hcs
      exact ⟨[], .inl ⟨rfl, rfl, rfl, rfl⟩⟩
    · simp [Value.cells] at hcs
      obtain ⟨rfl, rfl, rfl⟩ := hcs
      exact ⟨zs, .inr ⟨_, rfl, hl, hm, by simpa using hz, hcell, hwz⟩⟩
  obtain ⟨g0, t0, cs0, f0, dv, pv, g1, t1, cs1, f1, dv1, pv1, hgs, hg0, ht0, hv0, hd0, hg1, ht1, hv1, hd1, rfl⟩ := trodVars_two hV
  obtain rfl := Option.some.inj (gT.symm.trans hg0)
  obtain rfl := Option.some.inj (gTType.symm.trans ht0)
  obtain rfl := Option.some.inj (gE.symm.trans hg1)
  obtain rfl := Option.some.inj (gEType.symm.trans ht1)
  obtain ⟨x, rfl, hx, rfl, rfl, hcx⟩ := token_of hg0 Tryd.underlying60 hv0 hd0
  obtain ⟨x1, rfl, hx1, rfl, rfl, hcx1⟩ := token_of hg1 Tryd.underlying60 hv1 hd1
  obtain ⟨u, ev, u2, ev2, hr⟩ := ready hL
  have hlt : 1 < W.heap.size := hr.2.1.2.2.2.2.2.2.2
  have hlt' : 0 < W.heap.size := hr.2.2.2
  clear hA0 hval0
  subst hgs
  refine (walk a0 len0 cap0 z0 u u2 ev ev2 W w0 hr).mono fun e W' ⟨he, bel⟩ => ?_
  subst he
  have hvar := vars_read2 enc gT gTType Tryd.underlying60 (var?_below bel gT hlt' hv0) hx gE gEType Tryd.underlying60 (var?_below bel gE hlt hv1) hx1
  exact ⟨_, rfl, _, _, _, [], _, _, hW', trodAll_mk1 (shut_bool Tryd.underlying4 _), (trodAll_cons_mk (Below.trod laidOut (by kernel_rfl) (of_decide_eq_true (by kernel_rfl)) k0 bel lt0) trodAll_mk0), hvar _, bel.frame _, fun h => by cases h⟩

theorem said : Rows.FnNumbersSaid :=
  OpenClaim.holds_of_wide 3 Tryd.f3 rfl rfl rfl rfl rfl rfl rfl ⟨rfl, rfl, rfl, rfl, rfl⟩ rfl rfl rfl rfl rfl (by kernel_rfl) Tryd.func3 (by kernel_rfl)
    (of_decide_eq_true (by kernel_rfl)) (by unfold Func.isWrapper; first | (rw [if_pos (by decide +kernel)]; kernel_rfl) | (rw [if_neg (by decide +kernel)]; exact ⟨rfl, rfl⟩))
    (fun os started H enc _ => lifted os started H enc)

theorem plain (f : FuncId) (fn : Func) (hf : Tryd.pinned.checked.prog.funcNamed "loop.example/g00477/laws.FnNumbers" = some f) (hfn : Tryd.pinned.checked.prog.funcs[f]? = some fn) :
    true = Tryd.pinned.checked.prog.looks [] ∧ ∀ (j : Nat) t, fn.params[j]? = some t → Tryd.pinned.checked.prog.wantsStandIn t = false := by
  obtain rfl : f = 3 := Option.some.inj ((show Tryd.prog.funcNamed "loop.example/g00477/laws.FnNumbers" = some 3 by kernel_rfl).symm.trans hf) |>.symm
  obtain rfl : fn = Tryd.f3 := (Option.some.inj (Tryd.func3.symm.trans hfn)).symm
  refine ⟨by kernel_rfl, fun j t ht => ?_⟩
  rw [Tryd.params3] at ht
  have hm : t ∈ [22] := by simpa using Array.mem_of_getElem? ht
  have hall : ([22].all fun u => !Tryd.prog.wantsStandIn u) = true := by kernel_rfl
  exact (show Tryd.prog.wantsStandIn t = false by simpa using List.all_eq_true.1 hall t hm)

theorem card : Rows.FnNumbersCardSaid :=
  Claim7.holds_tied_plain_at .later [] _ _ _ _ said (fun _ h => by cases h) (by kernel_rfl) (fun _ h => by cases h) fnNumbers_row_tie rfl ⟨rfl, rfl⟩ (by kernel_rfl) rfl plain (by kernel_rfl)
end Go.Proofs.YtgekbbojhlcppaaDoor.fnNumbers
namespace Go.Proofs.YtgekbbojhlcppaaDoor
theorem numbers_holds : Rows.FnNumbersCardSaid := fnNumbers.card
#print axioms numbers_holds
end Go.Proofs.YtgekbbojhlcppaaDoor
