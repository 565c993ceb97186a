/- For every list of bytes and every place the exact law of GetText returns true: the program reads the text that the specification reads, or none where it reads none, and writes nothing into the list. The package's two error values are as the program's text lays them. No other condition. -/
import Derived.Test.YtgekbbojhlcppabDoorCards
import Derived.Test.YtgekbbojhlcppabDoorTie
import Derived.Test.YtgekbbojhlcppabDoorGt
import Derived.Test.YtgekbbojhlcppabDoorBt
import Derived.ChangeVars
import Derived.ChangeOld
import Derived.LaidMore
import Derived.Stop.Joined
import Derived.Stop.LaidErr
import Derived.SevenTiedAt
namespace Go.Proofs.YtgekbbojhlcppabDoor.fnExactGetText
open Go.ChangeShapes Go.WideShapes Go.ChangeAt Go.RowKit

theorem own : ownKnob Tryd.prog.godebug = none := by kernel_rfl
theorem laidOut : laidOutB Tryd.prog = true := by kernel_rfl
theorem gE : Tryd.prog.globalNamed "loop.example/g00477/impl.errNoNumber" = some 0 := by kernel_rfl
theorem gEType : (Tryd.prog.globals[0]?).map (·.type) = some 43 := by kernel_rfl
theorem star : "*" ++ "errors.errorString" = "*errors.errorString" := by decide
theorem rowE (u : TypeId) (h : Tryd.prog.typeName? 3 u = some "*errors.errorString") : u = 61 :=
  typeName_ptr_named (nm := "errors.errorString") (by rw [star]; kernel_rfl) (by kernel_rfl) (by decide) u (by rw [star]; exact h)
theorem cellsS : Tryd.prog.cellsOf 77 = 1 := by kernel_rfl
theorem cellsStr : Tryd.prog.cellsOf 9 = 1 := by kernel_rfl

theorem gT : Tryd.prog.globalNamed "loop.example/g00477/impl.errNoText" = some 1 := by kernel_rfl
theorem gTType : (Tryd.prog.globals[1]?).map (·.type) = some 43 := by kernel_rfl
/-- What the list gives: both variables hold an error, not nil. -/
theorem sentinel {W : World} (h : laidMetH Tryd.prog Rows.fnExactGetTextRow.laid W) : (∃ a, W.var? Tryd.prog "loop.example/g00477/impl.errNoNumber" = some #[.iface 61 (.pointer (some a))]) ∧ ∃ a, W.var? Tryd.prog "loop.example/g00477/impl.errNoText" = some #[.iface 61 (.pointer (some a))] := by
  rw [MakeChecks.laidMetH_plain _ _ _ (by kernel_rfl)] at h
  obtain ⟨a, s, hv, _⟩ := laid_sentinel h gE gEType Tryd.underlying43 rowE Tryd.underlying61 Tryd.underlying77 rfl rfl Tryd.underlying9 cellsS cellsStr
  obtain ⟨a', s', hv', _⟩ := laid_sentinel (laidMet.tail h) gT gTType Tryd.underlying43 rowE Tryd.underlying61 Tryd.underlying77 rfl rfl Tryd.underlying9 cellsS cellsStr
  exact ⟨⟨a, hv⟩, a', hv'⟩

set_option maxHeartbeats 1600000 in
theorem walkIn (a0 : Option Addr) (len0 cap0 : Nat) (z0 : List Int) (a1 : Int) (u u2 : TypeId) (ev ev2 : Value) (w : World) (h0 : IsRow .u8 w a0 len0 cap0 z0) (hlen : len0 ≤ 1048576) (b0 : -9223372036854775808 ≤ a1) (b1 : a1 ≤ 9223372036854775807)
    (he : 0 < w.heap.size) (hv : w.cell? ⟨0, 0, none⟩ = some (.iface u ev)) (he' : 1 < w.heap.size) (hv' : w.cell? ⟨1, 0, none⟩ = some (.iface u2 ev2)) :
    Calls Tryd.prog 4 #[.slice a0 len0 cap0, .int .i64 a1] w fun e w' => e = .returned (.bool true) ∧ Below w.heap.size w w' := by
  have T := fun wx (hx : Below w.heap.size w wx) => to_any a0 len0 cap0 z0 wx (h0.later hx) hlen
  have hb := h0.bytes
  have hl := h0.len
  generalize hzs : z0.take len0 = zs at T hb hl
  have HL : Hid (zs.length = len0) := hl
  have HT := T
  clear hzs h0 hl T
  go_enter Tryd.func4, Tryd.ntmps4
  go_wp2_with fail
  refine (HT _ (Below.refl _ _)).mono ?_
  rintro e w1 ⟨g1, rfl, ho1, hb1⟩
  have hs1 := hb1.size
  go_wp2_with fail
  refine (specText_any g1 0 len0 len0 zs a1 w1 (by omega) HL.out (Nat.le_refl _) hb (own_cells HL.out ho1) b0 b1).mono ?_
  rintro e w1' ⟨rfl, rfl⟩
  generalize hgot : getText zs a1 = got
  have HGot : Hid (getText zs a1 = got) := hgot
  clear hgot
  obtain ⟨x, y, z, hxyz⟩ : ∃ x y z, gotText got = .tuple #[.string x, .int .i64 y, .bool z] := by cases got <;> exact ⟨_, _, _, rfl⟩
  rw [hxyz]
  have HX : Hid (gotText got = .tuple #[.string x, .int .i64 y, .bool z]) := hxyz
  clear hxyz
  go_wp2_with fail
  refine (HT _ hb1).mono ?_
  rintro e w2 ⟨g2, rfl, ho2, hb2⟩
  have hs2 := hb2.size
  have hv2 : w2.cell? ⟨0, 0, none⟩ = some (.iface u ev) := ((hb2.cell (p := ⟨0, 0, none⟩) (by simp; omega)).trans (hb1.cell (p := ⟨0, 0, none⟩) he)).trans hv
  have hv2' : w2.cell? ⟨1, 0, none⟩ = some (.iface u2 ev2) := ((hb2.cell (p := ⟨1, 0, none⟩) (by simp; omega)).trans (hb1.cell (p := ⟨1, 0, none⟩) he')).trans hv'
  have hg2 : g2 < w2.heap.size := (ho2.lt g2 rfl).2
  go_wp2_with fail
  refine (implText_any g2 0 len0 len0 zs a1 u u2 ev ev2 w2 (by omega) HL.out (Nat.le_refl _) hb (own_cells HL.out ho2) hg2 (by omega) hv2 (by omega) hv2').mono ?_
  rintro e w3 ⟨rfl, hb3⟩
  rw [HGot.out, HX.out]
  have hs3 := hb3.size
  have ho2 := own_below ho2 hb3
  have hb03 : Below w.heap.size w w3 := (hb1.trans (hb2.mono hs1)).trans (hb3.mono (by omega))
  go_wp2_with fail
  refine (HT _ hb03).mono ?_
  rintro e w4 ⟨g4, rfl, ho4, hb4⟩
  have hs4 := hb4.size
  have ho2 := own_below ho2 hb4
  go_wp2_with fail
  refine (eq_at HL.out (by omega) ho2 ho4).mono ?_
  rintro e w5 ⟨rfl, hb5⟩
  go_wp2
  go_ret
  exact ⟨rfl, (hb03.trans (hb4.mono (by omega))).trans (hb5.mono (by omega))⟩

theorem walk (a0 : Option Addr) (len0 cap0 : Nat) (z0 : List Int) (a1 : Int) (u u2 : TypeId) (ev ev2 : Value) (w : World) (h0 : IsRow .u8 w a0 len0 cap0 z0) (b0 : -9223372036854775808 ≤ a1) (b1 : a1 ≤ 9223372036854775807)
    (he : 0 < w.heap.size) (hv : w.cell? ⟨0, 0, none⟩ = some (.iface u ev)) (he' : 1 < w.heap.size) (hv' : w.cell? ⟨1, 0, none⟩ = some (.iface u2 ev2)) :
    Calls Tryd.prog 4 #[.slice a0 len0 cap0, .int .i64 a1] w fun e w' => e = .returned (.bool true) ∧ Below w.heap.size w w' := by
  by_cases hlen : len0 ≤ 1048576
  · exact walkIn a0 len0 cap0 z0 a1 u u2 ev ev2 w h0 hlen b0 b1 he hv he' hv'
  · have hm : len0 ≤ 9223372036854775807 := h0.le
    clear h0
    go_enter Tryd.func4, Tryd.ntmps4
    go_wp2_with fail
    go_ret
    exact ⟨rfl, Below.refl _ _⟩

theorem door_met (os : Os) (args : Array Value) : laidMetH Tryd.prog Rows.fnExactGetTextRow.laid ((World.doorLaid Tryd.prog 57 os).forCall (fun _ _ => 0) ⟨#[], args, []⟩).memory :=
  laidMetH_of_parts3 (fuel := 8) (laidMet_of_run' 8 (by kernel_rfl) (by kernel_rfl)) (by kernel_rfl) (by kernel_rfl)

set_option maxRecDepth 100000 in
theorem lifted (os : Os) (started : os.Started) (H : Type) (enc : TypeId × Value → H) :
    ReturnsInHanded {} Tryd.checked os 4 .any (fun w args => (Rows.fnExactGetTextSpec.pre enc Tryd.prog Tryd.f4 [] false w args ∧ laidMetH Tryd.prog Rows.fnExactGetTextRow.laid w) ∧ sizedMet enc Tryd.prog Tryd.f4 (OpenSpec.ofChange Rows.fnExactGetTextSpec) false w args)
      (Rows.fnExactGetTextSpec.post enc Tryd.prog Tryd.f4 false true false false) := by
  refine returnsInHanded_of_change_and (C := Tryd.checked) (X := fun w _ => laidMetH Tryd.prog Rows.fnExactGetTextRow.laid w) (fun _ _ _ hh h => h.of_heap hh) own started (by kernel_rfl) Tryd.func4
    (ChangeSpec.witness_shaped (enc := enc) (C := Tryd.checked) (os := os) (X := fun w _ => laidMetH Tryd.prog Rows.fnExactGetTextRow.laid w) false (World.doorLaid Tryd.prog 57 os) #[.slice none 0 0, .int .i64 0] 8 rfl (World.shaped_of_RefB (by kernel_rfl) (by kernel_rfl)) (by kernel_rfl) (by kernel_rfl) (by kernel_rfl) (door_met os _)) ?_
  intro W base args ds gs before hval0 hW _ _ hL _
  have hval : ∀ (j : Nat) t v, Tryd.f4.params[j]? = some t → args[j]? = some v → Value.okWide Tryd.prog W .any base t v := hval0
  have hW' := hW
  obtain ⟨p, q, hA0, hV, rfl, hfz, hnd⟩ := hW
  have hA : DataW.TrodAll enc Tryd.prog W 0 (fun _ => true) true Tryd.f4.params.toList args.toList ds p := hA0
  rw [Tryd.params4] at hA hval
  obtain ⟨v0, vs0, d0, ds0, p0, q0, hargs, rfl, rfl, h0, r0⟩ := trodAll_cons hA
  obtain ⟨v1, vs1, d1, ds1, p1, q1, rfl, rfl, rfl, h1, r1⟩ := trodAll_cons r0
  obtain ⟨rfl, rfl, rfl⟩ := trodAll_nil r1
  obtain rfl : args = #[v0, v1] := by cases args; simp_all
  obtain ⟨a0, len0, cap0, rfl⟩ := okWide_slice Tryd.underlying22 (hval 0 22 v0 rfl rfl)
  have k0 := h0
  have lt0 : ∀ x ∈ p0, x.block < W.heap.size := by obtain ⟨m, hm⟩ := k0; exact DataW.trod_lt m _ _ _ hm
  obtain ⟨z0, w0⟩ : ∃ zs, IsRow .u8 W a0 len0 cap0 zs := by
    obtain ⟨fuel, hf⟩ := h0
    rcases open_ints Tryd.underlying22 Tryd.underlying5 (by kernel_rfl) hf with ⟨hcs, _⟩ | ⟨x, l, c, zs, hcs, _, hl, hm, hz, _, hcell, hwz⟩
    · simp [Value.cells] at hcs
      obtain ⟨rfl, rfl, rfl⟩ := hcs
      exact ⟨[], .inl ⟨rfl, rfl, rfl, rfl⟩⟩
    · simp [Value.cells] at hcs
      obtain ⟨rfl, rfl, rfl⟩ := hcs
      exact ⟨zs, .inr ⟨_, rfl, hl, hm, by simpa using hz, hcell, hwz⟩⟩
  obtain ⟨a1, rfl, rfl, rfl, w1⟩ := open_int Tryd.underlying3 (hval 1 3 v1 rfl rfl) h1
  obtain ⟨g0, t0, cs0, f0, dv, pv, g1, t1, cs1, f1, dv1, pv1, hgs, hg0, ht0, hv0, hd0, hg1, ht1, hv1, hd1, rfl⟩ := trodVars_two hV
  obtain rfl := Option.some.inj (gT.symm.trans hg0)
  obtain rfl := Option.some.inj (gTType.symm.trans ht0)
  obtain rfl := Option.some.inj (gE.symm.trans hg1)
  obtain rfl := Option.some.inj (gEType.symm.trans ht1)
  obtain ⟨x, rfl, hx, rfl, rfl, hcx⟩ := token_of hg0 Tryd.underlying43 hv0 hd0
  obtain ⟨x1, rfl, hx1, rfl, rfl, hcx1⟩ := token_of hg1 Tryd.underlying43 hv1 hd1
  obtain ⟨⟨ae, hve⟩, at', hvt⟩ := sentinel hL
  have hcell : W.cell? ⟨0, 0, none⟩ = some (.iface 61 (.pointer (some ae))) := by
    have := World.var?_cell gE hve 0
    simpa using this
  have hcell' : W.cell? ⟨1, 0, none⟩ = some (.iface 61 (.pointer (some at'))) := by
    have := World.var?_cell gT hvt 0
    simpa using this
  have hlt : 0 < W.heap.size := lt_of_cell hcell
  have hlt' : 1 < W.heap.size := lt_of_cell hcell'
  clear hA0 hval0
  subst hgs
  refine (walk a0 len0 cap0 z0 a1 _ _ _ _ W w0 (bounds_i64 w1).1 (bounds_i64 w1).2 hlt hcell hlt' hcell').mono fun e W' ⟨he, bel⟩ => ?_
  subst he
  have hvar := vars_read2 enc gT gTType Tryd.underlying43 (var?_below bel gT hlt' hv0) hx gE gEType Tryd.underlying43 (var?_below bel gE hlt hv1) hx1
  exact ⟨_, rfl, _, _, _, [], _, _, hW', trodAll_mk1 (shut_bool Tryd.underlying4 _), (trodAll_cons_mk (Below.trod laidOut (by kernel_rfl) (of_decide_eq_true (by kernel_rfl)) k0 bel lt0) (trodAll_cons_mk (shut_int Tryd.underlying3 w1) trodAll_mk0)), hvar _, bel.frame _, fun h => by cases h⟩

theorem said : Rows.FnExactGetTextSaid :=
  OpenClaim.holds_of_wide 4 Tryd.f4 rfl rfl rfl rfl rfl rfl rfl ⟨rfl, rfl, rfl, rfl, rfl⟩ rfl rfl rfl rfl rfl (by kernel_rfl) Tryd.func4 (by kernel_rfl)
    (of_decide_eq_true (by kernel_rfl)) (by unfold Func.isWrapper; first | (rw [if_pos (by decide +kernel)]; kernel_rfl) | (rw [if_neg (by decide +kernel)]; exact ⟨rfl, rfl⟩))
    (fun os started H enc _ => lifted os started H enc)

theorem plain (f : FuncId) (fn : Func) (hf : Tryd.pinned.checked.prog.funcNamed "loop.example/g00477/laws.FnExactGetText" = some f) (hfn : Tryd.pinned.checked.prog.funcs[f]? = some fn) :
    false = Tryd.pinned.checked.prog.looks [] ∧ ∀ (j : Nat) t, fn.params[j]? = some t → Tryd.pinned.checked.prog.wantsStandIn t = false := by
  obtain rfl : f = 4 := Option.some.inj ((show Tryd.prog.funcNamed "loop.example/g00477/laws.FnExactGetText" = some 4 by kernel_rfl).symm.trans hf) |>.symm
  obtain rfl : fn = Tryd.f4 := (Option.some.inj (Tryd.func4.symm.trans hfn)).symm
  refine ⟨by kernel_rfl, fun j t ht => ?_⟩
  rw [Tryd.params4] at ht
  have hm : t ∈ [22, 3] := by simpa using Array.mem_of_getElem? ht
  have hall : ([22, 3].all fun u => !Tryd.prog.wantsStandIn u) = true := by kernel_rfl
  exact (show Tryd.prog.wantsStandIn t = false by simpa using List.all_eq_true.1 hall t hm)

theorem card : Rows.FnExactGetTextCardSaid :=
  Claim7.holds_tied_plain_at .later [] _ _ _ _ said (fun _ h => by cases h) (by kernel_rfl) (fun _ h => by cases h) fnExactGetText_row_tie rfl ⟨rfl, rfl⟩ (by kernel_rfl) rfl plain (by kernel_rfl)
end Go.Proofs.YtgekbbojhlcppabDoor.fnExactGetText
namespace Go.Proofs.YtgekbbojhlcppabDoor
theorem getText_holds : Rows.FnExactGetTextCardSaid := fnExactGetText.card
#print axioms getText_holds
end Go.Proofs.YtgekbbojhlcppabDoor
