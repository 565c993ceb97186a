/- For every text and every byte the exact law of Parts returns true: the program answers the pieces that the specification answers, in memory of its own, and a second call gives them anew. The library's tables are as the program's text lays them. No other condition. -/
import Derived.Test.YtgekbbojhlcppabDoorCards
import Derived.Test.YtgekbbojhlcppabDoorTie
import Derived.Test.YtgekbbojhlcppabDoorPp
import Derived.Test.YtgekbbojhlcppabDoorSe
import Derived.ShutString
import Derived.ChangeOld
import Derived.LaidMore
import Derived.Stop.Joined
import Derived.SevenTiedAt
import Derived.Deep.DeepHandedRow
namespace Go.Proofs.YtgekbbojhlcppabDoor.fnExactParts
open Go.ChangeShapes Go.WideShapes Go.ChangeAt Go.RowKit
open Go.ChangeMaps (open_string shut_string)

theorem own : ownKnob Tryd.prog.godebug = none := by kernel_rfl

theorem apartS {w : World} {v v' : Value} {b b' n n' : Nat} {xs xs' : List Value} (_h : w.ownsRow b 9 1 v n xs) (h' : w.ownsRow b' 9 1 v' n' xs') (hb : ∀ k, v.ownBlock = some k → k < b') : v.ownBlock = none ∨ v.ownBlock ≠ v'.ownBlock := by
  cases e : v.ownBlock with
  | none => exact .inl rfl
  | some k =>
    refine .inr fun e' => ?_
    have h1 := hb k e
    have h2 := (h'.lt k e'.symm).1
    omega
/-- A row that holds something is no nil slice. -/
theorem row_form {w : World} {v : Value} {b n : Nat} {xs : List Value} (h : w.ownsRow b 9 1 v n xs) (hn : 0 < n) : ∃ g cap, v = .slice (some ⟨g, 0, none⟩) n cap := by
  rcases h.2 with ⟨_, h0⟩ | ⟨g, cap, _, hv, _⟩
  · omega
  · exact ⟨g, cap, hv⟩
theorem cuts_pos (b : UInt8) : ∀ (r x : List UInt8), 0 < (cuts b x r).length
  | [], x => by simp [cuts]
  | c :: r, x => by
    unfold cuts
    split
    · simp
    · exact cuts_pos b r _
theorem pieces_pos (b : UInt8) (s : ByteArray) : 0 < (pieces b s).length := by
  unfold pieces
  rw [List.length_map]
  exact cuts_pos b _ _

set_option maxHeartbeats 1600000 in
theorem walkIn (a0 : ByteArray) (b : UInt8) (m : Int) (w : World) (hs : a0.size ≤ 1048576) (hg : 2 < w.heap.size) (hm : w.cell? ⟨2, 0, none⟩ = some (.int .i64 m)) :
    Calls Tryd.prog 5 #[.string a0, .int .u8 (b.toNat : Int)] w fun e w' => e = .returned (.bool true) ∧ Below w.heap.size w w' := by
  have S := specParts_any a0 b w hs
  have I := fun wx (hx : Below w.heap.size w wx) => implParts_any a0 b m wx hs (Nat.lt_of_lt_of_le hg hx.size) ((hx.cell (p := ⟨2, 0, none⟩) hg).trans hm)
  have hl : (pieces b a0).length ≤ 1048577 := by have := pieces_len b a0; omega
  have hp := pieces_pos b a0
  generalize pieces b a0 = ss at S I hl hp
  have HI : Hid (∀ wx (_ : Below w.heap.size w wx), Calls Tryd.prog 13 #[.string a0, .int .u8 (b.toNat : Int)] wx fun e w' => ∃ v, e = .returned v ∧ w'.ownsRow wx.heap.size 9 1 v ss.length (ss.map Value.string) ∧ Below wx.heap.size wx w') := I
  clear I hm
  go_enter Tryd.func5, Tryd.ntmps5
  go_wp2_with fail
  refine S.mono ?_
  clear S
  rintro e w1 ⟨v0, rfl, ho0, hb1⟩
  obtain ⟨g0, c0, hv0⟩ := row_form ho0 hp
  rw [hv0] at ho0 ⊢
  clear hv0
  have hlt0 := (ho0.lt g0 rfl).2
  have hs1 := hb1.size
  go_wp2_with fail
  refine (HI.out w1 hb1).mono ?_
  rintro e w2 ⟨v1, rfl, ho1, hb2⟩
  obtain ⟨g1, c1, hv1⟩ := row_form ho1 hp
  rw [hv1] at ho1 ⊢
  clear hv1
  have hge1 := (ho1.lt g1 rfl).1
  have ho0 := own_below ho0 hb2
  have hs2 := hb2.size
  go_wp2_with fail
  refine (eqS_any ss g1 c1 g0 c0 _ _ _ (by omega) ho1 ho0).mono ?_
  rintro e w3 ⟨rfl, hb3⟩
  have ho0 := own_below ho0 hb3
  have ho1 := own_below ho1 hb3
  have hs3 := hb3.size
  go_wp2_with fail
  refine (markS_any g1 ss.length c1 _ 1 _ _ (by omega) (by omega) (by omega) ho1).mono ?_
  rintro e w4 ⟨rfl, ⟨ys, ho1', hys⟩, hg4⟩
  have ho0 := ho0.kept hg4 (.inr (by simp [Value.ownBlock]; omega))
  have hs4 := hg4.size
  have b2 : Below w.heap.size w w2 := hb1.trans (hb2.mono hs1)
  have b3 : Below w.heap.size w w3 := b2.trans (hb3.mono (by omega))
  have b4 : Below w.heap.size w w4 := b3.grown hg4 (by omega) (fun k hk => by cases hk; omega)
  clear b2 b3 hb1 hb2 hb3 hg4 ho1
  go_wp2_with fail
  refine (heldS_any g1 ss.length c1 _ 1 ys _ (by omega) (by omega) (by omega) ho1' hys).mono ?_
  rintro e w5 ⟨rfl, hb5⟩
  have ho0 := own_below ho0 hb5
  have ho1' := own_below ho1' hb5
  have hs5 := hb5.size
  have b5 : Below w.heap.size w w5 := b4.trans (hb5.mono (by omega))
  clear b4 hb5
  go_wp2_with fail
  refine (HI.out w5 b5).mono ?_
  rintro e w6 ⟨v2, rfl, ho2, hb6⟩
  obtain ⟨g2, c2, hv2⟩ := row_form ho2 hp
  rw [hv2] at ho2 ⊢
  clear hv2
  have ho0 := own_below ho0 hb6
  have ho1' := own_below ho1' hb6
  have hs6 := hb6.size
  have b6 : Below w.heap.size w w6 := b5.trans (hb6.mono (by omega))
  clear b5 hb6
  go_wp2_with fail
  refine (eqS_any ss g2 c2 g0 c0 _ _ _ (by omega) ho2 ho0).mono ?_
  rintro e w7 ⟨rfl, hb7⟩
  have ho1' := own_below ho1' hb7
  have hs7 := hb7.size
  have b7 : Below w.heap.size w w7 := b6.trans (hb7.mono (by omega))
  clear b6 hb7
  go_wp2_with fail
  refine (heldS_any g1 ss.length c1 _ 1 ys _ (by omega) (by omega) (by omega) ho1' hys).mono ?_
  rintro e w8 ⟨rfl, hb8⟩
  go_wp2
  go_ret
  exact ⟨rfl, b7.trans (hb8.mono (by omega))⟩

theorem walk (a0 : ByteArray) (w0 : a0.size ≤ maxLen) (b : UInt8) (m : Int) (w : World) (hg : 2 < w.heap.size) (hm : w.cell? ⟨2, 0, none⟩ = some (.int .i64 m)) :
    Calls Tryd.prog 5 #[.string a0, .int .u8 (b.toNat : Int)] w fun e w' => e = .returned (.bool true) ∧ Below w.heap.size w w' := by
  unfold maxLen at w0
  by_cases hs : a0.size ≤ 1048576
  · exact walkIn a0 b m w hs hg hm
  · clear hm
    go_enter Tryd.func5, Tryd.ntmps5
    go_wp2_with fail
    go_ret
    exact ⟨rfl, Below.refl _ _⟩
theorem byte_of {x : Int} (h : (Lit.int .u8 x).wf = true) : ∃ b : UInt8, x = (b.toNat : Int) := by
  obtain ⟨h0, h1⟩ := bounds_u8 h
  exact ⟨UInt8.ofNat x.toNat, by rw [UInt8.toNat_ofNat']; omega⟩

def tabCells : DataW Unit → Array Value
  | .agg l => (l.map fun | .lit (.int k n) => Value.int k n | _ => .int .u8 0).toArray
  | _ => #[]
/-- A world for the witness: what the door's run leaves, the pinned table as it is pinned. -/
def withFirst (w : World) : World :=
  { w with heap := w.heap.modify 3 fun
      | .cells _ t frozen => .cells (tabCells Rows.laid_unicode_utf8_first) t frozen
      | o => o }
theorem laid_met (os : Os) : laidMet Tryd.prog Rows.fnExactPartsRow.laid ((withFirst (World.doorLaid Tryd.prog 57 os)).forCall (fun _ _ => 0) ⟨#[], #[.string ByteArray.empty, .int .u8 0], []⟩).memory :=
  laidMet_of_run' 8 (by kernel_rfl) (by kernel_rfl)
theorem reads (os : Os) {H : Type} (enc : TypeId × Value → H) : ∃ places, DataW.whole enc Tryd.prog ((withFirst (World.doorLaid Tryd.prog 57 os)).forCall (fun _ _ => 0) ⟨#[], #[.string ByteArray.empty, .int .u8 0], []⟩).memory Tryd.f5.params.toList Rows.fnExactPartsSpec.vars false #[Value.string ByteArray.empty, Value.int .u8 0].toList 8 = some ([.lit (.string []), .lit (.int .u8 0)], [], places) :=
  ⟨[], by kernel_rfl⟩

set_option maxRecDepth 100000 in
theorem lifted (os : Os) (started : os.Started) (H : Type) (enc : TypeId × Value → H) (F : Stop.Interp) :
    ReturnsInHanded {} Tryd.checked os 5 .any ((OpenSpec.ofChange Rows.fnExactPartsSpec).preRow enc Tryd.prog Tryd.f5 Rows.fnExactPartsRow.domain false Rows.fnExactPartsRow.laid) (((OpenSpec.ofChange Rows.fnExactPartsSpec).at F).post enc Tryd.prog Tryd.f5 false true false false) := by
  obtain ⟨places, hx⟩ := reads os enc
  refine returnsInHanded_of_row (C := Tryd.checked) (s := OpenSpec.ofChange Rows.fnExactPartsSpec) own started (by kernel_rfl) Tryd.func5
    (witness_row_at (enc := enc) (C := Tryd.checked) false (withFirst (World.doorLaid Tryd.prog 57 os)) #[.string ByteArray.empty, .int .u8 0] rfl (by kernel_rfl) (by kernel_rfl) (by kernel_rfl)
      (OpenSpec.preRow_of_cond 8 hx (by kernel_rfl) (fun k hk => by cases hk) (by kernel_rfl) (laid_met os))) ?_
  intro W base args ds gs before hval0 hW _ _ _ _ hsh _
  have hval : ∀ (j : Nat) t v, Tryd.f5.params[j]? = some t → args[j]? = some v → Value.okWide Tryd.prog W .any base t v := hval0
  have hW' := hW
  obtain ⟨p, q, hA0, hV, rfl, hfz, hnd⟩ := hW
  have hA : DataW.TrodAll enc Tryd.prog W 0 (fun _ => true) true Tryd.f5.params.toList args.toList ds p := hA0
  rw [Tryd.params5] at hA hval
  obtain ⟨v0, vs0, d0, ds0, p0, q0, hargs, rfl, rfl, h0, r0⟩ := trodAll_cons hA
  obtain ⟨v1, vs1, d1, ds1, p1, q1, rfl, rfl, rfl, h1, r1⟩ := trodAll_cons r0
  obtain ⟨rfl, rfl, rfl⟩ := trodAll_nil r1
  obtain rfl : args = #[v0, v1] := by cases args; simp_all
  obtain ⟨rfl, rfl⟩ := trodVars_none hV
  obtain ⟨a0, rfl, rfl, rfl, w0⟩ := open_string Tryd.underlying9 (hval 0 9 v0 rfl rfl) h0
  obtain ⟨a1, rfl, rfl, rfl, w1⟩ := open_int Tryd.underlying5 (hval 1 5 v1 rfl rfl) h1
  obtain ⟨b, rfl⟩ := byte_of w1
  obtain ⟨m, hm⟩ := Tryd.laysM146.s1_3 W hsh
  have hm' : W.cell? ⟨2, 0, none⟩ = some (.int .i64 m) := hm
  have hg : 2 < W.heap.size := by
    rcases Nat.lt_or_ge 2 W.heap.size with h3 | h3
    · exact h3
    · have e : W.heap[2]? = none := Array.getElem?_eq_none h3
      simp [World.cell?, e] at hm'
  clear hA0 hval0
  refine (walk a0 w0 b m W hg hm').mono fun e W' ⟨he, bel⟩ => ?_
  subst he
  exact ⟨_, rfl, _, _, _, [], _, [], hW', trodAll_mk1 (shut_bool Tryd.underlying4 _), (trodAll_cons_mk (shut_string Tryd.underlying9 w0) (trodAll_cons_mk (shut_int Tryd.underlying5 w1) trodAll_mk0)), rfl, bel.frame _, fun h => by cases h⟩

theorem said : Rows.FnExactPartsSaid :=
  OpenClaim.holds_of_cond 5 Tryd.f5 rfl rfl rfl rfl rfl rfl rfl ⟨rfl, rfl, rfl, rfl, rfl⟩ rfl rfl rfl rfl rfl (by kernel_rfl) Tryd.func5 (by kernel_rfl)
    (of_decide_eq_true (by kernel_rfl)) (by unfold Func.isWrapper; first | (rw [if_pos (by decide +kernel)]; kernel_rfl) | (rw [if_neg (by decide +kernel)]; exact ⟨rfl, rfl⟩))
    (fun os started H enc _ F => by rw [OpenClaim.pre_eq_preRow]; exact lifted os started H enc F)

theorem plain (f : FuncId) (fn : Func) (hf : Tryd.pinned.checked.prog.funcNamed "loop.example/g00477/laws.FnExactParts" = some f) (hfn : Tryd.pinned.checked.prog.funcs[f]? = some fn) :
    false = Tryd.pinned.checked.prog.looks [] ∧ ∀ (j : Nat) t, fn.params[j]? = some t → Tryd.pinned.checked.prog.wantsStandIn t = false := by
  obtain rfl : f = 5 := Option.some.inj ((show Tryd.prog.funcNamed "loop.example/g00477/laws.FnExactParts" = some 5 by kernel_rfl).symm.trans hf) |>.symm
  obtain rfl : fn = Tryd.f5 := (Option.some.inj (Tryd.func5.symm.trans hfn)).symm
  refine ⟨by kernel_rfl, fun j t ht => ?_⟩
  rw [Tryd.params5] at ht
  have hm : t ∈ [9, 5] := by simpa using Array.mem_of_getElem? ht
  have hall : ([9, 5].all fun u => !Tryd.prog.wantsStandIn u) = true := by kernel_rfl
  exact (show Tryd.prog.wantsStandIn t = false by simpa using List.all_eq_true.1 hall t hm)

theorem card : Rows.FnExactPartsCardSaid :=
  Claim7.holds_tied_plain_at .later [] _ _ _ _ said (fun _ h => by cases h) (by kernel_rfl) (fun _ h => by cases h) fnExactParts_row_tie rfl ⟨rfl, rfl⟩ (by kernel_rfl) rfl plain (by kernel_rfl)
end Go.Proofs.YtgekbbojhlcppabDoor.fnExactParts
namespace Go.Proofs.YtgekbbojhlcppabDoor
theorem parts_holds : Rows.FnExactPartsCardSaid := fnExactParts.card
#print axioms parts_holds
end Go.Proofs.YtgekbbojhlcppabDoor
