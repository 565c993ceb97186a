/- Texts of this claim, put together: part 14. -/
import Derived.Test.YtfekcckckmhioaaGreatDoorRowOfPack4
import Derived.Test.YtfekcckckmhioaaGreatDoorRowOfPack6
import Derived.Test.YtfekcckckmhioaaGreatDoorRowOfPack2
import Derived.Test.YtfekcckckmhioaaGreatDoorRowOfPack12
import Derived.Test.YtfekcckckmhioaaGreatDoorRowOfPack13
import Derived.Test.YtfekcckckmhioaaGreatDoorRowOfPack11
import Derived.Test.YtfekcckckmhioaaGreatDoorRows
import Derived.WalkKit
import Derived.ProofKit
import Derived.OpenShut
import Derived.LaidEql
import Derived.Stop.Asserts
import Derived.RowKitTokens
import Derived.Test.YtfekcckckmhioaaGreatDoorRowOfPack1
import Derived.Test.YtfekcckckmhioaaGreatDoorRowOfPack3
/- The bin of a number, by the program and by the specification. -/
namespace Go.Proofs.YtfekcckckmhioaaGreatDoor
open Go.RowKit
set_option maxRecDepth 100000
theorem implBin_any (v : Value) (cs : List Int) (x : Int) (w : World) (h : RowI w v cs) (hn : cs.length ≤ 1099511627776) :
    Calls Tryz.prog 102 #[v, .int .i64 x] w fun e w' => e = .returned (.int .i64 (binN cs x : Int)) ∧ w' = w := by
  obtain ⟨oa, cap, rfl, hc, hr⟩ := h
  have HJ : Hid (∀ k, k < cs.length → ∃ g o, oa = some ⟨g, o, none⟩ ∧ w.cell? ⟨g, o + k, none⟩ = some (.int .i64 (cs.getD k 0))) := fun k hk => by
    obtain ⟨g, o, e, hg, hj⟩ := hr (by omega)
    exact ⟨g, o, e, hj k hk⟩
  clear hr
  go_enter Tryz.func102, Tryz.ntmps102
  go_wp2
  go_loop [5, 10] (fun n i => ∃ k : Nat, i = .int .i64 k ∧ n = .int .i64 (binN (cs.take k) x : Int) ∧ k ≤ cs.length) (fun _ i => cs.length - (intOf i).toNat)
  case atStart => exact ⟨0, rfl, rfl, by omega⟩
  case round =>
    obtain ⟨k, rfl, rfl, hk⟩ := hrel
    have HL := binN_le (cs.take k) x
    rw [List.length_take] at HL
    by_cases hlt : k < cs.length
    · obtain ⟨g, o, rfl, hcell⟩ := HJ.out k hlt
      have HS : Hid (binN (cs.take (k + 1)) x = binN (cs.take k) x + (if cs.getD k 0 < x then 1 else 0)) := binN_step cs x k hlt
      generalize cs.getD k 0 = c at hcell HS
      generalize binN (cs.take k) x = b at HL HS
      by_cases hcx : c < x
      · have HE : Hid (binN (cs.take (k + 1)) x = b + 1) := by rw [HS.out, if_pos hcx]; rfl
        clear HS
        go_wp2
        go_round
        case rel => exact ⟨k + 1, by go_num, by rw [HE.out]; go_num, by omega⟩
        case measure => simp [intOf]; omega
      · have HE : Hid (binN (cs.take (k + 1)) x = b) := by rw [HS.out, if_neg hcx]; rfl
        clear HS
        go_wp2
        go_round
        case rel => exact ⟨k + 1, by go_num, by rw [HE.out], by omega⟩
        case measure => simp [intOf]; omega
    · have HE : Hid (binN (cs.take k) x = binN cs x) := by rw [List.take_of_length_le (by omega)]; rfl
      rw [HE.out]
      go_wp2
      go_ret
      exact ⟨rfl, rfl⟩
end Go.Proofs.YtfekcckckmhioaaGreatDoor
/- What a part of a row says of an attribute, by the program. -/
namespace Go.Proofs.YtfekcckckmhioaaGreatDoor
open Go.RowKit
set_option maxRecDepth 100000
set_option linter.unusedSimpArgs false
theorem ask_list7 : askB.toList = ([63] : List UInt8) := by decide +kernel
theorem ask_eq7 (t : ByteArray) : (t.toList == ([63] : List UInt8)) = decide (t = askB) := by
  rw [← ask_list7]
  by_cases h : t = askB
  · rw [decide_eq_true h, h]; simp
  · rw [decide_eq_false h, beq_eq_false_iff_ne]
    exact fun e => h (bytes_eq_iff.1 e)
theorem choiceRead_any (v : Value) (ss : List ByteArray) (t : ByteArray) (w : World) (h : RowS w v ss) (hn : ss.length ≤ 1099511627776) :
    Calls Tryz.prog 58 #[v, .string t] w fun e w' => e = .returned (.tuple #[.int .i64 (if t = askB then -1 else placeT ss t), .bool (decide (t = askB ∨ 0 ≤ placeT ss t))]) ∧ Below w.heap.size w w' := by
  have hq := ask_eq7 t
  by_cases h0 : t = askB
  · rw [if_pos h0, decide_eq_true (.inl h0)]
    rw [decide_eq_true h0] at hq
    obtain ⟨oa, cap, rfl, -, -⟩ := id h
    clear h h0
    go_enter Tryz.func58, Tryz.ntmps58
    go_wp2
    refine bodyPost_ret (results_tmp2 rfl _ _ _) rfl ⟨rfl, Below.refl _ _⟩
  · rw [if_neg h0]
    rw [decide_eq_false h0] at hq
    have e1 := index_place v ss t w h hn
    have hP := placeT_bounds ss t
    have HB : Hid (decide (t = askB ∨ 0 ≤ placeT ss t) = decide (0 ≤ placeT ss t)) := by
      by_cases hp : 0 ≤ placeT ss t
      · rw [decide_eq_true (.inr hp), decide_eq_true hp]; rfl
      · rw [decide_eq_false (fun h => h.elim h0 hp), decide_eq_false hp]; rfl
    rw [HB.out]
    obtain ⟨oa, cap, rfl, -, -⟩ := id h
    clear HB
    generalize placeT ss t = P at e1 hP
    clear h0 h
    go_enter Tryz.func58, Tryz.ntmps58
    go_wp2_with fail
    refine e1.mono ?_
    clear e1
    rintro e w1 ⟨rfl, hb1⟩
    go_wp2
    refine bodyPost_ret (results_tmp2 rfl _ _ _) rfl ⟨rfl, hb1⟩
set_option maxHeartbeats 800000 in
theorem cellRead_any (v : Value) (a : AttrD) (t : ByteArray) (u : TypeId) (ev : Value) (m : Int) (w : World) (h : AttrAt w v a) (hn : okA a) (ht : t.size ≤ 1048576) (hE : Env u ev m w) :
    Calls Tryz.prog 81 #[v, .string t] w fun e w' => e = .returned (.tuple #[.int .i64 (cellXi a t), .bool (cellB a t).isSome]) ∧ Below w.heap.size w w' := by
  have hat := h
  obtain ⟨vc, vv, rfl, hc, hv⟩ := h
  have HAT : Hid (∀ W, Below w.heap.size w W → AttrAt W (.agg #[.string a.name, vc, vv]) a) := fun W h => hat.later h
  have HC : Hid (∀ W, Below w.heap.size w W → RowI W vc a.cuts) := fun W h => hc.later h
  have HV : Hid (∀ W, Below w.heap.size w W → RowS W vv a.vals) := fun W h => hv.later h
  have HENV : Hid (∀ W, Below w.heap.size w W → Env u ev m W) := fun W h => hE.later h
  obtain ⟨oc, cc, rfl, -, -⟩ := id hc
  obtain ⟨ov, cv, rfl, -, -⟩ := id hv
  have lc := hn.cuts
  have lv := hn.vals.1
  clear hc hv hn hat hE
  obtain ⟨K0, B0⟩ := blk_1 57 w #[.string a.name, .slice oc a.cuts.length cc, .slice ov a.vals.length cv]
  have e0 := nominal_any _ a _ (HAT.out _ B0)
  have hq := ask_eq7 t
  by_cases hv0 : 0 < a.vals.length
  · rw [decide_eq_true hv0] at e0
    have HX : Hid ((cellB a t).isSome = decide (t = askB ∨ 0 ≤ placeT a.vals t) ∧ cellXi a t = (if t = askB then -1 else placeT a.vals t)) := by
      refine ⟨?_, if_pos hv0⟩
      unfold cellB
      by_cases h0 : t = askB
      · rw [if_pos h0, decide_eq_true (.inl h0)]; rfl
      · rw [if_neg h0, if_pos hv0]
        by_cases hp : 0 ≤ placeT a.vals t
        · rw [if_pos hp, decide_eq_true (.inr hp)]; rfl
        · rw [if_neg hp, decide_eq_false (fun h => h.elim h0 hp)]; rfl
    have HR : Hid (∀ W, Below w.heap.size w W → Calls Tryz.prog 58 #[.slice ov a.vals.length cv, .string t] W fun e w' => e = .returned (.tuple #[.int .i64 (if t = askB then -1 else placeT a.vals t), .bool (decide (t = askB ∨ 0 ≤ placeT a.vals t))]) ∧ Below W.heap.size W w') := fun W hW => choiceRead_any _ a.vals t W (HV.out W hW) lv
    generalize (if t = askB then -1 else placeT a.vals t) = P at HX HR
    generalize decide (t = askB ∨ 0 ≤ placeT a.vals t) = D at HX HR
    clear hq
    go_enter Tryz.func81, Tryz.ntmps81
    go_wp2_with fail
    refine e0.mono ?_
    clear e0
    rintro e w1 ⟨rfl, hb1⟩
    have B1 := B0.trans (hb1.mono (by simp))
    have k2 : w1.cell? ⟨w.heap.size, 2, none⟩ = some (.slice ov a.vals.length cv) := (K0.below hb1).cell 2
    have e1 := HR.out w1 B1
    clear K0 hb1 B0
    go_wp2_with fail
    refine e1.mono ?_
    clear e1
    rintro e w2 ⟨rfl, hb2⟩
    go_wp2
    refine bodyPost_ret (results_tmp2 rfl _ _ _) rfl ⟨by rw [HX.out.1, HX.out.2]; rfl, B1.trans (hb2.mono B1.size)⟩
  rw [decide_eq_false hv0] at e0
  by_cases h0 : t = askB
  · have HE : Hid (cellB a t = some (-1)) := if_pos h0
    have HZ : Hid (cellXi a t = -1) := by unfold cellXi; rw [if_neg hv0, if_pos h0]; rfl
    rw [decide_eq_true h0] at hq
    have HR : Hid (∀ W, Below w.heap.size w W → Calls Tryz.prog 58 #[.slice ov a.vals.length cv, .string t] W fun e w' => e = .returned (.tuple #[.int .i64 (-1), .bool true]) ∧ Below W.heap.size W w') := fun W hW => by
      have := choiceRead_any _ a.vals t W (HV.out W hW) lv
      rwa [if_pos h0, decide_eq_true (.inl h0)] at this
    clear h0
    go_enter Tryz.func81, Tryz.ntmps81
    go_wp2_with fail
    refine e0.mono ?_
    clear e0
    rintro e w1 ⟨rfl, hb1⟩
    have B1 := B0.trans (hb1.mono (by simp))
    have k2 : w1.cell? ⟨w.heap.size, 2, none⟩ = some (.slice ov a.vals.length cv) := (K0.below hb1).cell 2
    have e1 := HR.out w1 B1
    clear K0 hb1 B0
    go_wp2_with fail
    refine e1.mono ?_
    clear e1
    rintro e w2 ⟨rfl, hb2⟩
    go_wp2
    refine bodyPost_ret (results_tmp2 rfl _ _ _) rfl ⟨by rw [HE.out, HZ.out]; rfl, B1.trans (hb2.mono B1.size)⟩
  rw [decide_eq_false h0] at hq
  have HS : Hid (∀ W, Below w.heap.size w W → Calls Tryz.prog 101 #[.string t] W fun e w' => e = .returned (gotInt (sigSpec t.data.toList)) ∧ Below W.heap.size W w') := fun W hW => iSigned_any t u ev m W ht (HENV.out W hW)
  have HCE : Hid (cellB a t = (sigSpec t.data.toList).map fun n => (binN a.cuts n : Int)) := by unfold cellB; rw [if_neg h0, if_neg hv0]; rfl
  have HCX : Hid (cellXi a t = (binN a.cuts ((sigSpec t.data.toList).getD 0) : Int)) := by unfold cellXi; rw [if_neg hv0, if_neg h0]; rfl
  clear h0
  obtain ⟨n, b, hgot, hsome, hval⟩ : ∃ (n : Int) (b : Bool), gotInt (sigSpec t.data.toList) = .tuple #[.int .i64 n, .bool b] ∧ (cellB a t).isSome = b ∧ cellXi a t = (binN a.cuts n : Int) := by
    rw [HCE.out, HCX.out]
    cases sigSpec t.data.toList with
    | none => exact ⟨0, false, rfl, rfl, rfl⟩
    | some n => exact ⟨n, true, rfl, rfl, rfl⟩
  have HG : Hid ((cellB a t).isSome = b ∧ cellXi a t = (binN a.cuts n : Int)) := ⟨hsome, hval⟩
  have HS2 : Hid (∀ W, Below w.heap.size w W → Calls Tryz.prog 101 #[.string t] W fun e w' => e = .returned (.tuple #[.int .i64 n, .bool b]) ∧ Below W.heap.size W w') := fun W hW => by
    have := HS.out W hW
    rwa [hgot] at this
  clear hsome hval hgot HS HCE HCX
  go_enter Tryz.func81, Tryz.ntmps81
  go_wp2_with fail
  refine e0.mono ?_
  clear e0
  rintro e w1 ⟨rfl, hb1⟩
  have B1 := B0.trans (hb1.mono (by simp))
  have K1 := K0.below hb1
  have e1 := HS2.out w1 B1
  clear K0 hb1 B0
  go_wp2_with fail
  refine e1.mono ?_
  clear e1
  rintro e w2 ⟨rfl, hb2⟩
  have B2 := B1.trans (hb2.mono B1.size)
  have k1 : w2.cell? ⟨w.heap.size, 1, none⟩ = some (.slice oc a.cuts.length cc) := (K1.below hb2).cell 1
  have e2 := implBin_any _ a.cuts n w2 (HC.out w2 B2) lc
  clear K1 hb2 B1
  go_wp2_with fail
  refine e2.mono ?_
  clear e2
  rintro e w3 ⟨rfl, e3⟩
  rw [e3]
  go_wp2
  refine bodyPost_ret (results_tmp2 rfl _ _ _) rfl ⟨by rw [HG.out.1, HG.out.2]; rfl, B2⟩
end Go.Proofs.YtfekcckckmhioaaGreatDoor
/- errors.As at a pointer to one of the program's own error types: what the library's text does, walked once for every pair of types. -/
namespace Go.Proofs.YtfekcckckmhioaaGreatDoor
open Go.RowKit Go.Extern.Stop Go.Stop Go.Extern
set_option maxRecDepth 100000
set_option linter.unusedSimpArgs false
set_option linter.unusedVariables false
/-- errors.As(nil, target). -/
theorem as_nil (t : Value) (w : World) :
    Calls Tryz.prog 59 #[.nilIface, t] w fun e w' => e = .returned (.bool false) ∧ w' = w := by
  go_enter Tryz.func59, Tryz.ntmps59
  go_wp2
  go_ret
  exact ⟨rfl, rfl⟩
theorem as_methodKind (h : Value) (w : World) : (Go.method 336 144 (.agg #[h]) "Kind").run Tryz.prog w = .ok (166, h) w := by kernel_rfl
theorem as_methodElem (h : Value) (w : World) : (Go.method 336 144 (.agg #[h]) "Elem").run Tryz.prog w = .ok (182, .agg #[h]) w := by kernel_rfl
theorem as_methodImplements (h : Value) (w : World) : (Go.method 336 144 (.agg #[h]) "Implements").run Tryz.prog w = .ok (183, .agg #[h]) w := by kernel_rfl
theorem as_methodAssignableTo (h : Value) (w : World) : (Go.method 336 144 (.agg #[h]) "AssignableTo").run Tryz.prog w = .ok (180, .agg #[h]) w := by kernel_rfl
theorem as_rlm (z : Sem Value) (f : TypeId → Addr → Nat → Nat → Sem Value) (v : Value) :
    ReflectliteValue.method z f #[v] = (do match ← ReflectliteValue.parts v with | none => z | some (t, a, fl) => f t a fl (fl % 32)) := rfl
/-- What the library finds of a target's type: PT is a pointer to T. -/
structure AsT (PT T : TypeId) : Prop where
  valueOf : ∀ (t : Addr) (w : World), (ReflectliteValue.unpack (.iface PT (.pointer (some t)))).run Tryz.prog w = .ok (.agg #[.pointer (some ⟨10, PT, none⟩), .pointer (some ⟨w.heap.size, 0, none⟩), .int .u64 150]) (w.alloc (.cells #[.pointer (some t)] PT))
  typ : ∀ (a : Addr) (w : World), (ReflectliteValue.methodAny (ReflectliteValue.valueError "reflectlite.Value.Type" 0) (fun t _ _ _ => ReflectliteType.toType t) #[.agg #[.pointer (some ⟨10, PT, none⟩), .pointer (some a), .int .u64 150]]).run Tryz.prog w = .ok (.iface 144 (.agg #[.pointer (some ⟨10, PT, none⟩)])) w
  kindP : ∀ (w : World), ((ReflectliteType.abiMethod fun t => (fun a : Nat => Value.int IntKind.u8 (a : Int)) <$> Rtype.kind t) #[.pointer (some ⟨10, PT, none⟩)]).run Tryz.prog w = .ok (.int .u8 22) w
  kindT : ∀ (w : World), ((ReflectliteType.abiMethod fun t => (fun a : Nat => Value.int IntKind.u8 (a : Int)) <$> Rtype.kind t) #[.pointer (some ⟨10, T, none⟩)]).run Tryz.prog w = .ok (.int .u8 25) w
  isNil : ∀ (a p : Addr) (W : World), W.cell? a = some (.pointer (some p)) → (ReflectliteValue.method (ReflectliteValue.valueError "reflectlite.Value.IsNil" 0) ReflectliteValue.isNil #[.agg #[.pointer (some ⟨10, PT, none⟩), .pointer (some a), .int .u64 150]]).run Tryz.prog W = .ok (.bool false) W
  elem : ∀ (w : World), (ReflectliteType.method ReflectliteType.elem #[.agg #[.pointer (some ⟨10, PT, none⟩)]]).run Tryz.prog w = .ok (.iface 144 (.agg #[.pointer (some ⟨10, T, none⟩)])) w
  implements : ∀ (w : World), (ReflectliteType.relation "Implements" ReflectliteType.implements_ #[.agg #[.pointer (some ⟨10, T, none⟩)], .iface 144 (.agg #[.pointer (some ⟨10, 62, none⟩)])]).run Tryz.prog w = .ok (.bool true) w
/-- What the library finds of an error's type: it has neither As nor Unwrap. -/
structure AsE (E : TypeId) : Prop where
  typeOf : ∀ (v : Value) (w : World), (ReflectliteType.typeOf #[.iface E v]).run Tryz.prog w = .ok (.iface 144 (.agg #[.pointer (some ⟨10, E, none⟩)])) w
  noAs : ∀ (v : Value) (xT : TypeId) (w : World), (Instr.typeAssert (.iface E v) xT 149 true).run Tryz.prog w = .ok (.tuple #[.nilIface, .bool false]) w
  noUn : ∀ (v : Value) (xT : TypeId) (w : World), (Instr.typeAssert (.iface E v) xT 152 true).run Tryz.prog w = .ok (.tuple #[.nilIface, .bool false]) w
  noUns : ∀ (v : Value) (xT : TypeId) (w : World), (Instr.typeAssert (.iface E v) xT 154 true).run Tryz.prog w = .ok (.tuple #[.nilIface, .bool false]) w
def AsN (E T : TypeId) (b : Bool) : Prop := ∀ (w : World), (ReflectliteType.relation "AssignableTo" ReflectliteType.assignableTo #[.agg #[.pointer (some ⟨10, E, none⟩)], .iface 144 (.agg #[.pointer (some ⟨10, T, none⟩)])]).run Tryz.prog w = .ok (.bool b) w
/-- The package's variable that bears the type error. -/
def EtAt (w : World) : Prop := 0 < w.heap.size ∧ w.cell? ⟨0, 0, none⟩ = some (.iface 144 (.agg #[.pointer (some ⟨10, 62, none⟩)]))
theorem EtAt.later {w w' : World} (h : EtAt w) (hb : Below w.heap.size w w') : EtAt w' := ⟨Nat.lt_of_lt_of_le h.1 hb.size, (hb.cell (p := ⟨0, 0, none⟩) h.1).trans h.2⟩
set_option maxHeartbeats 4000000 in
/-- The error is of another type than what the target points to: no. -/
theorem as_miss {PT T E : TypeId} (hT : AsT PT T) (hE : AsE E) (hN : AsN E T false) (v : Value) (t : Addr) (w : World) (hg : EtAt w) :
    Calls Tryz.prog 59 #[.iface E v, .iface PT (.pointer (some t))] w fun ev w' => ev = .returned (.bool false) ∧ Below w.heap.size w w' := by
  have h6 := @run_callFunc_extern Tryz.prog 83 _ (fun args => ReflectliteValue.unpack (args.getD 0 (.tuple #[]))) Tryz.func83 (by kernel_rfl) (by kernel_rfl) (by kernel_rfl) (by kernel_rfl)
  have h7 := @run_callFunc_extern Tryz.prog 84 _ (ReflectliteValue.methodAny (ReflectliteValue.valueError "reflectlite.Value.Type" 0) (fun t _ _ _ => ReflectliteType.toType t)) Tryz.func84 (by kernel_rfl) (by kernel_rfl) (by kernel_rfl) (by kernel_rfl)
  have h8 := @run_callFunc_extern Tryz.prog 85 _ (ReflectliteValue.method (ReflectliteValue.valueError "reflectlite.Value.IsNil" 0) ReflectliteValue.isNil) Tryz.func85 (by kernel_rfl) (by kernel_rfl) (by kernel_rfl) (by kernel_rfl)
  have h27 := @run_callFunc_extern Tryz.prog 166 _ (ReflectliteType.abiMethod fun t => do pure (.int .u8 (← Rtype.kind t))) Tryz.func166 (by kernel_rfl) (by kernel_rfl) (by kernel_rfl) (by kernel_rfl)
  have h37 := @run_callFunc_extern Tryz.prog 182 _ (ReflectliteType.method ReflectliteType.elem) Tryz.func182 (by kernel_rfl) (by kernel_rfl) (by kernel_rfl) (by kernel_rfl)
  have h38 := @run_callFunc_extern Tryz.prog 183 _ (ReflectliteType.relation "Implements" ReflectliteType.implements_) Tryz.func183 (by kernel_rfl) (by kernel_rfl) (by kernel_rfl) (by kernel_rfl)
  have h10 := @run_callFunc_extern Tryz.prog 103 _ ReflectliteType.typeOf Tryz.func103 (by kernel_rfl) (by kernel_rfl) (by kernel_rfl) (by kernel_rfl)
  have h35 := @run_callFunc_extern Tryz.prog 180 _ (ReflectliteType.relation "AssignableTo" ReflectliteType.assignableTo) Tryz.func180 (by kernel_rfl) (by kernel_rfl) (by kernel_rfl) (by kernel_rfl)
  have tO := hE.typeOf
  have nA := hE.noAs
  have nU := hE.noUn
  have nV := hE.noUns
  have mA := as_methodAssignableTo
  have f6 := hT.valueOf
  have f7 := hT.typ
  have mK := as_methodKind
  have mE := as_methodElem
  have mI := as_methodImplements
  have k27 := hT.kindP
  have k25 := hT.kindT
  have e27 := hT.elem
  have i25 := hT.implements
  have a25 : ∀ (w : World), (ReflectliteType.relation "AssignableTo" ReflectliteType.assignableTo #[.agg #[.pointer (some ⟨10, E, none⟩)], .iface 144 (.agg #[.pointer (some ⟨10, T, none⟩)])]).run Tryz.prog w = .ok (.bool false) w := hN
  have n8 := hT.isNil ⟨w.heap.size, 0, none⟩ t ((w.alloc (.cells #[.pointer (some t)] PT)).alloc (.cells #[.pointer (some ⟨10, PT, none⟩), .pointer (some ⟨w.heap.size, 0, none⟩), .int .u64 150] 124)) (by simp)
  obtain ⟨hlt, hg0⟩ := hg
  have hg2 : ((w.alloc (.cells #[.pointer (some t)] PT)).alloc (.cells #[.pointer (some ⟨10, PT, none⟩), .pointer (some ⟨w.heap.size, 0, none⟩), .int .u64 150] 124)).cell? ⟨0, 0, none⟩ = some (.iface 144 (.agg #[.pointer (some ⟨10, 62, none⟩)])) := by
    rw [World.cell?_alloc_lt _ _ ⟨0, 0, none⟩ (by simp <;> omega), World.cell?_alloc_lt _ _ ⟨0, 0, none⟩ hlt]; exact hg0
  clear hT hE hN
  go_enter Tryz.func59, Tryz.ntmps59
  go_wp2
  refine wp_loop_rounds 1 ?_
  rw [rounds_succ]
  go_wp2
  go_ret
  exact ⟨rfl, ((((Below.refl _ _).alloc (Nat.le_refl _) _).alloc (by simp) _).alloc (by simp <;> omega) _)⟩
end Go.Proofs.YtfekcckckmhioaaGreatDoor
/- errors.As at each of the program's own error types. -/
namespace Go.Proofs.YtfekcckckmhioaaGreatDoor
open Go.RowKit Go.Extern.Stop Go.Stop Go.Extern
set_option maxRecDepth 100000
set_option linter.unusedSimpArgs false
set_option linter.unusedVariables false
/-- What the library does where the error is of the type that the target points to: a struct, of which it makes a Value, and sets the target. -/
structure AsH (PT T : TypeId) (cs : Array Value) (K : World → Addr → World) : Prop where
  valueOf : ∀ (w : World), (ReflectliteValue.unpack (.iface T (.agg cs))).run Tryz.prog w = .ok (.agg #[.pointer (some ⟨10, T, none⟩), .pointer (some ⟨w.heap.size, 0, none⟩), .int .u64 153]) (w.alloc (.cells cs T))
  elemV : ∀ (a p : Addr) (W : World), W.cell? a = some (.pointer (some p)) → (ReflectliteValue.method (ReflectliteValue.valueError "reflectlite.Value.Elem" 0) ReflectliteValue.elem #[.agg #[.pointer (some ⟨10, PT, none⟩), .pointer (some a), .int .u64 150]]).run Tryz.prog W = .ok (.agg #[.pointer (some ⟨10, T, none⟩), .pointer (some p), .int .u64 409]) W
  set : ∀ (ta : Addr) (W : World), ta.block < W.heap.size → (∀ v, cs[0]? = some v → ∃ old, W.cell? ta = some old) → W.frozen? ta = false → (ReflectliteValue.set #[.agg #[.pointer (some ⟨10, T, none⟩), .pointer (some ta), .int .u64 409], .agg #[.pointer (some ⟨10, T, none⟩), .pointer (some ⟨W.heap.size, 0, none⟩), .int .u64 153]]).run Tryz.prog (W.alloc (.cells cs T)) = .ok (.tuple #[]) (K (W.alloc (.cells cs T)) ta)
set_option maxHeartbeats 4000000 in
/-- The error is of the type that the target points to: yes, and the target is set. -/
theorem as_hit {PT T : TypeId} {cs : Array Value} {K : World → Addr → World} (hT : AsT PT T) (hE : AsE T) (hN : AsN T T true) (hH : AsH PT T cs K) (t : Addr) (w : World) (hg : EtAt w) (htb : t.block < w.heap.size) (ht : ∀ v, cs[0]? = some v → ∃ old, w.cell? t = some old) (hf : w.frozen? t = false) :
    Calls Tryz.prog 59 #[.iface T (.agg cs), .iface PT (.pointer (some t))] w fun ev w' => ev = .returned (.bool true) ∧ ∃ W, Below w.heap.size w W ∧ w' = K W t := by
  have h6 := @run_callFunc_extern Tryz.prog 83 _ (fun args => ReflectliteValue.unpack (args.getD 0 (.tuple #[]))) Tryz.func83 (by kernel_rfl) (by kernel_rfl) (by kernel_rfl) (by kernel_rfl)
  have h7 := @run_callFunc_extern Tryz.prog 84 _ (ReflectliteValue.methodAny (ReflectliteValue.valueError "reflectlite.Value.Type" 0) (fun t _ _ _ => ReflectliteType.toType t)) Tryz.func84 (by kernel_rfl) (by kernel_rfl) (by kernel_rfl) (by kernel_rfl)
  have h8 := @run_callFunc_extern Tryz.prog 85 _ (ReflectliteValue.method (ReflectliteValue.valueError "reflectlite.Value.IsNil" 0) ReflectliteValue.isNil) Tryz.func85 (by kernel_rfl) (by kernel_rfl) (by kernel_rfl) (by kernel_rfl)
  have h27 := @run_callFunc_extern Tryz.prog 166 _ (ReflectliteType.abiMethod fun t => do pure (.int .u8 (← Rtype.kind t))) Tryz.func166 (by kernel_rfl) (by kernel_rfl) (by kernel_rfl) (by kernel_rfl)
  have h37 := @run_callFunc_extern Tryz.prog 182 _ (ReflectliteType.method ReflectliteType.elem) Tryz.func182 (by kernel_rfl) (by kernel_rfl) (by kernel_rfl) (by kernel_rfl)
  have h38 := @run_callFunc_extern Tryz.prog 183 _ (ReflectliteType.relation "Implements" ReflectliteType.implements_) Tryz.func183 (by kernel_rfl) (by kernel_rfl) (by kernel_rfl) (by kernel_rfl)
  have h10 := @run_callFunc_extern Tryz.prog 103 _ ReflectliteType.typeOf Tryz.func103 (by kernel_rfl) (by kernel_rfl) (by kernel_rfl) (by kernel_rfl)
  have h35 := @run_callFunc_extern Tryz.prog 180 _ (ReflectliteType.relation "AssignableTo" ReflectliteType.assignableTo) Tryz.func180 (by kernel_rfl) (by kernel_rfl) (by kernel_rfl) (by kernel_rfl)
  have h11 := @run_callFunc_extern Tryz.prog 104 _ (ReflectliteValue.method (ReflectliteValue.valueError "reflectlite.Value.Elem" 0) ReflectliteValue.elem) Tryz.func104 (by kernel_rfl) (by kernel_rfl) (by kernel_rfl) (by kernel_rfl)
  have h12 := @run_callFunc_extern Tryz.prog 105 _ ReflectliteValue.set Tryz.func105 (by kernel_rfl) (by kernel_rfl) (by kernel_rfl) (by kernel_rfl)
  have tO := hE.typeOf
  have mA := as_methodAssignableTo
  have f6 := hT.valueOf
  have f7 := hT.typ
  have mK := as_methodKind
  have mE := as_methodElem
  have mI := as_methodImplements
  have k27 := hT.kindP
  have k25 := hT.kindT
  have e27 := hT.elem
  have i25 := hT.implements
  have v25 := hH.valueOf
  have a25 : ∀ (w : World), (ReflectliteType.relation "AssignableTo" ReflectliteType.assignableTo #[.agg #[.pointer (some ⟨10, T, none⟩)], .iface 144 (.agg #[.pointer (some ⟨10, T, none⟩)])]).run Tryz.prog w = .ok (.bool true) w := hN
  have n8 := hT.isNil ⟨w.heap.size, 0, none⟩ t ((w.alloc (.cells #[.pointer (some t)] PT)).alloc (.cells #[.pointer (some ⟨10, PT, none⟩), .pointer (some ⟨w.heap.size, 0, none⟩), .int .u64 150] 124)) (by simp)
  obtain ⟨hlt, hg0⟩ := hg
  have hg2 : ((w.alloc (.cells #[.pointer (some t)] PT)).alloc (.cells #[.pointer (some ⟨10, PT, none⟩), .pointer (some ⟨w.heap.size, 0, none⟩), .int .u64 150] 124)).cell? ⟨0, 0, none⟩ = some (.iface 144 (.agg #[.pointer (some ⟨10, 62, none⟩)])) := by
    rw [World.cell?_alloc_lt _ _ ⟨0, 0, none⟩ (by simp <;> omega), World.cell?_alloc_lt _ _ ⟨0, 0, none⟩ hlt]; exact hg0
  have BW : Below w.heap.size w (((w.alloc (.cells #[.pointer (some t)] PT)).alloc (.cells #[.pointer (some ⟨10, PT, none⟩), .pointer (some ⟨w.heap.size, 0, none⟩), .int .u64 150] 124)).alloc (.cells #[.pointer (some ⟨10, PT, none⟩), .pointer (some ⟨w.heap.size, 0, none⟩), .int .u64 150] 124)) := (((Below.refl _ _).alloc (Nat.le_refl _) _).alloc (by simp) _).alloc (by simp <;> omega) _
  have el := hH.elemV ⟨w.heap.size, 0, none⟩ t (((w.alloc (.cells #[.pointer (some t)] PT)).alloc (.cells #[.pointer (some ⟨10, PT, none⟩), .pointer (some ⟨w.heap.size, 0, none⟩), .int .u64 150] 124)).alloc (.cells #[.pointer (some ⟨10, PT, none⟩), .pointer (some ⟨w.heap.size, 0, none⟩), .int .u64 150] 124)) (by rw [World.cell?_alloc_lt _ _ ⟨w.heap.size, 0, none⟩ (by simp; omega), World.cell?_alloc_lt _ _ ⟨w.heap.size, 0, none⟩ (by simp)]; simp)
  have st := hH.set t (((w.alloc (.cells #[.pointer (some t)] PT)).alloc (.cells #[.pointer (some ⟨10, PT, none⟩), .pointer (some ⟨w.heap.size, 0, none⟩), .int .u64 150] 124)).alloc (.cells #[.pointer (some ⟨10, PT, none⟩), .pointer (some ⟨w.heap.size, 0, none⟩), .int .u64 150] 124)) (Nat.lt_of_lt_of_le htb BW.size) (fun v hv => by
    obtain ⟨old, ho⟩ := ht v hv
    exact ⟨old, (BW.cell htb).trans ho⟩) (by
    rw [World.frozen?_alloc_old _ _ t (by simp; omega), World.frozen?_alloc_old _ _ t (by simp; omega), World.frozen?_alloc_old _ _ t (Nat.ne_of_lt htb)]; exact hf)
  have HB : Hid (Below w.heap.size w ((((w.alloc (.cells #[.pointer (some t)] PT)).alloc (.cells #[.pointer (some ⟨10, PT, none⟩), .pointer (some ⟨w.heap.size, 0, none⟩), .int .u64 150] 124)).alloc (.cells #[.pointer (some ⟨10, PT, none⟩), .pointer (some ⟨w.heap.size, 0, none⟩), .int .u64 150] 124)).alloc (.cells cs T))) := BW.alloc BW.size _
  simp only [World.size_alloc] at st
  clear hT hE hN hH ht hf BW
  go_enter Tryz.func59, Tryz.ntmps59
  go_wp2
  refine wp_loop_rounds 1 ?_
  rw [rounds_succ]
  go_wp2
  go_ret
  exact ⟨rfl, _, HB.out, rfl⟩
theorem as_rls (v x : Value) : ReflectliteValue.set #[v, x] = (do
    let (some (dst, a, fl), some (src, b, _)) := (← ReflectliteValue.parts v, ← ReflectliteValue.parts x)
      | unsupported (.noEntry "extern/(internal/reflectlite.Value).Set.zeroValue")
    if fl / ReflectliteValue.flagAddr % 2 == 0 then unsupported (.noEntry "extern/(internal/reflectlite.Value).Set.unaddressable")
    let val ← loadVar src b
    if ← Rtype.directlyAssignable dst src then storeVar dst a val
    else if ← Rtype.implements dst src then
      if (← Rtype.kind src) == 20 then
        match val with
        | .nilIface => unsupported (.noEntry "extern/reflectlite: a nil value of one interface type handed on as a value of another")
        | _ => storeVar dst a val
      else storeVar dst a (.iface src val)
    else panicString ("reflectlite.Set: value of type " ++ (← Rtype.spelt src) ++ " is not assignable to type " ++ (← Rtype.spelt dst))
    pure (.tuple #[])) := rfl
theorem as_parts_schema (a : Addr) (w : World) : (ReflectliteValue.parts (.agg #[.pointer (some ⟨10, 95, none⟩), .pointer (some a), .int .u64 150])).run Tryz.prog w = .ok (some (95, a, 150)) w := by kernel_rfl
theorem as_elemOf_schema (w : World) : (Rtype.elem? 95).run Tryz.prog w = .ok (some 84) w := by kernel_rfl
theorem as_mk_schema (p : Addr) (w : World) : (ReflectliteValue.mk 84 p ReflectliteValue.flagAddr).run Tryz.prog w = .ok (.agg #[.pointer (some ⟨10, 84, none⟩), .pointer (some p), .int .u64 409]) w := by kernel_rfl
theorem as_partsD_schema (a : Addr) (w : World) : (ReflectliteValue.parts (.agg #[.pointer (some ⟨10, 84, none⟩), .pointer (some a), .int .u64 409])).run Tryz.prog w = .ok (some (84, a, 409)) w := by kernel_rfl
theorem as_partsS_schema (a : Addr) (w : World) : (ReflectliteValue.parts (.agg #[.pointer (some ⟨10, 84, none⟩), .pointer (some a), .int .u64 153])).run Tryz.prog w = .ok (some (84, a, 153)) w := by kernel_rfl
theorem as_direct_schema (w : World) : (Rtype.directlyAssignable 84 84).run Tryz.prog w = .ok true w := by kernel_rfl
theorem asT_schema : AsT 95 84 where
  valueOf := fun t w => by kernel_rfl
  typ := fun a w => by kernel_rfl
  kindP := fun w => by kernel_rfl
  kindT := fun w => by kernel_rfl
  isNil := fun a p W ha => by
    rw [as_rlm]
    simp only [Sem.run_bind, as_parts_schema, Result.andThen]
    simp [ReflectliteValue.isNil, loadVar, isAgg, underlying, Tryz.underlying95, ha, Result.andThen]
  elem := fun w => by kernel_rfl
  implements := fun w => by kernel_rfl
theorem asE_schema : AsE 84 where
  typeOf := fun v w => by kernel_rfl
  noAs := fun v xT w => run_typeAssert_lacksB Tryz.underlying149 (by kernel_rfl) (by kernel_rfl) v xT w
  noUn := fun v xT w => run_typeAssert_lacksB Tryz.underlying152 (by kernel_rfl) (by kernel_rfl) v xT w
  noUns := fun v xT w => run_typeAssert_lacksB Tryz.underlying154 (by kernel_rfl) (by kernel_rfl) v xT w
theorem asN_schema : AsN 84 84 true := fun w => by kernel_rfl
theorem as_size_schema (w : World) : (sizeOf 84).run Tryz.prog w = .ok 0 w := by kernel_rfl
theorem asH_schema : AsH 95 84 #[] (fun W _ => W) where
  valueOf := fun w => by kernel_rfl
  elemV := fun a p W ha => by
    rw [as_rlm]
    simp only [Sem.run_bind, as_parts_schema, Result.andThen]
    simp [ReflectliteValue.elem, loadVar, isAgg, underlying, Tryz.underlying95, ha, Result.andThen, as_elemOf_schema, as_mk_schema]
  set := fun ta W _ _ _ => by
    rw [as_rls]
    simp only [Sem.run_bind, as_partsD_schema, as_partsS_schema, Result.andThen]
    simp [ReflectliteValue.flagAddr, loadVar, isAgg, underlying, Tryz.underlying84, Result.andThen, as_direct_schema, as_size_schema, storeVar, Value.cells, storeCells, loadCells, loadCellsFrom]
theorem as_parts_long (a : Addr) (w : World) : (ReflectliteValue.parts (.agg #[.pointer (some ⟨10, 96, none⟩), .pointer (some a), .int .u64 150])).run Tryz.prog w = .ok (some (96, a, 150)) w := by kernel_rfl
theorem as_elemOf_long (w : World) : (Rtype.elem? 96).run Tryz.prog w = .ok (some 85) w := by kernel_rfl
theorem as_mk_long (p : Addr) (w : World) : (ReflectliteValue.mk 85 p ReflectliteValue.flagAddr).run Tryz.prog w = .ok (.agg #[.pointer (some ⟨10, 85, none⟩), .pointer (some p), .int .u64 409]) w := by kernel_rfl
theorem as_partsD_long (a : Addr) (w : World) : (ReflectliteValue.parts (.agg #[.pointer (some ⟨10, 85, none⟩), .pointer (some a), .int .u64 409])).run Tryz.prog w = .ok (some (85, a, 409)) w := by kernel_rfl
theorem as_partsS_long (a : Addr) (w : World) : (ReflectliteValue.parts (.agg #[.pointer (some ⟨10, 85, none⟩), .pointer (some a), .int .u64 153])).run Tryz.prog w = .ok (some (85, a, 153)) w := by kernel_rfl
theorem as_direct_long (w : World) : (Rtype.directlyAssignable 85 85).run Tryz.prog w = .ok true w := by kernel_rfl
theorem asT_long : AsT 96 85 where
  valueOf := fun t w => by kernel_rfl
  typ := fun a w => by kernel_rfl
  kindP := fun w => by kernel_rfl
  kindT := fun w => by kernel_rfl
  isNil := fun a p W ha => by
    rw [as_rlm]
    simp only [Sem.run_bind, as_parts_long, Result.andThen]
    simp [ReflectliteValue.isNil, loadVar, isAgg, underlying, Tryz.underlying96, ha, Result.andThen]
  elem := fun w => by kernel_rfl
  implements := fun w => by kernel_rfl
theorem asE_long : AsE 85 where
  typeOf := fun v w => by kernel_rfl
  noAs := fun v xT w => run_typeAssert_lacksB Tryz.underlying149 (by kernel_rfl) (by kernel_rfl) v xT w
  noUn := fun v xT w => run_typeAssert_lacksB Tryz.underlying152 (by kernel_rfl) (by kernel_rfl) v xT w
  noUns := fun v xT w => run_typeAssert_lacksB Tryz.underlying154 (by kernel_rfl) (by kernel_rfl) v xT w
theorem asN_long : AsN 85 85 true := fun w => by kernel_rfl
theorem as_size_long (w : World) : (sizeOf 85).run Tryz.prog w = .ok 0 w := by kernel_rfl
theorem asH_long : AsH 96 85 #[] (fun W _ => W) where
  valueOf := fun w => by kernel_rfl
  elemV := fun a p W ha => by
    rw [as_rlm]
    simp only [Sem.run_bind, as_parts_long, Result.andThen]
    simp [ReflectliteValue.elem, loadVar, isAgg, underlying, Tryz.underlying96, ha, Result.andThen, as_elemOf_long, as_mk_long]
  set := fun ta W _ _ _ => by
    rw [as_rls]
    simp only [Sem.run_bind, as_partsD_long, as_partsS_long, Result.andThen]
    simp [ReflectliteValue.flagAddr, loadVar, isAgg, underlying, Tryz.underlying85, Result.andThen, as_direct_long, as_size_long, storeVar, Value.cells, storeCells, loadCells, loadCellsFrom]
theorem as_parts_bar (a : Addr) (w : World) : (ReflectliteValue.parts (.agg #[.pointer (some ⟨10, 97, none⟩), .pointer (some a), .int .u64 150])).run Tryz.prog w = .ok (some (97, a, 150)) w := by kernel_rfl
theorem as_elemOf_bar (w : World) : (Rtype.elem? 97).run Tryz.prog w = .ok (some 86) w := by kernel_rfl
theorem as_mk_bar (p : Addr) (w : World) : (ReflectliteValue.mk 86 p ReflectliteValue.flagAddr).run Tryz.prog w = .ok (.agg #[.pointer (some ⟨10, 86, none⟩), .pointer (some p), .int .u64 409]) w := by kernel_rfl
theorem as_partsD_bar (a : Addr) (w : World) : (ReflectliteValue.parts (.agg #[.pointer (some ⟨10, 86, none⟩), .pointer (some a), .int .u64 409])).run Tryz.prog w = .ok (some (86, a, 409)) w := by kernel_rfl
theorem as_partsS_bar (a : Addr) (w : World) : (ReflectliteValue.parts (.agg #[.pointer (some ⟨10, 86, none⟩), .pointer (some a), .int .u64 153])).run Tryz.prog w = .ok (some (86, a, 153)) w := by kernel_rfl
theorem as_direct_bar (w : World) : (Rtype.directlyAssignable 86 86).run Tryz.prog w = .ok true w := by kernel_rfl
theorem asT_bar : AsT 97 86 where
  valueOf := fun t w => by kernel_rfl
  typ := fun a w => by kernel_rfl
  kindP := fun w => by kernel_rfl
  kindT := fun w => by kernel_rfl
  isNil := fun a p W ha => by
    rw [as_rlm]
    simp only [Sem.run_bind, as_parts_bar, Result.andThen]
    simp [ReflectliteValue.isNil, loadVar, isAgg, underlying, Tryz.underlying97, ha, Result.andThen]
  elem := fun w => by kernel_rfl
  implements := fun w => by kernel_rfl
theorem asE_bar : AsE 86 where
  typeOf := fun v w => by kernel_rfl
  noAs := fun v xT w => run_typeAssert_lacksB Tryz.underlying149 (by kernel_rfl) (by kernel_rfl) v xT w
  noUn := fun v xT w => run_typeAssert_lacksB Tryz.underlying152 (by kernel_rfl) (by kernel_rfl) v xT w
  noUns := fun v xT w => run_typeAssert_lacksB Tryz.underlying154 (by kernel_rfl) (by kernel_rfl) v xT w
theorem asN_bar : AsN 86 86 true := fun w => by kernel_rfl
theorem as_size_bar (w : World) : (sizeOf 86).run Tryz.prog w = .ok 0 w := by kernel_rfl
theorem asH_bar : AsH 97 86 #[] (fun W _ => W) where
  valueOf := fun w => by kernel_rfl
  elemV := fun a p W ha => by
    rw [as_rlm]
    simp only [Sem.run_bind, as_parts_bar, Result.andThen]
    simp [ReflectliteValue.elem, loadVar, isAgg, underlying, Tryz.underlying97, ha, Result.andThen, as_elemOf_bar, as_mk_bar]
  set := fun ta W _ _ _ => by
    rw [as_rls]
    simp only [Sem.run_bind, as_partsD_bar, as_partsS_bar, Result.andThen]
    simp [ReflectliteValue.flagAddr, loadVar, isAgg, underlying, Tryz.underlying86, Result.andThen, as_direct_bar, as_size_bar, storeVar, Value.cells, storeCells, loadCells, loadCellsFrom]
theorem as_parts_count (a : Addr) (w : World) : (ReflectliteValue.parts (.agg #[.pointer (some ⟨10, 98, none⟩), .pointer (some a), .int .u64 150])).run Tryz.prog w = .ok (some (98, a, 150)) w := by kernel_rfl
theorem as_elemOf_count (w : World) : (Rtype.elem? 98).run Tryz.prog w = .ok (some 91) w := by kernel_rfl
theorem as_mk_count (p : Addr) (w : World) : (ReflectliteValue.mk 91 p ReflectliteValue.flagAddr).run Tryz.prog w = .ok (.agg #[.pointer (some ⟨10, 91, none⟩), .pointer (some p), .int .u64 409]) w := by kernel_rfl
theorem as_partsD_count (a : Addr) (w : World) : (ReflectliteValue.parts (.agg #[.pointer (some ⟨10, 91, none⟩), .pointer (some a), .int .u64 409])).run Tryz.prog w = .ok (some (91, a, 409)) w := by kernel_rfl
theorem as_partsS_count (a : Addr) (w : World) : (ReflectliteValue.parts (.agg #[.pointer (some ⟨10, 91, none⟩), .pointer (some a), .int .u64 153])).run Tryz.prog w = .ok (some (91, a, 153)) w := by kernel_rfl
theorem as_direct_count (w : World) : (Rtype.directlyAssignable 91 91).run Tryz.prog w = .ok true w := by kernel_rfl
theorem asT_count : AsT 98 91 where
  valueOf := fun t w => by kernel_rfl
  typ := fun a w => by kernel_rfl
  kindP := fun w => by kernel_rfl
  kindT := fun w => by kernel_rfl
  isNil := fun a p W ha => by
    rw [as_rlm]
    simp only [Sem.run_bind, as_parts_count, Result.andThen]
    simp [ReflectliteValue.isNil, loadVar, isAgg, underlying, Tryz.underlying98, ha, Result.andThen]
  elem := fun w => by kernel_rfl
  implements := fun w => by kernel_rfl
theorem asE_count : AsE 91 where
  typeOf := fun v w => by kernel_rfl
  noAs := fun v xT w => run_typeAssert_lacksB Tryz.underlying149 (by kernel_rfl) (by kernel_rfl) v xT w
  noUn := fun v xT w => run_typeAssert_lacksB Tryz.underlying152 (by kernel_rfl) (by kernel_rfl) v xT w
  noUns := fun v xT w => run_typeAssert_lacksB Tryz.underlying154 (by kernel_rfl) (by kernel_rfl) v xT w
theorem asN_count : AsN 91 91 true := fun w => by kernel_rfl
theorem as_size_count (w : World) : (sizeOf 91).run Tryz.prog w = .ok 0 w := by kernel_rfl
theorem asH_count : AsH 98 91 #[] (fun W _ => W) where
  valueOf := fun w => by kernel_rfl
  elemV := fun a p W ha => by
    rw [as_rlm]
    simp only [Sem.run_bind, as_parts_count, Result.andThen]
    simp [ReflectliteValue.elem, loadVar, isAgg, underlying, Tryz.underlying98, ha, Result.andThen, as_elemOf_count, as_mk_count]
  set := fun ta W _ _ _ => by
    rw [as_rls]
    simp only [Sem.run_bind, as_partsD_count, as_partsS_count, Result.andThen]
    simp [ReflectliteValue.flagAddr, loadVar, isAgg, underlying, Tryz.underlying91, Result.andThen, as_direct_count, as_size_count, storeVar, Value.cells, storeCells, loadCells, loadCellsFrom]
theorem as_parts_cell (a : Addr) (w : World) : (ReflectliteValue.parts (.agg #[.pointer (some ⟨10, 99, none⟩), .pointer (some a), .int .u64 150])).run Tryz.prog w = .ok (some (99, a, 150)) w := by kernel_rfl
theorem as_elemOf_cell (w : World) : (Rtype.elem? 99).run Tryz.prog w = .ok (some 93) w := by kernel_rfl
theorem as_mk_cell (p : Addr) (w : World) : (ReflectliteValue.mk 93 p ReflectliteValue.flagAddr).run Tryz.prog w = .ok (.agg #[.pointer (some ⟨10, 93, none⟩), .pointer (some p), .int .u64 409]) w := by kernel_rfl
theorem as_partsD_cell (a : Addr) (w : World) : (ReflectliteValue.parts (.agg #[.pointer (some ⟨10, 93, none⟩), .pointer (some a), .int .u64 409])).run Tryz.prog w = .ok (some (93, a, 409)) w := by kernel_rfl
theorem as_partsS_cell (a : Addr) (w : World) : (ReflectliteValue.parts (.agg #[.pointer (some ⟨10, 93, none⟩), .pointer (some a), .int .u64 153])).run Tryz.prog w = .ok (some (93, a, 153)) w := by kernel_rfl
theorem as_direct_cell (w : World) : (Rtype.directlyAssignable 93 93).run Tryz.prog w = .ok true w := by kernel_rfl
theorem asT_cell : AsT 99 93 where
  valueOf := fun t w => by kernel_rfl
  typ := fun a w => by kernel_rfl
  kindP := fun w => by kernel_rfl
  kindT := fun w => by kernel_rfl
  isNil := fun a p W ha => by
    rw [as_rlm]
    simp only [Sem.run_bind, as_parts_cell, Result.andThen]
    simp [ReflectliteValue.isNil, loadVar, isAgg, underlying, Tryz.underlying99, ha, Result.andThen]
  elem := fun w => by kernel_rfl
  implements := fun w => by kernel_rfl
theorem asE_cell : AsE 93 where
  typeOf := fun v w => by kernel_rfl
  noAs := fun v xT w => run_typeAssert_lacksB Tryz.underlying149 (by kernel_rfl) (by kernel_rfl) v xT w
  noUn := fun v xT w => run_typeAssert_lacksB Tryz.underlying152 (by kernel_rfl) (by kernel_rfl) v xT w
  noUns := fun v xT w => run_typeAssert_lacksB Tryz.underlying154 (by kernel_rfl) (by kernel_rfl) v xT w
theorem asN_cell : AsN 93 93 true := fun w => by kernel_rfl
theorem as_size_cell (w : World) : (sizeOf 93).run Tryz.prog w = .ok 1 w := by kernel_rfl
theorem asH_cell (n : Int) : AsH 99 93 #[.int .i64 n] (fun W t => W.setCell t (.int .i64 n)) where
  valueOf := fun w => by kernel_rfl
  elemV := fun a p W ha => by
    rw [as_rlm]
    simp only [Sem.run_bind, as_parts_cell, Result.andThen]
    simp [ReflectliteValue.elem, loadVar, isAgg, underlying, Tryz.underlying99, ha, Result.andThen, as_elemOf_cell, as_mk_cell]
  set := fun ta W hb ho hf => by
    obtain ⟨old, ht⟩ := ho _ rfl
    have hlast : (W.alloc (.cells #[.int .i64 n] 93)).cell? ⟨W.heap.size, 0, none⟩ = some (.int .i64 n) := by simp
    have ht' : (W.alloc (.cells #[.int .i64 n] 93)).cell? ta = some old := by rw [World.cell?_alloc_lt _ _ ta hb]; exact ht
    have hf' : (W.alloc (.cells #[.int .i64 n] 93)).frozen? ta = false := by rw [World.frozen?_alloc_old _ _ ta (Nat.ne_of_lt hb)]; exact hf
    rw [as_rls]
    simp only [Sem.run_bind, as_partsD_cell, as_partsS_cell, Result.andThen]
    simp [ReflectliteValue.flagAddr, loadVar, isAgg, underlying, Tryz.underlying93, Result.andThen, as_direct_cell, as_size_cell, storeVar, Value.cells, storeCells, loadCells, loadCellsFrom, hlast, Addr.add]
    rw [run_store Tryz.prog _ ta _ _ (by rfl)]
    simp [ht', hf']
theorem as_parts_class (a : Addr) (w : World) : (ReflectliteValue.parts (.agg #[.pointer (some ⟨10, 100, none⟩), .pointer (some a), .int .u64 150])).run Tryz.prog w = .ok (some (100, a, 150)) w := by kernel_rfl
theorem as_elemOf_class (w : World) : (Rtype.elem? 100).run Tryz.prog w = .ok (some 90) w := by kernel_rfl
theorem as_mk_class (p : Addr) (w : World) : (ReflectliteValue.mk 90 p ReflectliteValue.flagAddr).run Tryz.prog w = .ok (.agg #[.pointer (some ⟨10, 90, none⟩), .pointer (some p), .int .u64 409]) w := by kernel_rfl
theorem as_partsD_class (a : Addr) (w : World) : (ReflectliteValue.parts (.agg #[.pointer (some ⟨10, 90, none⟩), .pointer (some a), .int .u64 409])).run Tryz.prog w = .ok (some (90, a, 409)) w := by kernel_rfl
theorem as_partsS_class (a : Addr) (w : World) : (ReflectliteValue.parts (.agg #[.pointer (some ⟨10, 90, none⟩), .pointer (some a), .int .u64 153])).run Tryz.prog w = .ok (some (90, a, 153)) w := by kernel_rfl
theorem as_direct_class (w : World) : (Rtype.directlyAssignable 90 90).run Tryz.prog w = .ok true w := by kernel_rfl
theorem asT_class : AsT 100 90 where
  valueOf := fun t w => by kernel_rfl
  typ := fun a w => by kernel_rfl
  kindP := fun w => by kernel_rfl
  kindT := fun w => by kernel_rfl
  isNil := fun a p W ha => by
    rw [as_rlm]
    simp only [Sem.run_bind, as_parts_class, Result.andThen]
    simp [ReflectliteValue.isNil, loadVar, isAgg, underlying, Tryz.underlying100, ha, Result.andThen]
  elem := fun w => by kernel_rfl
  implements := fun w => by kernel_rfl
theorem asE_class : AsE 90 where
  typeOf := fun v w => by kernel_rfl
  noAs := fun v xT w => run_typeAssert_lacksB Tryz.underlying149 (by kernel_rfl) (by kernel_rfl) v xT w
  noUn := fun v xT w => run_typeAssert_lacksB Tryz.underlying152 (by kernel_rfl) (by kernel_rfl) v xT w
  noUns := fun v xT w => run_typeAssert_lacksB Tryz.underlying154 (by kernel_rfl) (by kernel_rfl) v xT w
theorem asN_class : AsN 90 90 true := fun w => by kernel_rfl
theorem as_size_class (w : World) : (sizeOf 90).run Tryz.prog w = .ok 0 w := by kernel_rfl
theorem asH_class : AsH 100 90 #[] (fun W _ => W) where
  valueOf := fun w => by kernel_rfl
  elemV := fun a p W ha => by
    rw [as_rlm]
    simp only [Sem.run_bind, as_parts_class, Result.andThen]
    simp [ReflectliteValue.elem, loadVar, isAgg, underlying, Tryz.underlying100, ha, Result.andThen, as_elemOf_class, as_mk_class]
  set := fun ta W _ _ _ => by
    rw [as_rls]
    simp only [Sem.run_bind, as_partsD_class, as_partsS_class, Result.andThen]
    simp [ReflectliteValue.flagAddr, loadVar, isAgg, underlying, Tryz.underlying90, Result.andThen, as_direct_class, as_size_class, storeVar, Value.cells, storeCells, loadCells, loadCellsFrom]
theorem asN_long_schema : AsN 85 84 false := fun w => by kernel_rfl
theorem asN_bar_schema : AsN 86 84 false := fun w => by kernel_rfl
theorem asN_bar_long : AsN 86 85 false := fun w => by kernel_rfl
theorem asN_count_schema : AsN 91 84 false := fun w => by kernel_rfl
theorem asN_count_long : AsN 91 85 false := fun w => by kernel_rfl
theorem asN_count_bar : AsN 91 86 false := fun w => by kernel_rfl
theorem asN_cell_schema : AsN 93 84 false := fun w => by kernel_rfl
theorem asN_cell_long : AsN 93 85 false := fun w => by kernel_rfl
theorem asN_cell_bar : AsN 93 86 false := fun w => by kernel_rfl
theorem asN_cell_count : AsN 93 91 false := fun w => by kernel_rfl
theorem asN_class_schema : AsN 90 84 false := fun w => by kernel_rfl
theorem asN_class_long : AsN 90 85 false := fun w => by kernel_rfl
theorem asN_class_bar : AsN 90 86 false := fun w => by kernel_rfl
theorem asN_class_count : AsN 90 91 false := fun w => by kernel_rfl
theorem asN_class_cell : AsN 90 93 false := fun w => by kernel_rfl
end Go.Proofs.YtfekcckckmhioaaGreatDoor
