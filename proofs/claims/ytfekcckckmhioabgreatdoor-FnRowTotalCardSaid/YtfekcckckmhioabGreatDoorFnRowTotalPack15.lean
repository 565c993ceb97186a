/- Texts of this claim, put together: part 15. -/
import Derived.Test.YtfekcckckmhioabGreatDoorRows
import Derived.WalkKit
import Derived.ProofKit
import Derived.OpenShut
import Derived.Deep.RegionHeld3
import Derived.Test.YtfekcckckmhioabGreatDoorFnRowTotalPack3
import Derived.Test.YtfekcckckmhioabGreatDoorFnRowTotalPack14
/- In a region that draws its order: what may be taken first, what comes next. -/
namespace Go.Proofs.YtfekcckckmhioabGreatDoor
open Go.RowKit
set_option maxRecDepth 100000

section
variable {Pr : Program} {ops : Array Oper} {Q : Exit → Act → World → Prop} {md : Region.Mode} {S : World → Prop}
/-- An operation that may come up now is taken first; it is read off the list, so that it stands written out. -/
theorem takeL (i : Nat) {oi : Oper} (v : Value) {fuel : Nat} {listed : Array Bool} {a : Act} {w : World} (hi : ops.toList[i]? = some oi)
    (hs : Region.noSelect ops = true) (hf : Region.free md ops listed i = true) (hr : (Region.ready md ops listed).contains i = true)
    (hQ : ∀ c a w, Q (.panic c) (a.put oi.dst v) w → Q (.panic c) a w) (hy : YieldsIf Pr ops S oi v a) (hS : S w)
    (h : wpAnyH Pr md ops Q S fuel (listed.setIfInBounds i true) (a.put oi.dst v) w) : wpAnyH Pr md ops Q S (fuel + 1) listed a w :=
  wpAnyH_take (by simpa using hi) hs hf hr hQ hy hS h
/-- The one operation that may come up now. -/
theorem nextL (i : Nat) {oi : Oper} {fuel : Nat} {listed : Array Bool} {a : Act} {w : World} (hi : ops.toList[i]? = some oi) (hr : Region.ready md ops listed = [i])
    (hw : Region.wanted oi (yielded ops a.tmps) = true)
    (h : ∀ K' : Act → World → Prop, (∀ a w, S w → (S w → wpAnyH Pr md ops Q S fuel (listed.setIfInBounds i true) a w) → K' a w) → Oper.wp Pr oi a w K' Q) : wpAnyH Pr md ops Q S (fuel + 1) listed a w := by
  refine wpAnyH_ready hr (by simp) (AllReadyH.cons (o := oi) (by simpa using hi) (fun K hK => ?_) AllReadyH.nil)
  rw [if_pos hw]
  exact h K hK.out
/-- Two may come up now, in either order. -/
theorem next2L (i j : Nat) {oi oj : Oper} {fuel : Nat} {listed : Array Bool} {a : Act} {w : World} (hi : ops.toList[i]? = some oi) (hj : ops.toList[j]? = some oj) (hr : Region.ready md ops listed = [i, j])
    (hw : Region.wanted oi (yielded ops a.tmps) = true) (hw2 : Region.wanted oj (yielded ops a.tmps) = true)
    (h : ∀ K' : Act → World → Prop, (∀ a w, S w → (S w → wpAnyH Pr md ops Q S fuel (listed.setIfInBounds i true) a w) → K' a w) → Oper.wp Pr oi a w K' Q)
    (h2 : ∀ K' : Act → World → Prop, (∀ a w, S w → (S w → wpAnyH Pr md ops Q S fuel (listed.setIfInBounds j true) a w) → K' a w) → Oper.wp Pr oj a w K' Q) : wpAnyH Pr md ops Q S (fuel + 1) listed a w := by
  refine wpAnyH_ready hr (by simp) (AllReadyH.cons (o := oi) (by simpa using hi) (fun K hK => ?_) (AllReadyH.cons (o := oj) (by simpa using hj) (fun K hK => ?_) AllReadyH.nil))
  · rw [if_pos hw]
    exact h K hK.out
  · rw [if_pos hw2]
    exact h2 K hK.out
end

section
variable {ops : Array Oper} {S : World → Prop} {op : Oper} {a : Act}
/-- The load of one integer. -/
theorem yields_int (hw : Region.wanted op (yielded ops a.tmps) = true) (x : Operand) (ho : op.op = .load 3 x) (p : Addr) (hx : a.eval x = .pointer (some p)) (n : Int)
    (hS : ∀ w, S w → w.cell? p = some (.int .i64 n)) : YieldsIf Tryz.prog ops S op (.int .i64 n) a :=
  .inl ⟨hw, fun w hw' => by
    have h := hS w hw'
    unfold execOp
    simp only [ho, hx]
    go_simp⟩
/-- A quotient. -/
theorem yields_quo (hw : Region.wanted op (yielded ops a.tmps) = true) (x y : Operand) (ho : op.op = .binOp .quo 3 x y 3) (m n : Int) (hx : a.eval x = .int .i64 m) (hy : a.eval y = .int .i64 n)
    (h0 : 0 ≤ m) (h1 : m ≤ 9223372036854775807) (h2 : 0 < n) : YieldsIf Tryz.prog ops S op (.int .i64 (m / n)) a :=
  .inl ⟨hw, fun w hw' => by
    have hle : m / n ≤ m := Int.ediv_le_self _ h0
    have hge : 0 ≤ m / n := Int.ediv_nonneg h0 (by omega)
    unfold execOp
    simp only [ho, hx, hy]
    go_simp
    have e : IntKind.i64.wrap (m.tdiv n) = m / n := by rw [IntKind.wrap_i64, Int.tdiv_eq_ediv_of_nonneg h0]; omega
    rw [if_neg (by omega), e]⟩
/-- Two texts, one behind the other. -/
theorem yields_cat (hw : Region.wanted op (yielded ops a.tmps) = true) (x y : Operand) (ho : op.op = .binOp .add 9 x y 9) (s t : ByteArray) (hx : a.eval x = .string s) (hy : a.eval y = .string t)
    (h : s.size + t.size ≤ 1000000) : YieldsIf Tryz.prog ops S op (.string (s ++ t)) a :=
  .inl ⟨hw, fun w hw' => by
    unfold execOp
    simp only [ho, hx, hy]
    go_simp
    omega⟩
end
end Go.Proofs.YtfekcckckmhioabGreatDoor
/- In a region that draws its order: the load of a whole struct. -/
namespace Go.Proofs.YtfekcckckmhioabGreatDoor
open Go.RowKit
set_option maxRecDepth 100000

theorem yields_row {ops : Array Oper} {S : World → Prop} {op : Oper} {a : Act} {T : TypeId} {d : Array Field} {cs : Array Value} (hu : Tryz.prog.underlying T = some (.struct d))
    (hi : (Tryz.prog.info? T).map (·.size) = some cs.size) (hw : Region.wanted op (yielded ops a.tmps) = true) (x : Operand) (ho : op.op = .load T x)
    (g : Nat) (hx : a.eval x = .pointer (some ⟨g, 0, none⟩)) (hS : ∀ w, S w → Blk T w g cs) : YieldsIf Tryz.prog ops S op (.agg cs) a :=
  .inl ⟨hw, fun w hw' => by
    unfold execOp
    simp only [ho, hx, Instr.loadAt, Instr.sureAddr, Sem.run_bind, Sem.run_pure, Result.andThen_ok, run_loadVar_row w g _ T _ _ _ (hS w hw') hu rfl hi]⟩
end Go.Proofs.YtfekcckckmhioabGreatDoor
/- What the law on rows draws. -/
namespace Go.Proofs.YtfekcckckmhioabGreatDoor
open Go.RowKit
set_option maxRecDepth 100000
set_option linter.unusedSimpArgs false
theorem yields_mv {ops : Array Oper} {S : World → Prop} {op : Oper} {a : Act} (hw : Region.wanted op (yielded ops a.tmps) = true) (x : Operand) (ho : op.op = .move x) (v : Value) (hx : a.eval x = v) : YieldsIf Tryz.prog ops S op v a :=
  .inl ⟨hw, fun w _ => by unfold execOp; simp only [ho, hx]; go_simp⟩
theorem res_sc1 {fn : Func} {p q : Tmp} (h : fn.results = #[.cell p 27, .tmp q]) (tmps : Array Value) (w : World) (g : Nat) (c0 c1 v : Value)
    (hp : tmps.getD p undef = .pointer (some ⟨g, 0, none⟩)) (hq : tmps.getD q undef = v) (hg : Blk 27 w g #[c0, c1]) : (results fn tmps).run Tryz.prog w = .ok (.tuple #[.agg #[c0, c1], v]) w := by
  have hp' : tmps[p]?.getD undef = .pointer (some ⟨g, 0, none⟩) := by simpa using hp
  have hq' : tmps[q]?.getD undef = v := by simpa using hq
  simp [results, h, hp', hq', asAddr, run_loadVar_row w g _ 27 _ _ _ hg Tryz.underlying27 rfl sch_size]
set_option maxHeartbeats 3200000 in
theorem drawRowOf_any (a : Option Addr) (len cap : Nat) (zs : List Int) (w : World) (hr : IsRow .u8 w a len cap zs) (hn : len ≤ 1048576) :
    Calls Tryz.prog 5 #[.slice a len cap] w fun e w' => ∃ vs d vr row, e = .returned (.tuple #[vs, vr]) ∧ OwnS w.heap.size w' vs d ∧ tinyS d ∧ BytesAt w' vr row ∧ row.size ≤ 100 ∧ Below w.heap.size w w' := by
  have B1 : Below w.heap.size w (w.alloc (.cells #[.slice none 0 0, .slice none 0 0] 27)) := (Below.refl _ _).alloc (Nat.le_refl _) _
  have R1 := Blk.new 27 w #[.slice none 0 0, .slice none 0 0]
  have hs1 : w.heap.size < (w.alloc (.cells #[.slice none 0 0, .slice none 0 0] 27)).heap.size := by simp
  have e1 := l1New_any a len cap zs (w.alloc (.cells #[.slice none 0 0, .slice none 0 0] 27)) (hr.later B1) hn
  have HR1 := hr.later B1
  rw [show (w.alloc (.cells #[.slice none 0 0, .slice none 0 0] 27)).heap.size = w.heap.size + 1 by simp] at e1
  clear hr
  go_enter Tryz.func5, Tryz.ntmps5
  go_wp2_with fail
  refine e1.mono ?_
  clear e1
  rintro e w2 ⟨rfl, c2, hb2, -⟩
  have hr2 := HR1.later (hb2.mono (by simp))
  have R2 := R1.below (hb2.mono (by simp))
  have B2 : Below w.heap.size w w2 := B1.trans (hb2.mono (by omega))
  have hg2 := c2.lt
  clear HR1 R1 B1 hb2 hs1
  go_wp2_with fail
  refine (draw5_any (w.heap.size + 1) a len cap zs w2 c2 hr2).mono ?_
  rintro e w3 ⟨v, d, rfl, os, htn, c3, h3⟩
  have hs2 := B2.size
  have R3 := R2.kept h3 (by intro e; injection e; omega)
  have B3 : Below w.heap.size w w3 := B2.grown h3 B2.size (fun k hk => by injection hk; omega)
  have hr3 := hr2.aside c2 h3
  have HTN : Hid (tinyS d) := htn
  clear h3 c2 R2 B2 hr2 htn
  obtain ⟨y1, y2, rfl, rr1, rr2⟩ := id os.at
  obtain ⟨oa, ka, rfl, -, -⟩ := id rr1
  obtain ⟨oc, kc, rfl, -, -⟩ := id rr2
  clear rr1 rr2
  obtain ⟨P3, BP⟩ := blk_1 27 w3 #[.slice oa d.attrs.length ka, .slice oc d.classes.length kc]
  have R4 := R3.below BP
  have os4 := os.below7 BP
  have c4 := c3.kept (grown_of_below BP none) (by intro e; cases e)
  have hr4 := hr3.later BP
  have B4 := B3.trans (BP.mono B3.size)
  have hp : w.heap.size + 1 < w3.heap.size := by have := c3.lt; omega
  clear R3 os c3 hr3 B3 BP
  go_wp2_with fail
  refine wp_region_held_drew (S := fun w' => Blk 27 w' w3.heap.size #[.slice oa d.attrs.length ka, .slice oc d.classes.length kc] ∧ ∃ c0 c1, Blk 27 w' w.heap.size #[c0, c1]) (by kernel_rfl) ⟨P3, _, _, R4⟩ ?_
  intro hS
  have R5 : Blk 27 (w3.alloc (.cells #[.slice oa d.attrs.length ka, .slice oc d.classes.length kc] 27)).drew w.heap.size #[.slice none 0 0, .slice none 0 0] := R4
  have P5 : Blk 27 (w3.alloc (.cells #[.slice oa d.attrs.length ka, .slice oc d.classes.length kc] 27)).drew w3.heap.size #[.slice oa d.attrs.length ka, .slice oc d.classes.length kc] := P3
  have bd : Below (w3.alloc (.cells #[.slice oa d.attrs.length ka, .slice oc d.classes.length kc] 27)).heap.size (w3.alloc (.cells #[.slice oa d.attrs.length ka, .slice oc d.classes.length kc] 27)) (w3.alloc (.cells #[.slice oa d.attrs.length ka, .slice oc d.classes.length kc] 27)).drew := below_drewN (Below.refl _ _) 1
  have os5 := os4.below7 bd
  have c5 := c4.kept (grown_of_below bd none) (by intro e; cases e)
  have hr5 := hr4.later bd
  have B5 := B4.trans (bd.mono B4.size)
  clear R4 P3 os4 c4 hr4 B4 bd
  generalize (w3.alloc (.cells #[.slice oa d.attrs.length ka, .slice oc d.classes.length kc] 27)).drew = W at hS R5 P5 os5 c5 hr5 B5
  refine takeL 0 (.agg #[.slice oa d.attrs.length ka, .slice oc d.classes.length kc]) rfl (by kernel_rfl) (by kernel_rfl) (by kernel_rfl) (fun _ _ _ h => h) (yields_row Tryz.underlying27 (by kernel_rfl) (by rfl) _ rfl _ rfl (fun _ h => h.1)) hS ?_
  simp only [Act.put, List.setIfInBounds_toArray, List.set_cons_zero, List.set_cons_succ]
  refine takeL 1 (.pointer (some ⟨w.heap.size + 1, 0, none⟩)) rfl (by kernel_rfl) (by kernel_rfl) (by kernel_rfl) (fun _ _ _ h => h) (yields_mv (by rfl) _ rfl _ rfl) hS ?_
  simp only [Act.put, List.setIfInBounds_toArray, List.set_cons_zero, List.set_cons_succ]
  refine takeL 2 (.agg #[.slice oa d.attrs.length ka, .slice oc d.classes.length kc]) rfl (by kernel_rfl) (by kernel_rfl) (by kernel_rfl) (fun _ _ _ h => h) (yields_row Tryz.underlying27 (by kernel_rfl) (by rfl) _ rfl _ rfl (fun _ h => h.1)) hS ?_
  simp only [Act.put, List.setIfInBounds_toArray, List.set_cons_zero, List.set_cons_succ]
  refine nextL 3 rfl (by kernel_rfl) (by rfl) fun K hK => ?_
  have dd := drawRow7_any (w.heap.size + 1) a len cap zs _ d w2.heap.size W c5 hr5 os5 hg2 HTN.out
  go_simp
  refine dd.mono ?_
  rintro e w5 ⟨v5, row, gb, rfl, hby, hgb, hrz, c6, h6⟩
  have R6 := R5.kept h6 (by intro e; injection e; omega)
  have P6 := P5.kept h6 (by intro e; injection e; omega)
  have os6 := os5.curW7 hg2 h6
  have B6 : Below w.heap.size w w5 := B5.grown h6 B5.size (fun k hk => by injection hk; omega)
  have hWl := R5.lt
  refine hK _ _ ⟨P6, _, _, R6⟩ ?_
  clear hK K dd hS R5 P5 os5 B5 h6 c5 c6 hr5
  intro hS
  obtain ⟨⟨cb, rfl⟩, hby1⟩ := id hby
  refine nextL 4 rfl (by kernel_rfl) (by rfl) fun K hK => ?_
  refine wp_store_row 27 _ _ rfl w.heap.size #[.slice oa d.attrs.length ka, .slice oc d.classes.length kc] rfl rfl _ _ R6 sch_size rfl (by simp [Value.oneCell']) ?_
  refine hK _ _ ⟨P6.setRow_other _ (by omega), _, _, R6.setRow _⟩ ?_
  clear hK K hS
  intro hS
  refine takeL 5 (.slice (some ⟨gb, 0, none⟩) row.size cb) rfl (by kernel_rfl) (by kernel_rfl) (by kernel_rfl) (fun _ _ _ h => h) (.inl ⟨by rfl, fun w _ => by rfl⟩) hS ?_
  simp only [Act.put, List.setIfInBounds_toArray, List.set_cons_zero, List.set_cons_succ]
  clear hS
  refine wpAnyH_done (by kernel_rfl) ?_ _
  go_wp2
  exact bodyPost_ret (res_sc1 rfl _ _ _ _ _ _ rfl rfl (R6.setRow _)) rfl ⟨_, d, _, row, rfl, (os6.rowW (by omega)).base7 (by omega), HTN.out, (hby.row (by omega) _).at, hrz, below_row B6 (Nat.le_refl _) _⟩
end Go.Proofs.YtfekcckckmhioabGreatDoor
/- Whether a code is too great. -/
namespace Go.Proofs.YtfekcckckmhioabGreatDoor
open Go.RowKit
set_option maxRecDepth 100000

theorem big_any (a : Option Addr) (len cap : Nat) (w : World) (hn : len ≤ 9223372036854775807) : Calls Tryz.prog 4 #[.slice a len cap] w fun e w' => e = .returned (.bool (decide (1048576 < len))) ∧ w' = w := by
  by_cases h : 1048576 < len
  all_goals
    go_enter Tryz.func4, Tryz.ntmps4
    go_wp2
    go_ret
    exact ⟨by simp; omega, rfl⟩
end Go.Proofs.YtfekcckckmhioabGreatDoor
