/- Texts of this claim, put together: part 7. -/
import Derived.Test.YteadkdllmeeocaaRows
import Derived.WalkKit
import Derived.ProofKit
import Derived.OpenShut
import Derived.Deep.WholeRow
import Derived.Test.YteadkdllmeeocaaFnGiniPack6
import Derived.Test.YteadkdllmeeocaaFnGiniPack5
import Derived.Deep.QuietTactic
import Derived.BigQuiet
import Derived.WalkSmall
import Derived.Deep.RegionHeld3
/- Fractions as values: which are right, and how the laws read them. -/
namespace Go.Proofs.Yteadkdllmeeocaa
open Go.RowKit
set_option maxRecDepth 100000

/-- Which fractions are right. -/
def frB (a b : Int) : Bool := decide (0 ≤ a ∧ a ≤ 4000000000000000 ∧ 1 ≤ b ∧ b ≤ 4000000000000000)
theorem frB_yes {a b : Int} (h : frB a b = true) : 0 ≤ a ∧ a ≤ 4000000000000000 ∧ 1 ≤ b ∧ b ≤ 4000000000000000 := of_decide_eq_true h
theorem frB_no {a b : Int} (h : frB a b = false) : ¬ (0 ≤ a ∧ a ≤ 4000000000000000 ∧ 1 ≤ b ∧ b ≤ 4000000000000000) := of_decide_eq_false h
theorem frB_mk {a b : Int} (h : 0 ≤ a ∧ a ≤ 4000000000000000 ∧ 1 ≤ b ∧ b ≤ 4000000000000000) : frB a b = true := decide_eq_true h
/-- A fraction as a value. -/
abbrev frV (a b : Int) : Value := .agg #[.int .i64 a, .int .i64 b]
theorem below_1 (w : World) (o : Obj) : Below w.heap.size w (w.alloc o) := (Below.refl _ _).alloc (Nat.le_refl _) _
theorem below_2 (w : World) (o o2 : Obj) : Below w.heap.size w ((w.alloc o).alloc o2) := (below_1 w o).alloc (by simp) _
theorem below_3 (w : World) (o o2 o3 : Obj) : Below w.heap.size w (((w.alloc o).alloc o2).alloc o3) := (below_2 w o o2).alloc (by simp; omega) _

/-- Block g holds a fraction, of the laws' type or of the program's. -/
abbrev FrT (t : TypeId) (w : World) (g : Nat) (a b : Int) : Prop := Blk t w g #[.int .i64 a, .int .i64 b]
abbrev Fr (w : World) (g : Nat) (a b : Int) : Prop := FrT 27 w g a b
theorem FrT.c0 {t : TypeId} {w : World} {g : Nat} {a b : Int} (h : FrT t w g a b) : w.cell? ⟨g, 0, none⟩ = some (.int .i64 a) := h.cell 0
theorem FrT.c1 {t : TypeId} {w : World} {g : Nat} {a b : Int} (h : FrT t w g a b) : w.cell? ⟨g, 1, none⟩ = some (.int .i64 b) := h.cell 1
theorem frac_size : (Try.prog.info? 27).map (·.size) = some 2 := by kernel_rfl
/-- A fraction is stored, handed back. -/
theorem wp_fr_store {ops : Array Oper} {rest : List Oper} {o : Oper} {a : Act} {w : World} {Q : Exit → Act → World → Prop} (hgd : o.guard = none) (x y : Operand) (ho : o.op = .store 27 x y)
    (h : ∃ g, a.eval x = .pointer (some ⟨g, 0, none⟩) ∧ ∃ m n, a.eval y = frV m n ∧ ∃ m' n', Fr w g m' n' ∧ wpList Try.prog ops Q rest (a.put o.dst undef) (w.setRow g #[.int .i64 m, .int .i64 n])) : wpList Try.prog ops Q (o :: rest) a w := by
  obtain ⟨g, hx, m, n, hy, m', n', hA, hk⟩ := h
  exact wpList_store_row hgd 27 x y ho g _ hx hy _ _ hA frac_size rfl (by simp [Value.oneCell']) hk
theorem res_fr {fn : Func} {p : Tmp} (h : fn.results = #[.cell p 27]) (tmps : Array Value) (w : World) (g : Nat) (m n : Int)
    (hp : tmps.getD p undef = .pointer (some ⟨g, 0, none⟩)) (hg : Fr w g m n) : (results fn tmps).run Try.prog w = .ok (frV m n) w :=
  results_cell_row h tmps w g _ _ _ _ hp hg Try.underlying27 rfl frac_size
theorem ret_bool {x y : Bool} (h : x = y) : Ending.returned (.bool x) = .returned (.bool y) := by rw [h]

theorem fracOkI (a b : Int) (w : World) : Calls Try.prog 44 #[frV a b] w fun e w' => e = .returned (.bool (frB a b)) ∧ Below w.heap.size w w' := by
  have B := below_1 w (.cells #[.int .i64 a, .int .i64 b] 27)
  unfold frB
  by_cases h0 : 0 ≤ a
  · by_cases h1 : a ≤ 4000000000000000
    · by_cases h2 : 1 ≤ b
      all_goals
        go_enter Try.func44, Try.ntmps44
        go_wp2
        go_ret
        exact ⟨ret_bool (by rw [Bool.eq_iff_iff]; simp <;> omega), B⟩
    · go_enter Try.func44, Try.ntmps44
      go_wp2
      go_ret
      exact ⟨ret_bool (by rw [Bool.eq_iff_iff]; simp <;> omega), B⟩
  · go_enter Try.func44, Try.ntmps44
    go_wp2
    go_ret
    exact ⟨ret_bool (by rw [Bool.eq_iff_iff]; simp <;> omega), B⟩

theorem fracOkS (a b : Int) (w : World) : Calls Try.prog 68 #[frV a b] w fun e w' => e = .returned (.bool (frB a b)) ∧ Below w.heap.size w w' := by
  have B := below_1 w (.cells #[.int .i64 a, .int .i64 b] 27)
  have c1 := fun W => in_any a 0 4000000000000000 W
  have c2 := fun W => in_any b 1 4000000000000000 W
  unfold frB
  by_cases h0 : 0 ≤ a ∧ a ≤ 4000000000000000
  · rw [decide_eq_true h0] at c1
    by_cases h1 : 1 ≤ b ∧ b ≤ 4000000000000000
    · rw [decide_eq_true h1] at c2
      go_enter Try.func68, Try.ntmps68
      go_wp2_with (first | (go_at_call 31; refine (c1 _).mono ?_; clear c1; rintro e w' ⟨rfl, rfl⟩) | (go_at_call 31; refine (c2 _).mono ?_; clear c2; rintro e w' ⟨rfl, rfl⟩))
      go_ret
      exact ⟨ret_bool (by rw [Bool.eq_iff_iff]; simp <;> omega), B⟩
    · rw [decide_eq_false h1] at c2
      go_enter Try.func68, Try.ntmps68
      go_wp2_with (first | (go_at_call 31; refine (c1 _).mono ?_; clear c1; rintro e w' ⟨rfl, rfl⟩) | (go_at_call 31; refine (c2 _).mono ?_; clear c2; rintro e w' ⟨rfl, rfl⟩))
      go_ret
      exact ⟨ret_bool ((decide_eq_false fun k => h1 k.2.2).symm), B⟩
  · rw [decide_eq_false h0] at c1
    go_enter Try.func68, Try.ntmps68
    go_wp2_with (first | (go_at_call 31; refine (c1 _).mono ?_; clear c1; rintro e w' ⟨rfl, rfl⟩))
    go_ret
    exact ⟨ret_bool ((decide_eq_false fun k => h0 ⟨k.1, k.2.1⟩).symm), B⟩
end Go.Proofs.Yteadkdllmeeocaa
/- The greatest number that divides both, by the program and by the specification. -/
namespace Go.Proofs.Yteadkdllmeeocaa
open Go.RowKit
set_option maxRecDepth 100000

def gcdZ (a b : Int) : Int := if a < 0 ∨ b < 0 then -1 else ((Nat.gcd a.toNat b.toNat : Nat) : Int)
theorem gcd_step (a b : Nat) : Nat.gcd a b = Nat.gcd b (a % b) := by rw [Nat.gcd_comm a b, Nat.gcd_rec b a, Nat.gcd_comm]
theorem ret_gcd {a b : Int} (h : a = b) : Ending.returned (.int .i64 a) = .returned (.int .i64 b) := by rw [h]

set_option maxHeartbeats 800000 in
theorem gcdI_yes (a0 b0 : Nat) (w : World) (ha : a0 ≤ 9223372036854775807) (hb : b0 ≤ 9223372036854775807) :
    Calls Try.prog 21 #[.int .i64 (a0 : Int), .int .i64 (b0 : Int)] w fun e w' => e = .returned (.int .i64 ((Nat.gcd a0 b0 : Nat) : Int)) ∧ Below w.heap.size w w' := by
  go_enter Try.func21, Try.ntmps21
  go_wp2
  go_loopw [0, 1] (fun x y wr => ∃ a b : Nat, x = .int .i64 (a : Int) ∧ y = .int .i64 (b : Int) ∧ a ≤ 9223372036854775807 ∧ b ≤ 9223372036854775807 ∧ Hid (Nat.gcd a b = Nat.gcd a0 b0) ∧ Below w.heap.size w wr) (fun _ y _ => (intOf y).toNat)
  case atStart => exact ⟨a0, b0, rfl, rfl, ha, hb, rfl, Below.refl _ _⟩
  case round =>
    obtain ⟨a, b, rfl, rfl, ha', hb', hg, hbel⟩ := hrel
    by_cases h : 0 < b
    · have hlt := Nat.mod_lt a h
      go_wp2
      go_quiet (fail)
      all_goals go_wp2
      all_goals go_roundw
      case rel =>
        refine ⟨b, a % b, rfl, by go_num, hb', by omega, ?_, below_drewN hbel _⟩
        exact (gcd_step a b).symm.trans hg.out
      case measure => simp [intOf]; omega
    · obtain rfl : b = 0 := by omega
      have HG : Hid (a = Nat.gcd a0 b0) := by
        have := hg.out
        rw [Nat.gcd_zero_right] at this
        exact this
      go_wp2
      go_ret
      exact ⟨ret_gcd (by rw [← HG.out]), hbel⟩

theorem gcdI_any (a b : Int) (w : World) (ha : a ≤ 9223372036854775807) (hb : b ≤ 9223372036854775807) :
    Calls Try.prog 21 #[.int .i64 a, .int .i64 b] w fun e w' => e = .returned (.int .i64 (gcdZ a b)) ∧ Below w.heap.size w w' := by
  unfold gcdZ
  by_cases h0 : a < 0
  · rw [if_pos (.inl h0)]
    go_enter Try.func21, Try.ntmps21
    go_wp2
    go_ret
    exact ⟨rfl, Below.refl _ _⟩
  · by_cases h1 : b < 0
    · rw [if_pos (.inr h1)]
      go_enter Try.func21, Try.ntmps21
      go_wp2
      go_ret
      exact ⟨rfl, Below.refl _ _⟩
    · rw [if_neg (by omega)]
      obtain ⟨m, rfl⟩ := Int.eq_ofNat_of_zero_le (show 0 ≤ a by omega)
      obtain ⟨n, rfl⟩ := Int.eq_ofNat_of_zero_le (show 0 ≤ b by omega)
      exact gcdI_yes m n w (by omega) (by omega)
end Go.Proofs.Yteadkdllmeeocaa
/- The greatest number that divides both, by the specification. -/
namespace Go.Proofs.Yteadkdllmeeocaa
open Go.RowKit
set_option maxRecDepth 100000

set_option maxHeartbeats 800000 in
theorem gcdS_yes (a0 b0 : Nat) (w : World) (ha : a0 ≤ 9223372036854775807) (hb : b0 ≤ 9223372036854775807) :
    Calls Try.prog 69 #[.int .i64 (a0 : Int), .int .i64 (b0 : Int)] w fun e w' => e = .returned (.int .i64 ((Nat.gcd a0 b0 : Nat) : Int)) ∧ Below w.heap.size w w' := by
  go_enter Try.func69, Try.ntmps69
  go_wp2
  go_loopw [0, 1, 5] (fun x y _ wr => ∃ a b : Nat, x = .int .i64 (a : Int) ∧ y = .int .i64 (b : Int) ∧ a ≤ 9223372036854775807 ∧ b ≤ 9223372036854775807 ∧ Hid (Nat.gcd a b = Nat.gcd a0 b0) ∧ Below w.heap.size w wr) (fun _ y _ _ => (intOf y).toNat)
  case atStart => exact ⟨a0, b0, rfl, rfl, ha, hb, rfl, Below.refl _ _⟩
  case round =>
    obtain ⟨a, b, rfl, rfl, ha', hb', hg, hbel⟩ := hrel
    by_cases h : 0 < b
    · have hlt := Nat.mod_lt a h
      go_wp2
      all_goals go_roundw
      case rel =>
        refine ⟨b, a % b, rfl, by go_num, hb', by omega, ?_, hbel⟩
        exact (gcd_step a b).symm.trans hg.out
      case measure => simp [intOf]; omega
    · obtain rfl : b = 0 := by omega
      have HG : Hid (a = Nat.gcd a0 b0) := by
        have := hg.out
        rw [Nat.gcd_zero_right] at this
        exact this
      go_wp2
      go_ret
      exact ⟨ret_gcd (by rw [← HG.out]), hbel⟩

theorem gcdS_any (a b : Int) (w : World) (ha : a ≤ 9223372036854775807) (hb : b ≤ 9223372036854775807) :
    Calls Try.prog 69 #[.int .i64 a, .int .i64 b] w fun e w' => e = .returned (.int .i64 (gcdZ a b)) ∧ Below w.heap.size w w' := by
  unfold gcdZ
  by_cases h0 : a < 0
  · rw [if_pos (.inl h0)]
    go_enter Try.func69, Try.ntmps69
    go_wp2
    go_ret
    exact ⟨rfl, Below.refl _ _⟩
  · by_cases h1 : b < 0
    · rw [if_pos (.inr h1)]
      go_enter Try.func69, Try.ntmps69
      go_wp2
      go_ret
      exact ⟨rfl, Below.refl _ _⟩
    · rw [if_neg (by omega)]
      obtain ⟨m, rfl⟩ := Int.eq_ofNat_of_zero_le (show 0 ≤ a by omega)
      obtain ⟨n, rfl⟩ := Int.eq_ofNat_of_zero_le (show 0 ≤ b by omega)
      exact gcdS_yes m n w (by omega) (by omega)
end Go.Proofs.Yteadkdllmeeocaa
/- In a region that draws its order: what may be taken first, what comes next. -/
namespace Go.Proofs.Yteadkdllmeeocaa
open Go.RowKit
set_option maxRecDepth 100000

section
variable {Pr : Program} {ops : Array Oper} {Q : Exit → Act → World → Prop} {md : Region.Mode} {S : World → Prop}
/-- An operation that may come up now is taken first; it is read off the list, so that it stands written out. -/
theorem takeL (i : Nat) {oi : Oper} (v : Value) {fuel : Nat} {listed : Array Bool} {a : Act} {w : World} (hi : ops.toList[i]? = some oi)
    (hs : Region.noSelect ops = true) (hf : Region.free md ops listed i = true) (hr : (Region.ready md ops listed).contains i = true)
    (hQ : ∀ c a w, Q (.panic c) (a.put oi.dst v) w → Q (.panic c) a w) (hy : YieldsIf Pr ops S oi v a) (hS : S w)
    (h : wpAnyH Pr md ops Q S fuel (listed.setIfInBounds i true) (a.put oi.dst v) w) : wpAnyH Pr md ops Q S (fuel + 1) listed a w :=
  wpAnyH_take (by simpa using hi) hs hf hr hQ hy hS h
/-- The one operation that may come up now. -/
theorem nextL (i : Nat) {oi : Oper} {fuel : Nat} {listed : Array Bool} {a : Act} {w : World} (hi : ops.toList[i]? = some oi) (hr : Region.ready md ops listed = [i])
    (hw : Region.wanted oi (yielded ops a.tmps) = true)
    (h : ∀ K' : Act → World → Prop, (∀ a w, S w → (S w → wpAnyH Pr md ops Q S fuel (listed.setIfInBounds i true) a w) → K' a w) → Oper.wp Pr oi a w K' Q) : wpAnyH Pr md ops Q S (fuel + 1) listed a w := by
  refine wpAnyH_ready hr (by simp) (AllReadyH.cons (o := oi) (by simpa using hi) (fun K hK => ?_) AllReadyH.nil)
  rw [if_pos hw]
  exact h K hK.out
/-- Two may come up now, in either order. -/
theorem next2L (i j : Nat) {oi oj : Oper} {fuel : Nat} {listed : Array Bool} {a : Act} {w : World} (hi : ops.toList[i]? = some oi) (hj : ops.toList[j]? = some oj) (hr : Region.ready md ops listed = [i, j])
    (hw : Region.wanted oi (yielded ops a.tmps) = true) (hw2 : Region.wanted oj (yielded ops a.tmps) = true)
    (h : ∀ K' : Act → World → Prop, (∀ a w, S w → (S w → wpAnyH Pr md ops Q S fuel (listed.setIfInBounds i true) a w) → K' a w) → Oper.wp Pr oi a w K' Q)
    (h2 : ∀ K' : Act → World → Prop, (∀ a w, S w → (S w → wpAnyH Pr md ops Q S fuel (listed.setIfInBounds j true) a w) → K' a w) → Oper.wp Pr oj a w K' Q) : wpAnyH Pr md ops Q S (fuel + 1) listed a w := by
  refine wpAnyH_ready hr (by simp) (AllReadyH.cons (o := oi) (by simpa using hi) (fun K hK => ?_) (AllReadyH.cons (o := oj) (by simpa using hj) (fun K hK => ?_) AllReadyH.nil))
  · rw [if_pos hw]
    exact h K hK.out
  · rw [if_pos hw2]
    exact h2 K hK.out
end

section
variable {ops : Array Oper} {S : World → Prop} {op : Oper} {a : Act}
/-- The load of one integer. -/
theorem yields_int (hw : Region.wanted op (yielded ops a.tmps) = true) (x : Operand) (ho : op.op = .load 3 x) (p : Addr) (hx : a.eval x = .pointer (some p)) (n : Int)
    (hS : ∀ w, S w → w.cell? p = some (.int .i64 n)) : YieldsIf Try.prog ops S op (.int .i64 n) a :=
  .inl ⟨hw, fun w hw' => by
    have h := hS w hw'
    unfold execOp
    simp only [ho, hx]
    go_simp⟩
/-- A quotient. -/
theorem yields_quo (hw : Region.wanted op (yielded ops a.tmps) = true) (x y : Operand) (ho : op.op = .binOp .quo 3 x y 3) (m n : Int) (hx : a.eval x = .int .i64 m) (hy : a.eval y = .int .i64 n)
    (h0 : 0 ≤ m) (h1 : m ≤ 9223372036854775807) (h2 : 0 < n) : YieldsIf Try.prog ops S op (.int .i64 (m / n)) a :=
  .inl ⟨hw, fun w hw' => by
    have hle : m / n ≤ m := Int.ediv_le_self _ h0
    have hge : 0 ≤ m / n := Int.ediv_nonneg h0 (by omega)
    unfold execOp
    simp only [ho, hx, hy]
    go_simp
    have e : IntKind.i64.wrap (m.tdiv n) = m / n := by rw [IntKind.wrap_i64, Int.tdiv_eq_ediv_of_nonneg h0]; omega
    rw [if_neg (by omega), e]⟩
/-- Two texts, one behind the other. -/
theorem yields_cat (hw : Region.wanted op (yielded ops a.tmps) = true) (x y : Operand) (ho : op.op = .binOp .add 9 x y 9) (s t : ByteArray) (hx : a.eval x = .string s) (hy : a.eval y = .string t)
    (h : s.size + t.size ≤ 1000000) : YieldsIf Try.prog ops S op (.string (s ++ t)) a :=
  .inl ⟨hw, fun w hw' => by
    unfold execOp
    simp only [ho, hx, hy]
    go_simp
    omega⟩
end
end Go.Proofs.Yteadkdllmeeocaa
