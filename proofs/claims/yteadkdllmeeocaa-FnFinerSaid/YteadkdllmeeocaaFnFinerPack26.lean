/- Texts of this claim, put together: part 26. -/
import Derived.Test.YteadkdllmeeocaaRows
import Derived.WalkKit
import Derived.ProofKit
import Derived.OpenShut
import Derived.Deep.WholeRow
import Derived.Test.YteadkdllmeeocaaFnFinerPack4
import Derived.Test.YteadkdllmeeocaaFnFinerPack3
import Derived.Deep.QuietTactic
import Derived.BigQuiet
import Derived.WalkSmall
import Derived.Test.YteadkdllmeeocaaFnFinerPack5
/- Fractions as values: which are right, and how the laws read them. -/
namespace Go.Proofs.Yteadkdllmeeocaa
open Go.RowKit
set_option maxRecDepth 100000

/-- Which fractions are right. -/
def frB (a b : Int) : Bool := decide (0 ≤ a ∧ a ≤ 4000000000000000 ∧ 1 ≤ b ∧ b ≤ 4000000000000000)
theorem frB_yes {a b : Int} (h : frB a b = true) : 0 ≤ a ∧ a ≤ 4000000000000000 ∧ 1 ≤ b ∧ b ≤ 4000000000000000 := of_decide_eq_true h
theorem frB_no {a b : Int} (h : frB a b = false) : ¬ (0 ≤ a ∧ a ≤ 4000000000000000 ∧ 1 ≤ b ∧ b ≤ 4000000000000000) := of_decide_eq_false h
theorem frB_mk {a b : Int} (h : 0 ≤ a ∧ a ≤ 4000000000000000 ∧ 1 ≤ b ∧ b ≤ 4000000000000000) : frB a b = true := decide_eq_true h
/-- A fraction as a value. -/
abbrev frV (a b : Int) : Value := .agg #[.int .i64 a, .int .i64 b]
theorem below_1 (w : World) (o : Obj) : Below w.heap.size w (w.alloc o) := (Below.refl _ _).alloc (Nat.le_refl _) _
theorem below_2 (w : World) (o o2 : Obj) : Below w.heap.size w ((w.alloc o).alloc o2) := (below_1 w o).alloc (by simp) _
theorem below_3 (w : World) (o o2 o3 : Obj) : Below w.heap.size w (((w.alloc o).alloc o2).alloc o3) := (below_2 w o o2).alloc (by simp; omega) _

/-- Block g holds a fraction, of the laws' type or of the program's. -/
abbrev FrT (t : TypeId) (w : World) (g : Nat) (a b : Int) : Prop := Blk t w g #[.int .i64 a, .int .i64 b]
abbrev Fr (w : World) (g : Nat) (a b : Int) : Prop := FrT 27 w g a b
theorem FrT.c0 {t : TypeId} {w : World} {g : Nat} {a b : Int} (h : FrT t w g a b) : w.cell? ⟨g, 0, none⟩ = some (.int .i64 a) := h.cell 0
theorem FrT.c1 {t : TypeId} {w : World} {g : Nat} {a b : Int} (h : FrT t w g a b) : w.cell? ⟨g, 1, none⟩ = some (.int .i64 b) := h.cell 1
theorem frac_size : (Try.prog.info? 27).map (·.size) = some 2 := by kernel_rfl
/-- A fraction is stored, handed back. -/
theorem wp_fr_store {ops : Array Oper} {rest : List Oper} {o : Oper} {a : Act} {w : World} {Q : Exit → Act → World → Prop} (hgd : o.guard = none) (x y : Operand) (ho : o.op = .store 27 x y)
    (h : ∃ g, a.eval x = .pointer (some ⟨g, 0, none⟩) ∧ ∃ m n, a.eval y = frV m n ∧ ∃ m' n', Fr w g m' n' ∧ wpList Try.prog ops Q rest (a.put o.dst undef) (w.setRow g #[.int .i64 m, .int .i64 n])) : wpList Try.prog ops Q (o :: rest) a w := by
  obtain ⟨g, hx, m, n, hy, m', n', hA, hk⟩ := h
  exact wpList_store_row hgd 27 x y ho g _ hx hy _ _ hA frac_size rfl (by simp [Value.oneCell']) hk
theorem res_fr {fn : Func} {p : Tmp} (h : fn.results = #[.cell p 27]) (tmps : Array Value) (w : World) (g : Nat) (m n : Int)
    (hp : tmps.getD p undef = .pointer (some ⟨g, 0, none⟩)) (hg : Fr w g m n) : (results fn tmps).run Try.prog w = .ok (frV m n) w :=
  results_cell_row h tmps w g _ _ _ _ hp hg Try.underlying27 rfl frac_size
theorem ret_bool {x y : Bool} (h : x = y) : Ending.returned (.bool x) = .returned (.bool y) := by rw [h]

theorem fracOkI (a b : Int) (w : World) : Calls Try.prog 44 #[frV a b] w fun e w' => e = .returned (.bool (frB a b)) ∧ Below w.heap.size w w' := by
  have B := below_1 w (.cells #[.int .i64 a, .int .i64 b] 27)
  unfold frB
  by_cases h0 : 0 ≤ a
  · by_cases h1 : a ≤ 4000000000000000
    · by_cases h2 : 1 ≤ b
      all_goals
        go_enter Try.func44, Try.ntmps44
        go_wp2
        go_ret
        exact ⟨ret_bool (by rw [Bool.eq_iff_iff]; simp <;> omega), B⟩
    · go_enter Try.func44, Try.ntmps44
      go_wp2
      go_ret
      exact ⟨ret_bool (by rw [Bool.eq_iff_iff]; simp <;> omega), B⟩
  · go_enter Try.func44, Try.ntmps44
    go_wp2
    go_ret
    exact ⟨ret_bool (by rw [Bool.eq_iff_iff]; simp <;> omega), B⟩

theorem fracOkS (a b : Int) (w : World) : Calls Try.prog 68 #[frV a b] w fun e w' => e = .returned (.bool (frB a b)) ∧ Below w.heap.size w w' := by
  have B := below_1 w (.cells #[.int .i64 a, .int .i64 b] 27)
  have c1 := fun W => in_any a 0 4000000000000000 W
  have c2 := fun W => in_any b 1 4000000000000000 W
  unfold frB
  by_cases h0 : 0 ≤ a ∧ a ≤ 4000000000000000
  · rw [decide_eq_true h0] at c1
    by_cases h1 : 1 ≤ b ∧ b ≤ 4000000000000000
    · rw [decide_eq_true h1] at c2
      go_enter Try.func68, Try.ntmps68
      go_wp2_with (first | (go_at_call 31; refine (c1 _).mono ?_; clear c1; rintro e w' ⟨rfl, rfl⟩) | (go_at_call 31; refine (c2 _).mono ?_; clear c2; rintro e w' ⟨rfl, rfl⟩))
      go_ret
      exact ⟨ret_bool (by rw [Bool.eq_iff_iff]; simp <;> omega), B⟩
    · rw [decide_eq_false h1] at c2
      go_enter Try.func68, Try.ntmps68
      go_wp2_with (first | (go_at_call 31; refine (c1 _).mono ?_; clear c1; rintro e w' ⟨rfl, rfl⟩) | (go_at_call 31; refine (c2 _).mono ?_; clear c2; rintro e w' ⟨rfl, rfl⟩))
      go_ret
      exact ⟨ret_bool ((decide_eq_false fun k => h1 k.2.2).symm), B⟩
  · rw [decide_eq_false h0] at c1
    go_enter Try.func68, Try.ntmps68
    go_wp2_with (first | (go_at_call 31; refine (c1 _).mono ?_; clear c1; rintro e w' ⟨rfl, rfl⟩))
    go_ret
    exact ⟨ret_bool ((decide_eq_false fun k => h0 ⟨k.1, k.2.1⟩).symm), B⟩
end Go.Proofs.Yteadkdllmeeocaa
/- The greatest number that divides both, by the program and by the specification. -/
namespace Go.Proofs.Yteadkdllmeeocaa
open Go.RowKit
set_option maxRecDepth 100000

def gcdZ (a b : Int) : Int := if a < 0 ∨ b < 0 then -1 else ((Nat.gcd a.toNat b.toNat : Nat) : Int)
theorem gcd_step (a b : Nat) : Nat.gcd a b = Nat.gcd b (a % b) := by rw [Nat.gcd_comm a b, Nat.gcd_rec b a, Nat.gcd_comm]
theorem ret_gcd {a b : Int} (h : a = b) : Ending.returned (.int .i64 a) = .returned (.int .i64 b) := by rw [h]

set_option maxHeartbeats 800000 in
theorem gcdI_yes (a0 b0 : Nat) (w : World) (ha : a0 ≤ 9223372036854775807) (hb : b0 ≤ 9223372036854775807) :
    Calls Try.prog 21 #[.int .i64 (a0 : Int), .int .i64 (b0 : Int)] w fun e w' => e = .returned (.int .i64 ((Nat.gcd a0 b0 : Nat) : Int)) ∧ Below w.heap.size w w' := by
  go_enter Try.func21, Try.ntmps21
  go_wp2
  go_loopw [0, 1] (fun x y wr => ∃ a b : Nat, x = .int .i64 (a : Int) ∧ y = .int .i64 (b : Int) ∧ a ≤ 9223372036854775807 ∧ b ≤ 9223372036854775807 ∧ Hid (Nat.gcd a b = Nat.gcd a0 b0) ∧ Below w.heap.size w wr) (fun _ y _ => (intOf y).toNat)
  case atStart => exact ⟨a0, b0, rfl, rfl, ha, hb, rfl, Below.refl _ _⟩
  case round =>
    obtain ⟨a, b, rfl, rfl, ha', hb', hg, hbel⟩ := hrel
    by_cases h : 0 < b
    · have hlt := Nat.mod_lt a h
      go_wp2
      go_quiet (fail)
      all_goals go_wp2
      all_goals go_roundw
      case rel =>
        refine ⟨b, a % b, rfl, by go_num, hb', by omega, ?_, below_drewN hbel _⟩
        exact (gcd_step a b).symm.trans hg.out
      case measure => simp [intOf]; omega
    · obtain rfl : b = 0 := by omega
      have HG : Hid (a = Nat.gcd a0 b0) := by
        have := hg.out
        rw [Nat.gcd_zero_right] at this
        exact this
      go_wp2
      go_ret
      exact ⟨ret_gcd (by rw [← HG.out]), hbel⟩

theorem gcdI_any (a b : Int) (w : World) (ha : a ≤ 9223372036854775807) (hb : b ≤ 9223372036854775807) :
    Calls Try.prog 21 #[.int .i64 a, .int .i64 b] w fun e w' => e = .returned (.int .i64 (gcdZ a b)) ∧ Below w.heap.size w w' := by
  unfold gcdZ
  by_cases h0 : a < 0
  · rw [if_pos (.inl h0)]
    go_enter Try.func21, Try.ntmps21
    go_wp2
    go_ret
    exact ⟨rfl, Below.refl _ _⟩
  · by_cases h1 : b < 0
    · rw [if_pos (.inr h1)]
      go_enter Try.func21, Try.ntmps21
      go_wp2
      go_ret
      exact ⟨rfl, Below.refl _ _⟩
    · rw [if_neg (by omega)]
      obtain ⟨m, rfl⟩ := Int.eq_ofNat_of_zero_le (show 0 ≤ a by omega)
      obtain ⟨n, rfl⟩ := Int.eq_ofNat_of_zero_le (show 0 ≤ b by omega)
      exact gcdI_yes m n w (by omega) (by omega)
end Go.Proofs.Yteadkdllmeeocaa
/- The greatest number that divides both, by the specification. -/
namespace Go.Proofs.Yteadkdllmeeocaa
open Go.RowKit
set_option maxRecDepth 100000

set_option maxHeartbeats 800000 in
theorem gcdS_yes (a0 b0 : Nat) (w : World) (ha : a0 ≤ 9223372036854775807) (hb : b0 ≤ 9223372036854775807) :
    Calls Try.prog 69 #[.int .i64 (a0 : Int), .int .i64 (b0 : Int)] w fun e w' => e = .returned (.int .i64 ((Nat.gcd a0 b0 : Nat) : Int)) ∧ Below w.heap.size w w' := by
  go_enter Try.func69, Try.ntmps69
  go_wp2
  go_loopw [0, 1, 5] (fun x y _ wr => ∃ a b : Nat, x = .int .i64 (a : Int) ∧ y = .int .i64 (b : Int) ∧ a ≤ 9223372036854775807 ∧ b ≤ 9223372036854775807 ∧ Hid (Nat.gcd a b = Nat.gcd a0 b0) ∧ Below w.heap.size w wr) (fun _ y _ _ => (intOf y).toNat)
  case atStart => exact ⟨a0, b0, rfl, rfl, ha, hb, rfl, Below.refl _ _⟩
  case round =>
    obtain ⟨a, b, rfl, rfl, ha', hb', hg, hbel⟩ := hrel
    by_cases h : 0 < b
    · have hlt := Nat.mod_lt a h
      go_wp2
      all_goals go_roundw
      case rel =>
        refine ⟨b, a % b, rfl, by go_num, hb', by omega, ?_, hbel⟩
        exact (gcd_step a b).symm.trans hg.out
      case measure => simp [intOf]; omega
    · obtain rfl : b = 0 := by omega
      have HG : Hid (a = Nat.gcd a0 b0) := by
        have := hg.out
        rw [Nat.gcd_zero_right] at this
        exact this
      go_wp2
      go_ret
      exact ⟨ret_gcd (by rw [← HG.out]), hbel⟩

theorem gcdS_any (a b : Int) (w : World) (ha : a ≤ 9223372036854775807) (hb : b ≤ 9223372036854775807) :
    Calls Try.prog 69 #[.int .i64 a, .int .i64 b] w fun e w' => e = .returned (.int .i64 (gcdZ a b)) ∧ Below w.heap.size w w' := by
  unfold gcdZ
  by_cases h0 : a < 0
  · rw [if_pos (.inl h0)]
    go_enter Try.func69, Try.ntmps69
    go_wp2
    go_ret
    exact ⟨rfl, Below.refl _ _⟩
  · by_cases h1 : b < 0
    · rw [if_pos (.inr h1)]
      go_enter Try.func69, Try.ntmps69
      go_wp2
      go_ret
      exact ⟨rfl, Below.refl _ _⟩
    · rw [if_neg (by omega)]
      obtain ⟨m, rfl⟩ := Int.eq_ofNat_of_zero_le (show 0 ≤ a by omega)
      obtain ⟨n, rfl⟩ := Int.eq_ofNat_of_zero_le (show 0 ≤ b by omega)
      exact gcdS_yes m n w (by omega) (by omega)
end Go.Proofs.Yteadkdllmeeocaa
/- Lowest terms, by the program and by the specification. -/
namespace Go.Proofs.Yteadkdllmeeocaa
open Go.RowKit
set_option maxRecDepth 100000

/-- Lowest terms: what stands above, what stands below. -/
def lowN (a b : Int) : Int := if frB a b = true then a / gcdZ a b else 0
def lowD (a b : Int) : Int := if frB a b = true then b / gcdZ a b else 0
theorem gcd_pos {a b : Int} (h : frB a b = true) : 0 < gcdZ a b ∧ gcdZ a b ≤ 4000000000000000 := by
  have := frB_yes h
  unfold gcdZ
  rw [if_neg (by omega)]
  have h1 := Nat.gcd_pos_of_pos_right a.toNat (show 0 < b.toNat by omega)
  have h2 := Nat.gcd_le_right a.toNat (show 0 < b.toNat by omega)
  omega

set_option maxHeartbeats 1600000 in
theorem lowI (a b : Int) (w : World) : Calls Try.prog 30 #[frV a b] w fun e w' => e = .returned (frV (lowN a b) (lowD a b)) ∧ Below w.heap.size w w' := by
  obtain ⟨F0, F1, B⟩ := blk_2 27 27 w #[.int .i64 a, .int .i64 b] #[.int .i64 0, .int .i64 0]
  have c1 := fun W => fracOkI a b W
  unfold lowN lowD
  by_cases h : frB a b = true
  · rw [if_pos h, if_pos h]
    rw [h] at c1
    have hy := frB_yes h
    obtain ⟨hg0, hg1⟩ := gcd_pos h
    have c2 := fun W => gcdI_any a b W (by omega) (by omega)
    generalize gcdZ a b = G at c2 hg0 hg1
    obtain ⟨y0, y1, y2, y3⟩ := hy
    clear h
    go_enter Try.func30, Try.ntmps30
    go_wp2_with fail
    refine (c1 _).mono ?_
    rintro e w1 ⟨rfl, hb1⟩
    have F0 := F0.below hb1
    have F1 := F1.below hb1
    have B1 := B.trans (hb1.mono B.size)
    have f0 := FrT.c0 F0
    have f1 := FrT.c1 F0
    go_wp2_with fail
    refine (c2 _).mono ?_
    rintro e w2 ⟨rfl, hb2⟩
    have F0 := F0.below hb2
    have F1 := F1.below hb2
    have B2 := B1.trans (hb2.mono B1.size)
    clear f0 f1
    go_wp2
    refine wp_region_held_drew (S := fun w' => Fr w' w.heap.size a b) (by kernel_rfl) F0 ?_
    intro hS
    refine takeL 0 (.pointer (some ⟨w.heap.size, 0, none⟩)) rfl (by kernel_rfl) (by kernel_rfl) (by kernel_rfl) (fun _ _ _ h => h) (.inl ⟨by rfl, fun w _ => by rfl⟩) hS ?_
    simp only [Act.put, List.setIfInBounds_toArray, List.set_cons_zero, List.set_cons_succ]
    refine takeL 1 (.int .i64 a) rfl (by kernel_rfl) (by kernel_rfl) (by kernel_rfl) (fun _ _ _ h => h) (yields_int (by rfl) _ rfl _ rfl a (fun _ h => FrT.c0 h)) hS ?_
    simp only [Act.put, List.setIfInBounds_toArray, List.set_cons_zero, List.set_cons_succ]
    refine takeL 2 (.int .i64 G) rfl (by kernel_rfl) (by kernel_rfl) (by kernel_rfl) (fun _ _ _ h => h) (.inl ⟨by rfl, fun w _ => by rfl⟩) hS ?_
    simp only [Act.put, List.setIfInBounds_toArray, List.set_cons_zero, List.set_cons_succ]
    refine takeL 3 (.int .i64 (a / G)) rfl (by kernel_rfl) (by kernel_rfl) (by kernel_rfl) (fun _ _ _ h => h) (yields_quo (by rfl) _ _ rfl a G rfl rfl (by omega) (by omega) (by omega)) hS ?_
    simp only [Act.put, List.setIfInBounds_toArray, List.set_cons_zero, List.set_cons_succ]
    refine takeL 4 (.pointer (some ⟨w.heap.size, 1, none⟩)) rfl (by kernel_rfl) (by kernel_rfl) (by kernel_rfl) (fun _ _ _ h => h) (.inl ⟨by rfl, fun w _ => by rfl⟩) hS ?_
    simp only [Act.put, List.setIfInBounds_toArray, List.set_cons_zero, List.set_cons_succ]
    refine takeL 5 (.int .i64 b) rfl (by kernel_rfl) (by kernel_rfl) (by kernel_rfl) (fun _ _ _ h => h) (yields_int (by rfl) _ rfl _ rfl b (fun _ h => FrT.c1 h)) hS ?_
    simp only [Act.put, List.setIfInBounds_toArray, List.set_cons_zero, List.set_cons_succ]
    refine takeL 6 (.int .i64 G) rfl (by kernel_rfl) (by kernel_rfl) (by kernel_rfl) (fun _ _ _ h => h) (.inl ⟨by rfl, fun w _ => by rfl⟩) hS ?_
    simp only [Act.put, List.setIfInBounds_toArray, List.set_cons_zero, List.set_cons_succ]
    refine takeL 7 (.int .i64 (b / G)) rfl (by kernel_rfl) (by kernel_rfl) (by kernel_rfl) (fun _ _ _ h => h) (yields_quo (by rfl) _ _ rfl b G rfl rfl (by omega) (by omega) (by omega)) hS ?_
    simp only [Act.put, List.setIfInBounds_toArray, List.set_cons_zero, List.set_cons_succ]
    refine takeL 8 (frV (a / G) (b / G)) rfl (by kernel_rfl) (by kernel_rfl) (by kernel_rfl) (fun _ _ _ h => h) (.inl ⟨by rfl, fun w _ => by go_simp⟩) hS ?_
    simp only [Act.put, List.setIfInBounds_toArray, List.set_cons_zero, List.set_cons_succ]
    refine nextL 9 rfl (by kernel_rfl) (by rfl) fun K hK => ?_
    refine wp_store_row 27 _ _ rfl (w.heap.size + 1) #[.int .i64 (a / G), .int .i64 (b / G)] rfl rfl _ _ F1 frac_size rfl (by simp [Value.oneCell']) ?_
    simp only [Act.put]
    have F3 := F1.setRow #[.int .i64 (a / G), .int .i64 (b / G)]
    have B3 := below_row B2.drew (Nat.le_succ _) #[.int .i64 (a / G), .int .i64 (b / G)]
    refine hK _ _ (Blk.setRow_other hS _ (by omega)) ?_
    clear hK K
    intro hS
    refine wpAnyH_done (by kernel_rfl) ?_ _
    go_wp2
    exact bodyPost_ret (res_fr rfl _ _ (w.heap.size + 1) (a / G) (b / G) rfl F3) rfl ⟨rfl, B3⟩
  · have h' : frB a b = false := by simpa using h
    rw [if_neg h, if_neg h]
    rw [h'] at c1
    clear h h'
    go_enter Try.func30, Try.ntmps30
    go_wp2_with fail
    refine (c1 _).mono ?_
    rintro e w1 ⟨rfl, hb1⟩
    have F1 := F1.below hb1
    go_wp2_with (with_reducible refine wp_fr_store rfl _ _ rfl ?_; refine ⟨w.heap.size + 1, rfl, 0, 0, rfl, 0, 0, F1, ?_⟩)
    refine bodyPost_ret (res_fr rfl _ _ (w.heap.size + 1) 0 0 rfl (F1.setRow _)) rfl ⟨rfl, ?_⟩
    exact below_row (B.trans (hb1.mono B.size)) (by omega) _

set_option maxHeartbeats 1600000 in
theorem lowS (a b : Int) (w : World) : Calls Try.prog 47 #[frV a b] w fun e w' => e = .returned (frV (lowN a b) (lowD a b)) ∧ Below w.heap.size w w' := by
  obtain ⟨F0, F1, B⟩ := blk_2 27 27 w #[.int .i64 a, .int .i64 b] #[.int .i64 0, .int .i64 0]
  have c1 := fun W => fracOkS a b W
  unfold lowN lowD
  by_cases h : frB a b = true
  · rw [if_pos h, if_pos h]
    rw [h] at c1
    have hy := frB_yes h
    obtain ⟨hg0, hg1⟩ := gcd_pos h
    have c2 := fun W => gcdS_any a b W (by omega) (by omega)
    generalize gcdZ a b = G at c2 hg0 hg1
    obtain ⟨y0, y1, y2, y3⟩ := hy
    clear h
    go_enter Try.func47, Try.ntmps47
    go_wp2_with fail
    refine (c1 _).mono ?_
    rintro e w1 ⟨rfl, hb1⟩
    have F0 := F0.below hb1
    have F1 := F1.below hb1
    have B1 := B.trans (hb1.mono B.size)
    have f0 := FrT.c0 F0
    have f1 := FrT.c1 F0
    go_wp2_with fail
    refine (c2 _).mono ?_
    rintro e w2 ⟨rfl, hb2⟩
    have F0 := F0.below hb2
    have F1 := F1.below hb2
    have B2 := B1.trans (hb2.mono B1.size)
    clear f0 f1
    go_wp2
    refine wp_region_held_drew (S := fun w' => Fr w' w.heap.size a b) (by kernel_rfl) F0 ?_
    intro hS
    refine takeL 0 (.pointer (some ⟨w.heap.size, 0, none⟩)) rfl (by kernel_rfl) (by kernel_rfl) (by kernel_rfl) (fun _ _ _ h => h) (.inl ⟨by rfl, fun w _ => by rfl⟩) hS ?_
    simp only [Act.put, List.setIfInBounds_toArray, List.set_cons_zero, List.set_cons_succ]
    refine takeL 1 (.int .i64 a) rfl (by kernel_rfl) (by kernel_rfl) (by kernel_rfl) (fun _ _ _ h => h) (yields_int (by rfl) _ rfl _ rfl a (fun _ h => FrT.c0 h)) hS ?_
    simp only [Act.put, List.setIfInBounds_toArray, List.set_cons_zero, List.set_cons_succ]
    refine takeL 2 (.int .i64 G) rfl (by kernel_rfl) (by kernel_rfl) (by kernel_rfl) (fun _ _ _ h => h) (.inl ⟨by rfl, fun w _ => by rfl⟩) hS ?_
    simp only [Act.put, List.setIfInBounds_toArray, List.set_cons_zero, List.set_cons_succ]
    refine takeL 3 (.int .i64 (a / G)) rfl (by kernel_rfl) (by kernel_rfl) (by kernel_rfl) (fun _ _ _ h => h) (yields_quo (by rfl) _ _ rfl a G rfl rfl (by omega) (by omega) (by omega)) hS ?_
    simp only [Act.put, List.setIfInBounds_toArray, List.set_cons_zero, List.set_cons_succ]
    refine takeL 4 (.pointer (some ⟨w.heap.size, 1, none⟩)) rfl (by kernel_rfl) (by kernel_rfl) (by kernel_rfl) (fun _ _ _ h => h) (.inl ⟨by rfl, fun w _ => by rfl⟩) hS ?_
    simp only [Act.put, List.setIfInBounds_toArray, List.set_cons_zero, List.set_cons_succ]
    refine takeL 5 (.int .i64 b) rfl (by kernel_rfl) (by kernel_rfl) (by kernel_rfl) (fun _ _ _ h => h) (yields_int (by rfl) _ rfl _ rfl b (fun _ h => FrT.c1 h)) hS ?_
    simp only [Act.put, List.setIfInBounds_toArray, List.set_cons_zero, List.set_cons_succ]
    refine takeL 6 (.int .i64 G) rfl (by kernel_rfl) (by kernel_rfl) (by kernel_rfl) (fun _ _ _ h => h) (.inl ⟨by rfl, fun w _ => by rfl⟩) hS ?_
    simp only [Act.put, List.setIfInBounds_toArray, List.set_cons_zero, List.set_cons_succ]
    refine takeL 7 (.int .i64 (b / G)) rfl (by kernel_rfl) (by kernel_rfl) (by kernel_rfl) (fun _ _ _ h => h) (yields_quo (by rfl) _ _ rfl b G rfl rfl (by omega) (by omega) (by omega)) hS ?_
    simp only [Act.put, List.setIfInBounds_toArray, List.set_cons_zero, List.set_cons_succ]
    refine takeL 8 (frV (a / G) (b / G)) rfl (by kernel_rfl) (by kernel_rfl) (by kernel_rfl) (fun _ _ _ h => h) (.inl ⟨by rfl, fun w _ => by go_simp⟩) hS ?_
    simp only [Act.put, List.setIfInBounds_toArray, List.set_cons_zero, List.set_cons_succ]
    refine nextL 9 rfl (by kernel_rfl) (by rfl) fun K hK => ?_
    refine wp_store_row 27 _ _ rfl (w.heap.size + 1) #[.int .i64 (a / G), .int .i64 (b / G)] rfl rfl _ _ F1 frac_size rfl (by simp [Value.oneCell']) ?_
    simp only [Act.put]
    have F3 := F1.setRow #[.int .i64 (a / G), .int .i64 (b / G)]
    have B3 := below_row B2.drew (Nat.le_succ _) #[.int .i64 (a / G), .int .i64 (b / G)]
    refine hK _ _ (Blk.setRow_other hS _ (by omega)) ?_
    clear hK K
    intro hS
    refine wpAnyH_done (by kernel_rfl) ?_ _
    go_wp2
    exact bodyPost_ret (res_fr rfl _ _ (w.heap.size + 1) (a / G) (b / G) rfl F3) rfl ⟨rfl, B3⟩
  · have h' : frB a b = false := by simpa using h
    rw [if_neg h, if_neg h]
    rw [h'] at c1
    clear h h'
    go_enter Try.func47, Try.ntmps47
    go_wp2_with fail
    refine (c1 _).mono ?_
    rintro e w1 ⟨rfl, hb1⟩
    have F1 := F1.below hb1
    go_wp2_with (with_reducible refine wp_fr_store rfl _ _ rfl ?_; refine ⟨w.heap.size + 1, rfl, 0, 0, rfl, 0, 0, F1, ?_⟩)
    refine bodyPost_ret (res_fr rfl _ _ (w.heap.size + 1) 0 0 rfl (F1.setRow _)) rfl ⟨rfl, ?_⟩
    exact below_row (B.trans (hb1.mono B.size)) (by omega) _
end Go.Proofs.Yteadkdllmeeocaa
