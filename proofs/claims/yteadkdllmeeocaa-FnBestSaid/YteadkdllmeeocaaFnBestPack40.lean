/- Texts of this claim, put together: part 40. -/
import Derived.Test.YteadkdllmeeocaaFnBestPack38
import Derived.ChangeKeysEq
import Derived.Deep.QuietTactic
import Derived.BigQuiet
import Derived.WalkSmall
import Derived.Test.YteadkdllmeeocaaFnBestPack39
import Derived.Test.YteadkdllmeeocaaFnBestPack2
import Derived.Deep.MidRow
import Derived.Test.YteadkdllmeeocaaFnBestPack27
/- Two great numbers inside are held against each other. -/
namespace Go.Proofs.Yteadkdllmeeocaa
open Go.RowKit
set_option maxRecDepth 100000

theorem items_eq (d : Nat) (a b : List Nat) (w : World) : ∀ is : List Nat, (∀ i ∈ is, i < a.length ∧ i < b.length) →
    (Op.eqItems (d + 1) 3 1 (arr a) (arr b) is).run Try.prog w = .ok (decide (∀ i ∈ is, a.getD i 0 = b.getD i 0)) w
  | [], _ => by simp [Op.eqItems]
  | i :: is, h => by
    have hi := h i (by simp)
    have ih := items_eq d a b w is fun j hj => h j (by simp [hj])
    have hp : Try.prog.plainKey 3 = true := by simp [Program.plainKey, Try.underlying3]
    have p1 := run_part_plain w hp (arr_get a i hi.1)
    have p2 := run_part_plain w hp (arr_get b i hi.2)
    simp only [Op.eqItems, Sem.run_bind, Nat.mul_one, p1, p2, Result.andThen_ok, run_equalIn_int w d 3 .i64 .i64 _ _ Try.underlying3]
    by_cases e : a.getD i 0 = b.getD i 0
    · rw [e]
      have hb : (((b.getD i 0 : Nat) : Int) == ((b.getD i 0 : Nat) : Int)) = true := by simp
      rw [hb]
      simp only [Bool.not_true, Bool.false_eq_true, if_false, ih]
      congr 1
      simp only [List.mem_cons, forall_eq_or_imp, e, true_and]
    · have hb : (((a.getD i 0 : Nat) : Int) == ((b.getD i 0 : Nat) : Int)) = false := by
        rw [beq_eq_false_iff_ne]; omega
      rw [hb]
      have hd : decide (∀ j ∈ i :: is, a.getD j 0 = b.getD j 0) = false := by
        apply decide_eq_false; intro hh; exact e (hh i (by simp))
      rw [hd]
      rfl

theorem arr_eql (a b : List Nat) (ha : a.length = 16) (hb : b.length = 16) (w : World) : (Op.equalIn 10000 93 (.agg (arr a)) (.agg (arr b))).run Try.prog w = .ok (decide (a = b)) w := by
  obtain ⟨i0, hi, hz⟩ := Option.map_eq_some_iff.1 (show (Try.prog.info? 3).map (·.size) = some 1 by kernel_rfl)
  have hc : Try.prog.cellsOf 3 = 1 := by kernel_rfl
  rw [show (10000 : Nat) = 9998 + 1 + 1 from rfl, run_equalIn_array w _ _ _ Try.underlying93 hi, hc, items_eq]
  · congr 1
    apply decide_eq_decide.2
    constructor
    · intro h
      apply List.ext_getElem
      · omega
      · intro i g1 g2
        have := h i (List.mem_range.2 (by omega))
        rw [List.getD_eq_getElem?_getD, List.getD_eq_getElem?_getD, List.getElem?_eq_getElem g1, List.getElem?_eq_getElem g2] at this
        exact this
    · rintro rfl i _; rfl
  · intro i hi
    have := List.mem_range.1 hi
    omega

theorem guard_limbs : Try.prog.eqGuardType Try.prog.depth 93 = false := by kernel_rfl

/-- .. held against nought. -/
theorem arr_eql0 (a : List Nat) (ha : a.length = 16) (w : World) : (Op.equalIn 10000 93 (.agg (arr a)) (.agg #[Value.int .i64 0, Value.int .i64 0, Value.int .i64 0, Value.int .i64 0, Value.int .i64 0, Value.int .i64 0, Value.int .i64 0, Value.int .i64 0, Value.int .i64 0, Value.int .i64 0, Value.int .i64 0, Value.int .i64 0, Value.int .i64 0, Value.int .i64 0, Value.int .i64 0, Value.int .i64 0])).run Try.prog w = .ok (decide (a = fit 0)) w := by
  rw [zero_cells]
  exact arr_eql a (fit 0) ha (fit_len 0) w
theorem fit_eq0 (n : Nat) (h : n < top) : decide (fit n = fit 0) = decide (n = 0) := by
  apply decide_eq_decide.2
  constructor
  · intro e
    have := congrArg val e
    rw [fit_val n h, fit_val 0 (by unfold top; omega)] at this
    exact this
  · rintro rfl; rfl
end Go.Proofs.Yteadkdllmeeocaa
/- Product of two great numbers inside. -/
namespace Go.Proofs.Yteadkdllmeeocaa
open Go.RowKit
set_option maxRecDepth 100000

theorem zero_cells32 : #[Value.int .i64 0, Value.int .i64 0, Value.int .i64 0, Value.int .i64 0, Value.int .i64 0, Value.int .i64 0, Value.int .i64 0, Value.int .i64 0, Value.int .i64 0, Value.int .i64 0, Value.int .i64 0, Value.int .i64 0, Value.int .i64 0, Value.int .i64 0, Value.int .i64 0, Value.int .i64 0, Value.int .i64 0, Value.int .i64 0, Value.int .i64 0, Value.int .i64 0, Value.int .i64 0, Value.int .i64 0, Value.int .i64 0, Value.int .i64 0, Value.int .i64 0, Value.int .i64 0, Value.int .i64 0, Value.int .i64 0, Value.int .i64 0, Value.int .i64 0, Value.int .i64 0, Value.int .i64 0] = arr (List.replicate 32 0) := by rfl
theorem fit_times (wide : List Nat) (hl : wide.length = 32) : val wide = val (wide.take 16) + top * val (wide.drop 16) := by
  conv => lhs; rw [← List.take_append_drop 16 wide, val_append, List.length_take, hl]
  rfl

/-- A part of a wide row, loaded as a whole, may be taken first. -/
theorem yields_part {ops : Array Oper} {S : World → Prop} {op : Oper} {a : Act} (hw : Region.wanted op (yielded ops a.tmps) = true) (x : Operand) (ho : op.op = .load 93 x)
    (g o : Nat) (hx : a.eval x = .pointer (some ⟨g, o, none⟩)) (wide part : List Nat) (hS : ∀ w, S w → ArrT 124 w g wide) (hl : part.length = 16) (hp : ∀ j, j < 16 → o + j < wide.length ∧ wide.getD (o + j) 0 = part.getD j 0) : YieldsIf Try.prog ops S op (.agg (arr part)) a := by
  refine yieldsIf_load_mid hw 93 x ho g o hx ((up part).map (Value.int .i64)) _ (fun w hw' j v hv => ?_) Try.underlying93 rfl (by rw [limbs_size, List.length_map, up_len, hl])
  have hj : j < 16 := by
    rcases Nat.lt_or_ge j 16 with h | h
    · exact h
    · rw [List.getElem?_eq_none (by rw [List.length_map, up_len]; omega)] at hv; cases hv
  have h1 := (hS w hw').cell (o + j) (hp j hj).1
  rw [h1, (hp j hj).2]
  rw [getD_mapI _ _ (by rw [up_len]; omega), up_getD] at hv
  exact hv
theorem part_low (wide : List Nat) (hl : wide.length = 32) : (wide.take 16).length = 16 ∧ ∀ j, j < 16 → 0 + j < wide.length ∧ wide.getD (0 + j) 0 = (wide.take 16).getD j 0 :=
  ⟨by simp; omega, fun j hj => ⟨by omega, by rw [Nat.zero_add, List.getD_eq_getElem?_getD, List.getD_eq_getElem?_getD, List.getElem?_take_of_lt hj]⟩⟩
theorem part_high (wide : List Nat) (hl : wide.length = 32) : (wide.drop 16).length = 16 ∧ ∀ j, j < 16 → 16 + j < wide.length ∧ wide.getD (16 + j) 0 = (wide.drop 16).getD j 0 :=
  ⟨by simp; omega, fun j hj => ⟨by omega, by rw [List.getD_eq_getElem?_getD, List.getD_eq_getElem?_getD, List.getElem?_drop]⟩⟩

/-- A new great number inside: nought. -/
theorem wp_alloc_arr {o : Oper} {a : Act} {w : World} {K : Act → World → Prop} {Q : Exit → Act → World → Prop} (ho : o.op = .alloc 93)
    (h : K (a.put o.dst (.pointer (some ⟨w.heap.size, 0, none⟩))) (w.alloc (.cells (arr (fit 0)) 93))) : o.wp Try.prog a w K Q := by
  have hz := (zero_of_info limbs_info).1 w
  rw [← fit_zero] at hz
  unfold Oper.wp execOp
  simp only [ho, Instr.alloc, Sem.run_bind, hz, Result.andThen_ok]
  exact h
/-- Either of two operations may come up now. -/
theorem nextL2 {Pr : Program} {ops : Array Oper} {Q : Exit → Act → World → Prop} {md : Region.Mode} {S : World → Prop} (i j : Nat) {oi oj : Oper} {fuel : Nat} {listed : Array Bool} {a : Act} {w : World} (hi : ops.toList[i]? = some oi) (hj : ops.toList[j]? = some oj) (hr : Region.ready md ops listed = [i, j])
    (hwi : Region.wanted oi (yielded ops a.tmps) = true) (hwj : Region.wanted oj (yielded ops a.tmps) = true)
    (h1 : ∀ K' : Act → World → Prop, (∀ a w, S w → (S w → wpAnyH Pr md ops Q S fuel (listed.setIfInBounds i true) a w) → K' a w) → Oper.wp Pr oi a w K' Q)
    (h2 : ∀ K' : Act → World → Prop, (∀ a w, S w → (S w → wpAnyH Pr md ops Q S fuel (listed.setIfInBounds j true) a w) → K' a w) → Oper.wp Pr oj a w K' Q) : wpAnyH Pr md ops Q S (fuel + 1) listed a w := by
  refine wpAnyH_ready hr (by simp) (AllReadyH.cons (o := oi) (by simpa using hi) (fun K hK => ?_) (AllReadyH.cons (o := oj) (by simpa using hj) (fun K hK => ?_) AllReadyH.nil))
  · rw [if_pos hwi]; exact h1 K hK.out
  · rw [if_pos hwj]; exact h2 K hK.out

theorem eql_exec {o : Oper} {a : Act} {x y : Operand} {t : TypeId} {d : List Nat} (ho : o.op = .binOp .eql 93 x y t) (hx : a.eval x = .agg (arr d)) (hy : a.eval y = .agg #[Value.int .i64 0, Value.int .i64 0, Value.int .i64 0, Value.int .i64 0, Value.int .i64 0, Value.int .i64 0, Value.int .i64 0, Value.int .i64 0, Value.int .i64 0, Value.int .i64 0, Value.int .i64 0, Value.int .i64 0, Value.int .i64 0, Value.int .i64 0, Value.int .i64 0, Value.int .i64 0]) (hl : d.length = 16) (w : World) :
    (execOp a.eval o).run Try.prog w = .ok (.value (.bool (decide (d = fit 0)))) w := by
  have hg := guard_limbs
  have he := arr_eql0 d hl w
  unfold execOp
  simp only [ho, hx, hy]
  go_simp

theorem arr_index (xs : List Nat) (k : Nat) (hx : xs.length = 16) (hk : k < 16) (w : World) : (Instr.index 93 (.agg (arr xs)) (.int .i64 (k : Int))).run Try.prog w = .ok (.int .i64 ((xs.getD k 0 : Nat) : Int)) w := by
  obtain ⟨i0, hi, hz⟩ := Option.map_eq_some_iff.1 (show (Try.prog.info? 3).map (·.size) = some 1 by kernel_rfl)
  have hc : Try.prog.cellsOf 3 = 1 := by kernel_rfl
  have hp : Try.prog.plainKey 3 = true := by simp [Program.plainKey, Try.underlying3]
  have h1 := run_part_plain w hp (arr_get xs k (by omega))
  have h2 : (0 ≤ (k : Int) ∧ (k : Int) < ((16 : Nat) : Int)) := by omega
  simp only [Instr.index, asIntOf, Sem.run_bind, Sem.run_pure, Result.andThen_ok, run_underlying Try.underlying93]
  rw [if_pos h2]
  simp only [Sem.run_bind, run_sizeOf w hi, hc, Result.andThen_ok, Nat.mul_one, Int.toNat_natCast, h1]

set_option maxHeartbeats 1600000 in
theorem times_walk (xs ys : List Nat) (w : World) (hx : xs.length = 16) (hy : ys.length = 16) (hxl : ∀ l ∈ xs, l < 16777216) (hyl : ∀ l ∈ ys, l < 16777216) :
    Calls Try.prog 84 #[.agg (arr xs), .agg (arr ys)] w fun e w' =>
      ∃ wide : List Nat, wide.length = 32 ∧ (∀ l ∈ wide, l < 16777216) ∧ val wide = val xs * val ys ∧ e = .returned (.tuple #[.agg (arr (wide.take 16)), .bool (decide (wide.drop 16 = fit 0))]) ∧ Below w.heap.size w w' := by
  obtain ⟨a0, a1, a2, b2⟩ := arr_3 93 93 93 w xs ys (fit 0)
  have a0 := a0.alloc (.cells (arr (List.replicate 32 0)) 124)
  have a1 := a1.alloc (.cells (arr (List.replicate 32 0)) 124)
  have a2 := a2.alloc (.cells (arr (List.replicate 32 0)) 124)
  have a3 := ArrT.new 124 (((w.alloc (.cells (arr xs) 93)).alloc (.cells (arr ys) 93)).alloc (.cells (arr (fit 0)) 93)) (List.replicate 32 0)
  have b3 := b2.alloc (by simp; omega) (.cells (arr (List.replicate 32 0)) 124)
  simp only [World.size_alloc] at a3
  rw [← zero_cells, ← zero_cells32] at a0 a1 a2 a3 b3
  have HX : Hid (∀ l ∈ xs, l < 16777216) := hxl
  have HY : Hid (∀ l ∈ ys, l < 16777216) := hyl
  clear hxl hyl b2
  go_enter Try.func84, Try.ntmps84
  go_wp2_with (with_reducible refine wp_arr_load rfl _ rfl ?_; refine ⟨w.heap.size, rfl, xs, a0, hx, ?_⟩)
  go_loopw [15] (fun i wr => ∃ (k : Nat) (wide : List Nat), i = .int .i64 (k : Int) ∧ k ≤ 16 ∧ wide.length = 32 ∧ Hid (∀ l ∈ wide, l < 16777216) ∧ Hid (∀ j, k + 16 ≤ j → wide.getD j 0 = 0) ∧ Hid (val wide = val (xs.take k) * val ys) ∧
      Arr wr (w.heap.size + 1) ys ∧ Arr wr (w.heap.size + 1 + 1) (fit 0) ∧ ArrT 124 wr (w.heap.size + 1 + 1 + 1) wide ∧ Below w.heap.size w wr) (fun i _ => 16 - (intOf i).toNat)
  case atStart => exact ⟨0, List.replicate 32 0, rfl, by omega, by simp, (fun l hl => by have := List.eq_of_mem_replicate hl; omega), (fun j _ => by rw [List.getD_eq_getElem?_getD]; by_cases h : j < 32; (rw [List.getElem?_replicate_of_lt h]; rfl); (rw [List.getElem?_eq_none (by simp; omega)]; rfl)), (by show _ = _; rw [val_zeros]; simp [val]), a1, a2, a3, b3⟩
  case round =>
    obtain ⟨k, wide, rfl, hk, hwl, hwb, hw0, hv, A1, A2, A3, hb⟩ := hrel
    clear a0 a1 a2 a3 b3
    by_cases hlt : k < 16
    · have hix := arr_get xs k (by omega)
      have hla := getD_lt xs HX.out k
      have HMO : Hid (∀ cu c, cu.length = 32 → cu.getD (k + 16) 0 = 0 → val cu + 16777216 ^ (k + 16) * c = val (xs.take k) * val ys + 16777216 ^ k * (xs.getD k 0 * val (ys.take 16)) → val (cu.set (k + 16) c) = val (xs.take (k + 1)) * val ys) := fun cu c h3 h4 h5 => mul_outer (by omega) h4 hy h5
      have hix2 := fun W => arr_index xs k hx hlt W
      have HV : Hid (val wide = val (xs.take k) * val ys) := hv
      generalize hA : xs.getD k 0 = A at hix2 hla HMO
      have HAA : Hid (xs.getD k 0 = A) := hA
      clear hix hv hA
      go_wp2_with (with_reducible refine wp_arr_load rfl _ rfl ?_; refine ⟨w.heap.size + 1, rfl, ys, A1, hy, ?_⟩)
      clear hix2
      go_loopw [9, 20] (fun c j wq => ∃ (t cy : Nat) (cu : List Nat), j = .int .i64 (t : Int) ∧ c = .int .i64 (cy : Int) ∧ t ≤ 16 ∧ cy < 16777216 ∧ cu.length = 32 ∧ Hid (∀ l ∈ cu, l < 16777216) ∧ Hid (∀ m, k + 16 ≤ m → cu.getD m 0 = 0) ∧
          Hid (val cu + 16777216 ^ (k + t) * cy = val (xs.take k) * val ys + 16777216 ^ k * (A * val (ys.take t))) ∧
          Arr wq (w.heap.size + 1) ys ∧ Arr wq (w.heap.size + 1 + 1) (fit 0) ∧ ArrT 124 wq (w.heap.size + 1 + 1 + 1) cu ∧ Below w.heap.size w wq) (fun _ j _ => 16 - (intOf j).toNat)
      case atStart => exact ⟨0, 0, wide, rfl, rfl, by omega, by omega, hwl, hwb, hw0, (by show _ = _; rw [HV.out]; simp [val]), A1, A2, A3, hb⟩
      case round =>
        obtain ⟨t, cy, cu, rfl, rfl, ht, hcy, hcul, hcub, hcu0, hvv, A1, A2, A3, hb⟩ := hrel
        by_cases htl : t < 16
        · have hix2 := fun W => arr_index ys t hy htl W
          have h3 := A3.cell (k + t) (by omega)
          have hf3 := A3.frozen (k + t)
          have hlb := getD_lt ys HY.out t
          have hlx := getD_lt cu hcub.out (k + t)
          obtain ⟨hp1, hp2⟩ := mul_carry hlx hla hlb hcy
          have HS : Hid (∀ x, x = cu.getD (k + t) 0 + A * ys.getD t 0 + cy → val (cu.set (k + t) (x % 16777216)) + 16777216 ^ (k + (t + 1)) * (x / 16777216) = val (xs.take k) * val ys + 16777216 ^ k * (A * val (ys.take (t + 1)))) := fun x hx => mul_inner (by omega) rfl hvv.out x hx
          generalize ys.getD t 0 = Bt at hix2 hlb hp1 hp2 HS
          generalize cu.getD (k + t) 0 = X at h3 hlx hp2 HS
          have hpi : (A : Int) * Bt ≤ 281474943156225 := by have := Int.ofNat_le.2 hp1; simpa using this
          have hpn : 0 ≤ (A : Int) * Bt := Int.mul_nonneg (by omega) (by omega)
          generalize hSS : X + A * Bt + cy = S at hp2 HS
          have HE : Hid ((cy : Int) + (X + A * Bt) = (S : Int)) := by show _ = _; rw [← hSS]; push_cast; omega
          clear hvv hSS
          go_wp2
          rw [HE.out]
          have e1 : (S : Int) % 16777216 = ((S % 16777216 : Nat) : Int) := by omega
          rw [e1]
          go_roundw
          case rel =>
            exact ⟨t + 1, S / 16777216, cu.set (k + t) (S % 16777216), by go_num, by go_num, by omega, hp2, by simp [hcul], set_lt _ _ _ hcub.out (by omega), (fun m hm => by rw [getD_set_ne _ _ _ _ (by omega)]; exact hcu0.out m hm), HS.out _ rfl, A1.other _ _ (by show w.heap.size + 1 + 1 + 1 ≠ _; omega), A2.other _ _ (by show w.heap.size + 1 + 1 + 1 ≠ _; omega), A3.set (k + t) _, hb.setCell (p := ⟨w.heap.size + 1 + 1 + 1, k + t, none⟩) (by show _ ≤ w.heap.size + 1 + 1 + 1; omega) _⟩
          case measure => simp [intOf]; omega
        · obtain rfl : t = 16 := by omega
          have hz := hcu0.out (k + 16) (Nat.le_refl _)
          have h3 := A3.cell (k + 16) (by omega)
          rw [hz] at h3
          have hf3 := A3.frozen (k + 16)
          have HFI : Hid (val (cu.set (k + 16) cy) = val (xs.take (k + 1)) * val ys) := HMO.out cu cy hcul hz hvv.out
          clear hvv hz
          go_wp2
          go_roundw
          case rel =>
            exact ⟨k + 1, cu.set (k + 16) cy, by go_num, by omega, by simp [hcul], set_lt _ _ _ hcub.out hcy, (fun m hm => by rw [getD_set_ne _ _ _ _ (by omega)]; exact hcu0.out m (by omega)), HFI, A1.other _ _ (by show w.heap.size + 1 + 1 + 1 ≠ _; omega), A2.other _ _ (by show w.heap.size + 1 + 1 + 1 ≠ _; omega), A3.set (k + 16) _, hb.setCell (p := ⟨w.heap.size + 1 + 1 + 1, k + 16, none⟩) (by show _ ≤ w.heap.size + 1 + 1 + 1; omega) _⟩
          case measure => simp [intOf]; omega
    · obtain rfl : k = 16 := by omega
      have hval : val wide = val xs * val ys := by have := hv.out; rw [List.take_of_length_le (by omega)] at this; exact this
      have HVAL : Hid (val wide = val xs * val ys) := hval
      clear hv hval hw0 A1
      go_wp2
      obtain ⟨pl1, pl2⟩ := part_low wide hwl
      obtain ⟨ph1, ph2⟩ := part_high wide hwl
      refine wp_region_held_drew (S := fun w' => ArrT 124 w' (w.heap.size + 1 + 1 + 1) wide) (by kernel_rfl) A3 ?_
      intro hS
      refine takeL 0 (.slice (some ⟨w.heap.size + 1 + 1 + 1, 0, none⟩) 16 32) rfl (by kernel_rfl) (by kernel_rfl) (by kernel_rfl) (fun _ _ _ h => h) (.inl ⟨by rfl, fun w _ => by kernel_rfl⟩) hS ?_
      simp only [Act.put, List.setIfInBounds_toArray, List.set_cons_zero, List.set_cons_succ]
      refine takeL 1 (.pointer (some ⟨w.heap.size + 1 + 1 + 1, 0, none⟩)) rfl (by kernel_rfl) (by kernel_rfl) (by kernel_rfl) (fun _ _ _ h => h) (.inl ⟨by rfl, fun w _ => by kernel_rfl⟩) hS ?_
      simp only [Act.put, List.setIfInBounds_toArray, List.set_cons_zero, List.set_cons_succ]
      refine takeL 2 (.agg (arr (wide.take 16))) rfl (by kernel_rfl) (by kernel_rfl) (by kernel_rfl) (fun _ _ _ h => h) (yields_part (by rfl) _ rfl (w.heap.size + 1 + 1 + 1) 0 rfl wide (wide.take 16) (fun _ h => h) pl1 pl2) hS ?_
      simp only [Act.put, List.setIfInBounds_toArray, List.set_cons_zero, List.set_cons_succ]
      refine takeL 3 (.slice (some ⟨w.heap.size + 1 + 1 + 1, 16, none⟩) 16 16) rfl (by kernel_rfl) (by kernel_rfl) (by kernel_rfl) (fun _ _ _ h => h) (.inl ⟨by rfl, fun w _ => by kernel_rfl⟩) hS ?_
      simp only [Act.put, List.setIfInBounds_toArray, List.set_cons_zero, List.set_cons_succ]
      refine takeL 4 (.pointer (some ⟨w.heap.size + 1 + 1 + 1, 16, none⟩)) rfl (by kernel_rfl) (by kernel_rfl) (by kernel_rfl) (fun _ _ _ h => h) (.inl ⟨by rfl, fun w _ => by kernel_rfl⟩) hS ?_
      simp only [Act.put, List.setIfInBounds_toArray, List.set_cons_zero, List.set_cons_succ]
      refine takeL 5 (.agg (arr (wide.drop 16))) rfl (by kernel_rfl) (by kernel_rfl) (by kernel_rfl) (fun _ _ _ h => h) (yields_part (by rfl) _ rfl (w.heap.size + 1 + 1 + 1) 16 rfl wide (wide.drop 16) (fun _ h => h) ph1 ph2) hS ?_
      simp only [Act.put, List.setIfInBounds_toArray, List.set_cons_zero, List.set_cons_succ]
      have hbd : Below w.heap.size w wr.drew := hb.drew
      have A2d : Arr wr.drew (w.heap.size + 1 + 1) (fit 0) := A2
      generalize wr.drew = W at hS hbd A2d
      have hsW : w.heap.size + 1 + 1 + 1 < W.heap.size := hS.lt
      have l0 := fit_len 0
      refine nextL2 6 7 rfl rfl (by kernel_rfl) (by rfl) (by rfl) (fun K hK => ?_) (fun K hK => ?_)
      · refine wp_alloc_arr rfl ?_
        simp only [Act.put, List.setIfInBounds_toArray, List.set_cons_zero, List.set_cons_succ]
        refine hK _ _ (hS.alloc _) ?_
        clear hK K
        intro hS1
        refine nextL 7 rfl (by kernel_rfl) (by rfl) fun K hK => ?_
        refine wp_alloc_arr rfl ?_
        simp only [Act.put, List.setIfInBounds_toArray, List.set_cons_zero, List.set_cons_succ]
        refine hK _ _ (hS1.alloc _) ?_
        clear hK K hS1
        intro hS2
        obtain ⟨B0, B1, B2⟩ := arr_2 93 93 W (fit 0) (fit 0)
        have B1s := B1
        rw [← World.size_alloc W (.cells (arr (fit 0)) 93)] at B1s
        have hne : (W.alloc (.cells (arr (fit 0)) 93)).heap.size ≠ W.heap.size := by simp
        have hge : W.heap.size < (W.alloc (.cells (arr (fit 0)) 93)).heap.size := by simp
        have A2e := (A2d.alloc (.cells (arr (fit 0)) 93)).alloc (.cells (arr (fit 0)) 93)
        have hbe : Below w.heap.size w ((W.alloc (.cells (arr (fit 0)) 93)).alloc (.cells (arr (fit 0)) 93)) := hbd.trans (B2.mono (by omega))
        clear B1 B2
        refine nextL 8 rfl (by kernel_rfl) (by rfl) fun K hK => ?_
        refine wp_store_arr _ _ rfl W.heap.size (wide.take 16) rfl rfl pl1 (fit 0) B0 l0 ?_
        simp only [Act.put]
        refine hK _ _ (hS2.setRow_other _ (by omega)) ?_
        clear hK K hS2
        intro hS3
        refine nextL 9 rfl (by kernel_rfl) (by rfl) fun K hK => ?_
        refine wp_store_arr _ _ rfl (W.alloc (.cells (arr (fit 0)) 93)).heap.size (wide.drop 16) rfl rfl ph1 (fit 0) (B1s.setRow_other _ (by omega)) l0 ?_
        simp only [Act.put]
        refine hK _ _ (hS3.setRow_other _ (by omega)) ?_
        clear hK K
        intro _
        have ALo := (B0.setRow (wide.take 16)).setRow_other (k := (W.alloc (.cells (arr (fit 0)) 93)).heap.size) (arr (wide.drop 16)) (by omega)
        have AHi := (B1s.setRow_other (k := W.heap.size) (arr (wide.take 16)) (by omega)).setRow (wide.drop 16)
        have A2f := (A2e.setRow_other (k := W.heap.size) (arr (wide.take 16)) (by omega)).setRow_other (k := (W.alloc (.cells (arr (fit 0)) 93)).heap.size) (arr (wide.drop 16)) (by omega)
        have hbf := below_setRow (below_setRow hbe (g := W.heap.size) (by omega) (arr (wide.take 16))) (g := (W.alloc (.cells (arr (fit 0)) 93)).heap.size) (by omega) (arr (wide.drop 16))
        have hgl : w.heap.size + 1 + 1 + 1 < W.heap.size := by omega
        have hgh : w.heap.size + 1 + 1 + 1 < (W.alloc (.cells (arr (fit 0)) 93)).heap.size := by omega
        refine wpAnyH_done (by kernel_rfl) ?_ _
        generalize ((((W.alloc (.cells (arr (fit 0)) 93)).alloc (.cells (arr (fit 0)) 93)).setRow W.heap.size (arr (wide.take 16))).setRow (W.alloc (.cells (arr (fit 0)) 93)).heap.size (arr (wide.drop 16))) = Wf at ALo AHi A2f hbf
        generalize (W.alloc (.cells (arr (fit 0)) 93)).heap.size = L1 at ALo AHi hgl hgh
        generalize W.heap.size = L0 at ALo AHi hgl hgh
        clear hS3 B0 B1s hne hge A2e hbe
        go_wp2
        refine wp_region_held_drew (S := fun w' => Arr w' L0 (wide.take 16) ∧ Arr w' L1 (wide.drop 16)) (by kernel_rfl) ⟨ALo, AHi⟩ ?_
        intro hS
        refine takeL 0 (.agg (arr (wide.take 16))) rfl (by kernel_rfl) (by kernel_rfl) (by kernel_rfl) (fun _ _ _ h => h) (yields_arr (by rfl) _ rfl L0 rfl (wide.take 16) (fun w h => h.1) pl1) hS ?_
        simp only [Act.put, List.setIfInBounds_toArray, List.set_cons_zero, List.set_cons_succ]
        refine takeL 1 (.agg (arr (wide.drop 16))) rfl (by kernel_rfl) (by kernel_rfl) (by kernel_rfl) (fun _ _ _ h => h) (yields_arr (by rfl) _ rfl L1 rfl (wide.drop 16) (fun w h => h.2) ph1) hS ?_
        simp only [Act.put, List.setIfInBounds_toArray, List.set_cons_zero, List.set_cons_succ]
        refine takeL 2 (.agg #[Value.int .i64 0, Value.int .i64 0, Value.int .i64 0, Value.int .i64 0, Value.int .i64 0, Value.int .i64 0, Value.int .i64 0, Value.int .i64 0, Value.int .i64 0, Value.int .i64 0, Value.int .i64 0, Value.int .i64 0, Value.int .i64 0, Value.int .i64 0, Value.int .i64 0, Value.int .i64 0]) rfl (by kernel_rfl) (by kernel_rfl) (by kernel_rfl) (fun _ _ _ h => h) (.inl ⟨by rfl, fun w _ => by kernel_rfl⟩) hS ?_
        simp only [Act.put, List.setIfInBounds_toArray, List.set_cons_zero, List.set_cons_succ]
        refine takeL 3 (.bool (decide (wide.drop 16 = fit 0))) rfl (by kernel_rfl) (by kernel_rfl) (by kernel_rfl) (fun _ _ _ h => h) (.inl ⟨by rfl, fun w _ => eql_exec rfl rfl rfl ph1 w⟩) hS ?_
        simp only [Act.put, List.setIfInBounds_toArray, List.set_cons_zero, List.set_cons_succ]
        refine nextL 4 rfl (by kernel_rfl) (by rfl) fun K hK => ?_
        have A2g : Arr Wf.drew (w.heap.size + 1 + 1) (fit 0) := A2f
        refine wp_store_arr _ _ rfl (w.heap.size + 1 + 1) (wide.take 16) rfl rfl pl1 (fit 0) A2g l0 ?_
        simp only [Act.put]
        refine hK _ _ ⟨hS.1.setRow_other _ (by omega), hS.2.setRow_other _ (by omega)⟩ ?_
        clear hK K
        intro hS
        refine takeL 5 (.bool (decide (wide.drop 16 = fit 0))) rfl (by kernel_rfl) (by kernel_rfl) (by kernel_rfl) (fun _ _ _ h => h) (.inl ⟨by rfl, fun w _ => by rfl⟩) hS ?_
        simp only [Act.put, List.setIfInBounds_toArray, List.set_cons_zero, List.set_cons_succ]
        refine wpAnyH_done (by kernel_rfl) ?_ _
        go_wp2
        have A3g := A2g.setRow (wide.take 16)
        have hbg : Below w.heap.size w (Wf.drew.setRow (w.heap.size + 1 + 1) (arr (wide.take 16))) := below_setRow hbf.drew (by omega) _
        refine bodyPost_ret (res_arr2 rfl _ _ _ _ rfl A3g pl1) rfl ⟨wide, hwl, hwb.out, HVAL.out, ?_, hbg⟩
        rfl
      · refine wp_alloc_arr rfl ?_
        simp only [Act.put, List.setIfInBounds_toArray, List.set_cons_zero, List.set_cons_succ]
        refine hK _ _ (hS.alloc _) ?_
        clear hK K
        intro hS1
        refine nextL 6 rfl (by kernel_rfl) (by rfl) fun K hK => ?_
        refine wp_alloc_arr rfl ?_
        simp only [Act.put, List.setIfInBounds_toArray, List.set_cons_zero, List.set_cons_succ]
        refine hK _ _ (hS1.alloc _) ?_
        clear hK K hS1
        intro hS2
        obtain ⟨B0, B1, B2⟩ := arr_2 93 93 W (fit 0) (fit 0)
        have B1s := B1
        rw [← World.size_alloc W (.cells (arr (fit 0)) 93)] at B1s
        have hne : (W.alloc (.cells (arr (fit 0)) 93)).heap.size ≠ W.heap.size := by simp
        have hge : W.heap.size < (W.alloc (.cells (arr (fit 0)) 93)).heap.size := by simp
        have A2e := (A2d.alloc (.cells (arr (fit 0)) 93)).alloc (.cells (arr (fit 0)) 93)
        have hbe : Below w.heap.size w ((W.alloc (.cells (arr (fit 0)) 93)).alloc (.cells (arr (fit 0)) 93)) := hbd.trans (B2.mono (by omega))
        clear B1 B2
        refine nextL 8 rfl (by kernel_rfl) (by rfl) fun K hK => ?_
        refine wp_store_arr _ _ rfl (W.alloc (.cells (arr (fit 0)) 93)).heap.size (wide.take 16) rfl rfl pl1 (fit 0) B1s l0 ?_
        simp only [Act.put]
        refine hK _ _ (hS2.setRow_other _ (by omega)) ?_
        clear hK K hS2
        intro hS3
        refine nextL 9 rfl (by kernel_rfl) (by rfl) fun K hK => ?_
        refine wp_store_arr _ _ rfl W.heap.size (wide.drop 16) rfl rfl ph1 (fit 0) (B0.setRow_other _ (by omega)) l0 ?_
        simp only [Act.put]
        refine hK _ _ (hS3.setRow_other _ (by omega)) ?_
        clear hK K
        intro _
        have ALo := (B1s.setRow (wide.take 16)).setRow_other (k := W.heap.size) (arr (wide.drop 16)) (by omega)
        have AHi := (B0.setRow_other (k := (W.alloc (.cells (arr (fit 0)) 93)).heap.size) (arr (wide.take 16)) (by omega)).setRow (wide.drop 16)
        have A2f := (A2e.setRow_other (k := (W.alloc (.cells (arr (fit 0)) 93)).heap.size) (arr (wide.take 16)) (by omega)).setRow_other (k := W.heap.size) (arr (wide.drop 16)) (by omega)
        have hbf := below_setRow (below_setRow hbe (g := (W.alloc (.cells (arr (fit 0)) 93)).heap.size) (by omega) (arr (wide.take 16))) (g := W.heap.size) (by omega) (arr (wide.drop 16))
        have hgl : w.heap.size + 1 + 1 + 1 < (W.alloc (.cells (arr (fit 0)) 93)).heap.size := by omega
        have hgh : w.heap.size + 1 + 1 + 1 < W.heap.size := by omega
        refine wpAnyH_done (by kernel_rfl) ?_ _
        generalize ((((W.alloc (.cells (arr (fit 0)) 93)).alloc (.cells (arr (fit 0)) 93)).setRow (W.alloc (.cells (arr (fit 0)) 93)).heap.size (arr (wide.take 16))).setRow W.heap.size (arr (wide.drop 16))) = Wf at ALo AHi A2f hbf
        generalize (W.alloc (.cells (arr (fit 0)) 93)).heap.size = L1 at ALo AHi hgl hgh
        generalize W.heap.size = L0 at ALo AHi hgl hgh
        clear hS3 B0 B1s hne hge A2e hbe
        go_wp2
        refine wp_region_held_drew (S := fun w' => Arr w' L1 (wide.take 16) ∧ Arr w' L0 (wide.drop 16)) (by kernel_rfl) ⟨ALo, AHi⟩ ?_
        intro hS
        refine takeL 0 (.agg (arr (wide.take 16))) rfl (by kernel_rfl) (by kernel_rfl) (by kernel_rfl) (fun _ _ _ h => h) (yields_arr (by rfl) _ rfl L1 rfl (wide.take 16) (fun w h => h.1) pl1) hS ?_
        simp only [Act.put, List.setIfInBounds_toArray, List.set_cons_zero, List.set_cons_succ]
        refine takeL 1 (.agg (arr (wide.drop 16))) rfl (by kernel_rfl) (by kernel_rfl) (by kernel_rfl) (fun _ _ _ h => h) (yields_arr (by rfl) _ rfl L0 rfl (wide.drop 16) (fun w h => h.2) ph1) hS ?_
        simp only [Act.put, List.setIfInBounds_toArray, List.set_cons_zero, List.set_cons_succ]
        refine takeL 2 (.agg #[Value.int .i64 0, Value.int .i64 0, Value.int .i64 0, Value.int .i64 0, Value.int .i64 0, Value.int .i64 0, Value.int .i64 0, Value.int .i64 0, Value.int .i64 0, Value.int .i64 0, Value.int .i64 0, Value.int .i64 0, Value.int .i64 0, Value.int .i64 0, Value.int .i64 0, Value.int .i64 0]) rfl (by kernel_rfl) (by kernel_rfl) (by kernel_rfl) (fun _ _ _ h => h) (.inl ⟨by rfl, fun w _ => by kernel_rfl⟩) hS ?_
        simp only [Act.put, List.setIfInBounds_toArray, List.set_cons_zero, List.set_cons_succ]
        refine takeL 3 (.bool (decide (wide.drop 16 = fit 0))) rfl (by kernel_rfl) (by kernel_rfl) (by kernel_rfl) (fun _ _ _ h => h) (.inl ⟨by rfl, fun w _ => eql_exec rfl rfl rfl ph1 w⟩) hS ?_
        simp only [Act.put, List.setIfInBounds_toArray, List.set_cons_zero, List.set_cons_succ]
        refine nextL 4 rfl (by kernel_rfl) (by rfl) fun K hK => ?_
        have A2g : Arr Wf.drew (w.heap.size + 1 + 1) (fit 0) := A2f
        refine wp_store_arr _ _ rfl (w.heap.size + 1 + 1) (wide.take 16) rfl rfl pl1 (fit 0) A2g l0 ?_
        simp only [Act.put]
        refine hK _ _ ⟨hS.1.setRow_other _ (by omega), hS.2.setRow_other _ (by omega)⟩ ?_
        clear hK K
        intro hS
        refine takeL 5 (.bool (decide (wide.drop 16 = fit 0))) rfl (by kernel_rfl) (by kernel_rfl) (by kernel_rfl) (fun _ _ _ h => h) (.inl ⟨by rfl, fun w _ => by rfl⟩) hS ?_
        simp only [Act.put, List.setIfInBounds_toArray, List.set_cons_zero, List.set_cons_succ]
        refine wpAnyH_done (by kernel_rfl) ?_ _
        go_wp2
        have A3g := A2g.setRow (wide.take 16)
        have hbg : Below w.heap.size w (Wf.drew.setRow (w.heap.size + 1 + 1) (arr (wide.take 16))) := below_setRow hbf.drew (by omega) _
        refine bodyPost_ret (res_arr2 rfl _ _ _ _ rfl A3g pl1) rfl ⟨wide, hwl, hwb.out, HVAL.out, ?_, hbg⟩
        rfl

theorem times_any (m n : Nat) (w : World) (hm : m < top) (hn : n < top) :
    Calls Try.prog 84 #[fitV m, fitV n] w fun e w' => ∃ s, s < top ∧ e = .returned (.tuple #[fitV s, .bool (decide (m * n < top))]) ∧ (m * n < top → s = m * n) ∧ Below w.heap.size w w' := by
  refine (times_walk (fit m) (fit n) w (fit_len _) (fit_len _) (fit_lt _) (fit_lt _)).mono ?_
  rintro e w' ⟨wide, hl, hb, hv, rfl, hbel⟩
  rw [fit_val m hm, fit_val n hn, fit_times wide hl] at hv
  have pl := (part_low wide hl).1
  have ph := (part_high wide hl).1
  have hbl : ∀ l ∈ wide.take 16, l < 16777216 := fun l h => hb l (List.mem_of_mem_take h)
  have hbh : ∀ l ∈ wide.drop 16, l < 16777216 := fun l h => hb l (List.mem_of_mem_drop h)
  have ht := val_top (wide.take 16) pl hbl
  have hz : wide.drop 16 = fit 0 ↔ m * n < top := by
    constructor
    · intro h
      rw [h, fit_val 0 (by unfold top; omega)] at hv
      omega
    · intro h
      have h0 : val (wide.drop 16) = 0 := by
        rcases Nat.eq_zero_or_pos (val (wide.drop 16)) with h1 | h1
        · exact h1
        · have := Nat.le_mul_of_pos_right top h1; omega
      rw [fit_of (wide.drop 16) ph hbh, h0]
  refine ⟨val (wide.take 16), ht, ?_, ?_, hbel⟩
  · have hd : decide (wide.drop 16 = fit 0) = decide (m * n < top) := by simp only [hz]
    rw [hd]
    unfold fitV
    rw [← fit_of (wide.take 16) pl hbl]
  · intro h
    rw [hz.2 h, fit_val 0 (by unfold top; omega)] at hv
    omega
end Go.Proofs.Yteadkdllmeeocaa
/- Each numerator times the other one's denominator. -/
namespace Go.Proofs.Yteadkdllmeeocaa
open Go.RowKit
set_option maxRecDepth 100000

theorem reach_method (x : Value) (w : World) : (method 249 27 x "loop.example/g00477/impl.terms").run Try.prog w = .ok (113, x) w := by kernel_rfl

theorem times_yes {m n : Nat} (W : World) (h : m * n < top) (hm : m < top) (hn : n < top) :
    Calls Try.prog 84 #[fitV m, fitV n] W fun e w' => e = .returned (.tuple #[fitV (m * n), .bool true]) ∧ Below W.heap.size W w' := by
  refine (times_any m n W hm hn).mono ?_
  rintro e w' ⟨s, _, rfl, hs, hb⟩
  rw [hs h, decide_eq_true h]
  exact ⟨rfl, hb⟩

set_option maxHeartbeats 3200000 in
theorem across_any (a b c d : Nat) (w : World) (ha : a ≤ 4000000000000000) (hb : b ≤ 4000000000000000) (hc : c ≤ 4000000000000000) (hd : d ≤ 4000000000000000) :
    Calls Try.prog 66 #[frV a b, frV c d] w fun e w' => e = .returned (.tuple #[fitV (a * d), fitV (c * b)]) ∧ Below w.heap.size w w' := by
  have hr := reach_method
  have c1 := fun W => terms_any a b W (by omega) (by omega)
  have c2 := fun W => terms_any c d W (by omega) (by omega)
  have t1 := prod_top ha hd
  have t2 := prod_top hc hb
  have c3 := fun W => times_yes (m := a) (n := d) W (by unfold top; omega) (by unfold top; omega) (by unfold top; omega)
  have c4 := fun W => times_yes (m := c) (n := b) W (by unfold top; omega) (by unfold top; omega) (by unfold top; omega)
  generalize a * d = X at c3
  generalize c * b = Y at c4
  clear t1 t2 ha hb hc hd
  have la := fit_len a
  have lb := fit_len b
  have lc := fit_len c
  have ld := fit_len d
  have lX := fit_len X
  have lY := fit_len Y
  have l0 := fit_len 0
  unfold fitV at c1 c2 c3 c4 ⊢
  obtain ⟨F0, F1, B0⟩ := blk_2 27 27 w #[.int .i64 a, .int .i64 b] #[.int .i64 c, .int .i64 d]
  have F1 := (F1.alloc (.cells #[Value.int .i64 0, Value.int .i64 0, Value.int .i64 0, Value.int .i64 0, Value.int .i64 0, Value.int .i64 0, Value.int .i64 0, Value.int .i64 0, Value.int .i64 0, Value.int .i64 0, Value.int .i64 0, Value.int .i64 0, Value.int .i64 0, Value.int .i64 0, Value.int .i64 0, Value.int .i64 0] 93)).alloc (.cells #[Value.int .i64 0, Value.int .i64 0, Value.int .i64 0, Value.int .i64 0, Value.int .i64 0, Value.int .i64 0, Value.int .i64 0, Value.int .i64 0, Value.int .i64 0, Value.int .i64 0, Value.int .i64 0, Value.int .i64 0, Value.int .i64 0, Value.int .i64 0, Value.int .i64 0, Value.int .i64 0] 93)
  have B0 := (B0.alloc (o := .cells #[Value.int .i64 0, Value.int .i64 0, Value.int .i64 0, Value.int .i64 0, Value.int .i64 0, Value.int .i64 0, Value.int .i64 0, Value.int .i64 0, Value.int .i64 0, Value.int .i64 0, Value.int .i64 0, Value.int .i64 0, Value.int .i64 0, Value.int .i64 0, Value.int .i64 0, Value.int .i64 0] 93) (by simp; omega)).alloc (o := .cells #[Value.int .i64 0, Value.int .i64 0, Value.int .i64 0, Value.int .i64 0, Value.int .i64 0, Value.int .i64 0, Value.int .i64 0, Value.int .i64 0, Value.int .i64 0, Value.int .i64 0, Value.int .i64 0, Value.int .i64 0, Value.int .i64 0, Value.int .i64 0, Value.int .i64 0, Value.int .i64 0] 93) (by simp; omega)
  have A4 := ((Blk.new 93 ((w.alloc (.cells #[.int .i64 a, .int .i64 b] 27)).alloc (.cells #[.int .i64 c, .int .i64 d] 27)) #[Value.int .i64 0, Value.int .i64 0, Value.int .i64 0, Value.int .i64 0, Value.int .i64 0, Value.int .i64 0, Value.int .i64 0, Value.int .i64 0, Value.int .i64 0, Value.int .i64 0, Value.int .i64 0, Value.int .i64 0, Value.int .i64 0, Value.int .i64 0, Value.int .i64 0, Value.int .i64 0]).alloc (.cells #[Value.int .i64 0, Value.int .i64 0, Value.int .i64 0, Value.int .i64 0, Value.int .i64 0, Value.int .i64 0, Value.int .i64 0, Value.int .i64 0, Value.int .i64 0, Value.int .i64 0, Value.int .i64 0, Value.int .i64 0, Value.int .i64 0, Value.int .i64 0, Value.int .i64 0, Value.int .i64 0] 93))
  have A5 := Blk.new 93 (((w.alloc (.cells #[.int .i64 a, .int .i64 b] 27)).alloc (.cells #[.int .i64 c, .int .i64 d] 27)).alloc (.cells #[Value.int .i64 0, Value.int .i64 0, Value.int .i64 0, Value.int .i64 0, Value.int .i64 0, Value.int .i64 0, Value.int .i64 0, Value.int .i64 0, Value.int .i64 0, Value.int .i64 0, Value.int .i64 0, Value.int .i64 0, Value.int .i64 0, Value.int .i64 0, Value.int .i64 0, Value.int .i64 0] 93)) #[Value.int .i64 0, Value.int .i64 0, Value.int .i64 0, Value.int .i64 0, Value.int .i64 0, Value.int .i64 0, Value.int .i64 0, Value.int .i64 0, Value.int .i64 0, Value.int .i64 0, Value.int .i64 0, Value.int .i64 0, Value.int .i64 0, Value.int .i64 0, Value.int .i64 0, Value.int .i64 0]
  simp only [World.size_alloc] at A4 A5
  go_enter Try.func66, Try.ntmps66
  go_wp2_with fail
  have e1 := (c1 ((((w.alloc (.cells #[.int .i64 a, .int .i64 b] 27)).alloc (.cells #[.int .i64 c, .int .i64 d] 27)).alloc (.cells #[Value.int .i64 0, Value.int .i64 0, Value.int .i64 0, Value.int .i64 0, Value.int .i64 0, Value.int .i64 0, Value.int .i64 0, Value.int .i64 0, Value.int .i64 0, Value.int .i64 0, Value.int .i64 0, Value.int .i64 0, Value.int .i64 0, Value.int .i64 0, Value.int .i64 0, Value.int .i64 0] 93)).alloc (.cells #[Value.int .i64 0, Value.int .i64 0, Value.int .i64 0, Value.int .i64 0, Value.int .i64 0, Value.int .i64 0, Value.int .i64 0, Value.int .i64 0, Value.int .i64 0, Value.int .i64 0, Value.int .i64 0, Value.int .i64 0, Value.int .i64 0, Value.int .i64 0, Value.int .i64 0, Value.int .i64 0] 93)))
  generalize ((((w.alloc (.cells #[.int .i64 a, .int .i64 b] 27)).alloc (.cells #[.int .i64 c, .int .i64 d] 27)).alloc (.cells #[Value.int .i64 0, Value.int .i64 0, Value.int .i64 0, Value.int .i64 0, Value.int .i64 0, Value.int .i64 0, Value.int .i64 0, Value.int .i64 0, Value.int .i64 0, Value.int .i64 0, Value.int .i64 0, Value.int .i64 0, Value.int .i64 0, Value.int .i64 0, Value.int .i64 0, Value.int .i64 0] 93)).alloc (.cells #[Value.int .i64 0, Value.int .i64 0, Value.int .i64 0, Value.int .i64 0, Value.int .i64 0, Value.int .i64 0, Value.int .i64 0, Value.int .i64 0, Value.int .i64 0, Value.int .i64 0, Value.int .i64 0, Value.int .i64 0, Value.int .i64 0, Value.int .i64 0, Value.int .i64 0, Value.int .i64 0] 93)) = W at e1 F1 B0 A4 A5
  refine e1.mono ?_
  clear e1 c1 F0
  rintro e w1 ⟨rfl, hb1⟩
  have F1 := F1.below hb1
  have A4 := A4.below hb1
  have A5 := A5.below hb1
  have B1 := B0.trans (hb1.mono B0.size)
  have hq1 := A5.lt
  clear hb1 B0
  obtain ⟨P1, P2, hb2⟩ := arr_2 93 93 w1 (fit a) (fit b)
  have F1 := F1.below hb2
  have A4 := A4.below hb2
  have A5 := A5.below hb2
  have B2 := B1.trans (hb2.mono B1.size)
  have f0 := FrT.c0 F1
  have f1 := FrT.c1 F1
  go_wp2_with (first | (with_reducible refine wp_arr_init2 rfl _ _ rfl ?_; refine ⟨_, rfl, rfl, fit a, rfl, la, ?_⟩) | (with_reducible refine wp_arr_init rfl _ _ rfl ?_; refine ⟨_, rfl, by simp, fit b, rfl, lb, ?_⟩))
  have e2 := c2 ((w1.alloc (.cells (arr (fit a)) 93)).alloc (.cells (arr (fit b)) 93))
  obtain ⟨p, hp⟩ : ∃ p, w1.heap.size = p := ⟨_, rfl⟩
  have hp1 : w.heap.size + 1 + 1 + 1 < p := by rw [← hp]; exact hq1
  rw [hp] at P1 P2 ⊢
  generalize (w1.alloc (.cells (arr (fit a)) 93)).alloc (.cells (arr (fit b)) 93) = W1 at e2 F1 A4 A5 P1 P2 B2
  clear f0 f1 hb2 B1 hp hq1
  refine e2.mono ?_
  clear e2 c2
  rintro e w2 ⟨rfl, hb1⟩
  have A4 := A4.below hb1
  have A5 := A5.below hb1
  have P1 := P1.below hb1
  have P2 := P2.below hb1
  have B3 := B2.trans (hb1.mono B2.size)
  clear hb1 B2 F1
  obtain ⟨Q1, Q2, hb2⟩ := arr_2 93 93 w2 (fit c) (fit d)
  have A4 := A4.below hb2
  have A5 := A5.below hb2
  have P1 := P1.below hb2
  have P2 := P2.below hb2
  have B4 := B3.trans (hb2.mono B3.size)
  go_wp2_with (first | (with_reducible refine wp_arr_init2 rfl _ _ rfl ?_; refine ⟨_, rfl, rfl, fit c, rfl, lc, ?_⟩) | (with_reducible refine wp_arr_init rfl _ _ rfl ?_; refine ⟨_, rfl, by simp, fit d, rfl, ld, ?_⟩) | (with_reducible refine wp_arr_load rfl _ rfl ?_; first | (refine ⟨p, rfl, fit a, P1, la, ?_⟩) | (refine ⟨w2.heap.size + 1, rfl, fit d, Q2, ld, ?_⟩)))
  have e3 := c3 ((w2.alloc (.cells (arr (fit c)) 93)).alloc (.cells (arr (fit d)) 93))
  obtain ⟨q, hq⟩ : ∃ q, w2.heap.size = q := ⟨_, rfl⟩
  rw [hq] at Q1 Q2 ⊢
  generalize (w2.alloc (.cells (arr (fit c)) 93)).alloc (.cells (arr (fit d)) 93) = W2 at e3 A4 A5 P1 P2 Q1 Q2 B4
  clear hb2 B3 hq
  refine e3.mono ?_
  clear e3 c3
  rintro e w3 ⟨rfl, hb1⟩
  have A4 := A4.below hb1
  have A5 := A5.below hb1
  have P2 := P2.below hb1
  have Q1 := Q1.below hb1
  have B5 := B4.trans (hb1.mono B4.size)
  clear hb1 B4 P1 Q2
  obtain ⟨R1, hb2⟩ := arr_1 93 w3 (fit X)
  have hq3 := A5.lt
  have A4 := A4.below hb2
  have A5 := A5.below hb2
  have P2 := P2.below hb2
  have Q1 := Q1.below hb2
  have B6 := B5.trans (hb2.mono B5.size)
  go_wp2_with (first | (with_reducible refine wp_arr_init rfl _ _ rfl ?_; refine ⟨_, rfl, rfl, fit X, rfl, lX, ?_⟩) | (with_reducible refine wp_arr_load rfl _ rfl ?_; first | (refine ⟨q, rfl, fit c, Q1, lc, ?_⟩) | (refine ⟨p + 1, rfl, fit b, P2, lb, ?_⟩)))
  have e4 := c4 (w3.alloc (.cells (arr (fit X)) 93))
  obtain ⟨r, hr1⟩ : ∃ r, w3.heap.size = r := ⟨_, rfl⟩
  rw [hr1] at R1 hq3 ⊢
  generalize w3.alloc (.cells (arr (fit X)) 93) = W3 at e4 A4 A5 P2 Q1 R1 B6
  clear hb2 B5 hr1
  refine e4.mono ?_
  clear e4 c4
  rintro e w4 ⟨rfl, hb1⟩
  have A4 := A4.below hb1
  have A5 := A5.below hb1
  have R1 := R1.below hb1
  have B7 := B6.trans (hb1.mono B6.size)
  clear hb1 B6 P2 Q1
  obtain ⟨T1, hb2⟩ := arr_1 93 w4 (fit Y)
  have hq4 := A5.lt
  have A4 := A4.below hb2
  have A5 := A5.below hb2
  have R1 := R1.below hb2
  have B8 := B7.trans (hb2.mono B7.size)
  go_wp2_with (with_reducible refine wp_arr_init rfl _ _ rfl ?_; refine ⟨_, rfl, rfl, fit Y, rfl, lY, ?_⟩)
  obtain ⟨t, ht⟩ : ∃ t, w4.heap.size = t := ⟨_, rfl⟩
  rw [ht] at T1 hq4 ⊢
  generalize w4.alloc (.cells (arr (fit Y)) 93) = W4 at A4 A5 R1 T1 B8
  clear hb2 B7 ht
  rw [zero_cells] at A4 A5
  have A4 : Arr W4.drew (w.heap.size + 1 + 1) (fit 0) := A4
  have A5 : Arr W4.drew (w.heap.size + 1 + 1 + 1) (fit 0) := A5
  have B8 := B8.drew
  generalize fit 0 = z0 at A4 A5 l0
  generalize hxs : fit X = xs at R1 lX
  generalize hys : fit Y = ys at T1 lY
  refine wp_region_held_drew (S := fun w' => Arr w' r xs ∧ Arr w' t ys) (by kernel_rfl) ⟨R1, T1⟩ ?_
  intro hS
  refine takeL 0 (.agg (arr xs)) rfl (by kernel_rfl) (by kernel_rfl) (by kernel_rfl) (fun _ _ _ h => h) (yields_arr (by rfl) _ rfl r rfl xs (fun w h => h.1) lX) hS ?_
  simp only [Act.put, List.setIfInBounds_toArray, List.set_cons_zero, List.set_cons_succ]
  refine takeL 1 (.agg (arr ys)) rfl (by kernel_rfl) (by kernel_rfl) (by kernel_rfl) (fun _ _ _ h => h) (yields_arr (by rfl) _ rfl t rfl ys (fun w h => h.2) lY) hS ?_
  simp only [Act.put, List.setIfInBounds_toArray, List.set_cons_zero, List.set_cons_succ]
  refine nextL 2 rfl (by kernel_rfl) (by rfl) fun K hK => ?_
  refine wp_store_arr _ _ rfl (w.heap.size + 1 + 1) xs rfl rfl lX z0 A4 l0 ?_
  simp only [Act.put]
  refine hK _ _ ⟨hS.1.setRow_other _ (by omega), hS.2.setRow_other _ (by omega)⟩ ?_
  clear hK K
  intro hS
  refine nextL 3 rfl (by kernel_rfl) (by rfl) fun K hK => ?_
  refine wp_store_arr _ _ rfl (w.heap.size + 1 + 1 + 1) ys rfl rfl lY z0 (A5.setRow_other _ (by omega)) l0 ?_
  simp only [Act.put]
  refine hK _ _ ⟨hS.1.setRow_other _ (by omega), hS.2.setRow_other _ (by omega)⟩ ?_
  clear hK K
  intro hS
  refine wpAnyH_done (by kernel_rfl) ?_ _
  go_wp2
  exact bodyPost_ret (res_arr22 rfl _ _ _ _ _ _ rfl rfl ((A4.setRow xs).setRow_other _ (by omega)) lX ((A5.setRow_other _ (by omega)).setRow ys) lY) rfl ⟨by rw [hxs, hys], below_setRow (below_setRow B8 (by omega) _) (by omega) _⟩
end Go.Proofs.Yteadkdllmeeocaa
/- Which of two great numbers inside is greater. -/
namespace Go.Proofs.Yteadkdllmeeocaa
open Go.RowKit
set_option maxRecDepth 100000

theorem nan_any (x : Int) (w : World) : Calls Try.prog 93 #[.int .i64 x] w fun e w' => e = .returned (.bool false) ∧ w' = w := by
  go_enter Try.func93, Try.ntmps93
  go_wp2
  go_ret
  exact ⟨by simp, rfl⟩

def cmpZ (x y : Int) : Int := if x < y then -1 else if y < x then 1 else 0
theorem compare_any (x y : Int) (w : World) : Calls Try.prog 85 #[.int .i64 x, .int .i64 y] w fun e w' => e = .returned (.int .i64 (cmpZ x y)) ∧ w' = w := by
  unfold cmpZ
  by_cases h1 : x < y
  · rw [if_pos h1]
    go_enter Try.func85, Try.ntmps85
    go_wp2_with (go_at_call 93; refine (nan_any _ _).mono ?_; rintro e w' ⟨rfl, rfl⟩)
    go_ret
    exact ⟨rfl, rfl⟩
  · rw [if_neg h1]
    by_cases h2 : y < x
    · rw [if_pos h2]
      go_enter Try.func85, Try.ntmps85
      go_wp2_with (go_at_call 93; refine (nan_any _ _).mono ?_; rintro e w' ⟨rfl, rfl⟩)
      go_ret
      exact ⟨rfl, rfl⟩
    · rw [if_neg h2]
      go_enter Try.func85, Try.ntmps85
      go_wp2_with (go_at_call 93; refine (nan_any _ _).mono ?_; rintro e w' ⟨rfl, rfl⟩)
      go_ret
      exact ⟨rfl, rfl⟩

theorem ret_i64 {a b : Int} (h : a = b) : Ending.returned (.int .i64 a) = .returned (.int .i64 b) := by rw [h]

set_option maxHeartbeats 800000 in
theorem cmp_same (xs : List Nat) (w : World) (hx : xs.length = 16) :
    Calls Try.prog 67 #[.agg (arr xs), .agg (arr xs)] w fun e w' => e = .returned (.int .i64 0) ∧ Below w.heap.size w w' := by
  obtain ⟨a0, a1, b0⟩ := arr_2 93 93 w xs xs
  have hg := guard_limbs
  have he := fun w => arr_eql xs xs hx hx w
  simp only [decide_true] at he
  go_enter Try.func67, Try.ntmps67
  go_wp2_with (with_reducible refine wp_arr_load rfl _ rfl ?_; first | (refine ⟨w.heap.size, rfl, xs, a0, hx, ?_⟩) | (refine ⟨w.heap.size + 1, rfl, xs, a1, hx, ?_⟩))
  go_ret
  exact ⟨rfl, b0⟩

set_option maxHeartbeats 800000 in
theorem cmp_diff (xs ys : List Nat) (w : World) (hx : xs.length = 16) (hy : ys.length = 16) (hne : xs ≠ ys) (hxl : ∀ l ∈ xs, l < 16777216) (hyl : ∀ l ∈ ys, l < 16777216) :
    Calls Try.prog 67 #[.agg (arr xs), .agg (arr ys)] w fun e w' => e = .returned (.int .i64 (cmpN (val xs) (val ys))) ∧ Below w.heap.size w w' := by
  obtain ⟨a0, a1, b0⟩ := arr_2 93 93 w xs ys
  have hg := guard_limbs
  have he := fun w => arr_eql xs ys hx hy w
  rw [show decide (xs = ys) = false from decide_eq_false hne] at he
  have HX : Hid (xs.length = 16) := hx
  have HXL : Hid (∀ l ∈ xs, l < 16777216) := hxl
  have HYL : Hid (∀ l ∈ ys, l < 16777216) := hyl
  have HNE : Hid (xs ≠ ys) := hne
  have HY : Hid (ys.length = 16) := hy
  go_enter Try.func67, Try.ntmps67
  go_wp2_with (with_reducible refine wp_arr_load rfl _ rfl ?_; first | (refine ⟨w.heap.size, rfl, xs, a0, hx, ?_⟩) | (refine ⟨w.heap.size + 1, rfl, ys, a1, hy, ?_⟩))
  clear hne hxl hyl he hg
  go_loopw [5] (fun i wr => ∃ k : Nat, i = .int .i64 k ∧ k < 16 ∧ Hid (∀ j, k < j → j < 16 → xs.getD j 0 = ys.getD j 0) ∧ Arr wr w.heap.size xs ∧ Arr wr (w.heap.size + 1) ys ∧ Below w.heap.size w wr) (fun i _ => (intOf i).toNat)
  case atStart => exact ⟨15, rfl, by omega, fun j h1 h2 => by omega, a0, a1, b0⟩
  case round =>
    obtain ⟨k, rfl, hk, hall, A0, A1, hb⟩ := hrel
    clear a0 a1 b0
    have hc0 := A0.cell k (by omega)
    have hc1 := A1.cell k (by omega)
    generalize hX : xs.getD k 0 = X at hc0
    generalize hY : ys.getD k 0 = Y at hc1
    have HX1 : Hid (xs.getD k 0 = X) := hX
    have HY1 : Hid (ys.getD k 0 = Y) := hY
    clear hX hY hx hy
    by_cases e : X = Y
    · subst e
      have hk0 : 0 < k := by
        rcases Nat.eq_zero_or_pos k with h0 | h0
        · exfalso
          subst h0
          apply HNE.out
          have hx := HX.out
          have hy := HY.out
          apply List.ext_getElem
          · omega
          · intro i g1 g2
            have : xs.getD i 0 = ys.getD i 0 := by
              rcases Nat.eq_zero_or_pos i with h1 | h1
              · subst h1; rw [HX1.out, HY1.out]
              · exact hall.out i h1 (by omega)
            rw [List.getD_eq_getElem?_getD, List.getD_eq_getElem?_getD, List.getElem?_eq_getElem g1, List.getElem?_eq_getElem g2] at this
            exact this
        · exact h0
      go_wp2
      go_quiet (fail)
      all_goals go_wp2
      all_goals go_roundw
      case rel =>
        refine ⟨k - 1, by go_num, by omega, fun j h1 h2 => ?_, A0, A1, below_drewN hb _⟩
        by_cases e : j = k
        · subst e; rw [HX1.out, HY1.out]
        · exact hall.out j (by omega) h2
      case measure => simp [intOf]; omega
    · have heq : ((X : Int) == (Y : Int)) = false := by rw [beq_eq_false_iff_ne]; omega
      have hfin : cmpZ X Y = cmpN (val xs) (val ys) := by
        have hx := HX.out
        have hy := HY.out
        unfold cmpZ cmpN
        rcases Nat.lt_or_gt_of_ne e with h | h
        · have := val_cmp xs ys k (by omega) (by omega) HXL.out HYL.out (fun j h1 h2 => hall.out j h1 (by omega)) (by rw [HX1.out, HY1.out]; exact h)
          rw [if_pos (by omega), if_pos this]
        · have := val_cmp ys xs k (by omega) (by omega) HYL.out HXL.out (fun j h1 h2 => (hall.out j h1 (by omega)).symm) (by rw [HX1.out, HY1.out]; exact h)
          rw [if_neg (by omega), if_pos (by omega), if_neg (by omega), if_neg (by omega)]
      have HFI : Hid (cmpZ X Y = cmpN (val xs) (val ys)) := hfin
      clear hfin
      go_wp2
      go_quiet (fail)
      all_goals go_wp2
      have hd0 : (wr.drewN nq).cell? ⟨w.heap.size, k, none⟩ = some (.int .i64 (X : Int)) := hc0
      have hd1 : (wr.drewN nq).cell? ⟨w.heap.size + 1, k, none⟩ = some (.int .i64 (Y : Int)) := hc1
      have hb2 := below_drewN hb nq
      generalize wr.drewN nq = wq at hd0 hd1 hb2
      go_quiet (first | (go_at_call 85; refine Calls.quiet_of_same (compare_any _ _ _)))
      all_goals go_wp2
      go_ret
      exact ⟨ret_i64 HFI.out, below_drewN hb2 _⟩

theorem cmp_any (m n : Nat) (w : World) (hm : m < top) (hn : n < top) :
    Calls Try.prog 67 #[fitV m, fitV n] w fun e w' => e = .returned (.int .i64 (cmpN m n)) ∧ Below w.heap.size w w' := by
  by_cases h : m = n
  · subst h
    have : cmpN m m = 0 := by unfold cmpN; rw [if_neg (by omega), if_pos rfl]
    rw [this]
    exact cmp_same (fit m) w (fit_len m)
  · have := cmp_diff (fit m) (fit n) w (fit_len m) (fit_len n) (fun e => h (by rw [← fit_val m hm, ← fit_val n hn, e])) (fit_lt m) (fit_lt n)
    rw [fit_val m hm, fit_val n hn] at this
    exact this
end Go.Proofs.Yteadkdllmeeocaa
