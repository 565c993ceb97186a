/- For every schema, all counts, every question and every number of a branch the exact law of BranchTotals returns true: the program answers the weights that the specification answers, nothing is written into the arguments, the answer is new memory and a second call gives it anew. No condition. -/
import Derived.Test.YtobimpgapfecoabRows
import Derived.WalkKit
import Derived.ProofKit
import Derived.OpenShut
import Derived.Test.YtobimpgapfecoabBranchTotalsPack6
import Derived.Test.YtobimpgapfecoabBranchTotalsPack7
import Derived.Test.YtobimpgapfecoabBranchTotalsPack9
import Derived.Test.YtobimpgapfecoabBranchTotalsPack10
import Derived.Test.YtobimpgapfecoabBranchTotalsPack13
import Derived.Test.YtobimpgapfecoabBranchTotalsPack11
import Derived.Test.YtobimpgapfecoabBranchTotalsPack22
import Derived.Test.YtobimpgapfecoabBranchTotalsPack25
namespace Go.Proofs.Ytobimpgapfecoab.fnExactBranchTotals
open Go.ChangeShapes Go.WideShapes Go.ChangeAt Go.RowKit
set_option linter.unusedVariables false

theorem own : ownKnob Try.prog.godebug = none := by kernel_rfl
theorem laidOut : laidOutB Try.prog = true := by kernel_rfl

theorem in_sp {base n c : Nat} {w : World} {va vc : Value} {L : Nat → Value × Value} {ys zs : List Value} {ls : List AttrD} (h : SepL base w va L ys ls n) (hc : w.ownsRow base 9 1 vc c zs) : ∀ k, InS va vc L n k → base ≤ k ∧ k < w.heap.size := by
  intro k hk
  rcases hk with (hk | ⟨j, hj, hk | hk⟩) | hk
  · exact h.row.lt k hk
  · exact (h.ints j hj).lt k hk
  · exact (h.strs j hj).lt k hk
  · exact hc.lt k hk
theorem mkK_bound {k0 M : Nat} {p q : Nat → Nat} : ∀ n, (∀ j, j < n → p j ≤ M ∧ q j ≤ M) → mkK k0 p q n ≤ k0 + n * (1 + 2 * M)
  | 0, _ => by simp [mkK]
  | n + 1, h => by
    have h1 := mkK_bound (k0 := k0) (M := M) (p := p) (q := q) n fun j hj => h j (by omega)
    have h2 := h n (by omega)
    simp only [mkK]
    rw [Nat.add_mul]
    omega
theorem fit_mark {a : SchemaD} (h : fitS a) : mkK 1 (pOf a.attrs) (qOf a.attrs) a.attrs.length ≤ 17592186044416 := by
  have h1 := mkK_bound (k0 := 1) (M := 1048576) (p := pOf a.attrs) (q := qOf a.attrs) a.attrs.length fun j hj => ⟨(h.each _ (ad_mem hj)).cuts, (h.each _ (ad_mem hj)).vals⟩
  have h2 := Nat.mul_le_mul_right (1 + 2 * 1048576) h.attrs
  omega

set_option maxRecDepth 100000 in
set_option maxHeartbeats 6400000 in
set_option linter.unusedSimpArgs false in
theorem walk (v0 : Value) (a0 : SchemaD) (v1 : Value) (a1 : StatsD) (a2 : ForkD) (a3 : Int) (w : World) (ha0 : SchemaAt w v0 a0) (hi0 : inS a0) (ha1 : StatsAt w v1 a1) (hi1 : inSt a1) (_ : -9223372036854775808 ≤ a2.attr ∧ a2.attr ≤ 9223372036854775807) (_ : -9223372036854775808 ≤ a2.pos ∧ a2.pos ≤ 9223372036854775807) (_ : -9223372036854775808 ≤ a3) (_ : a3 ≤ 9223372036854775807) :
    Calls Try.prog 7 #[v0, v1, forkV a2, .int .i64 a3] w fun e w' => e = .returned (.bool true) ∧ Below w.heap.size w w' := by
  have HHA0 : Hid (∀ W, Below w.heap.size w W → SchemaAt W v0 a0) := fun W h => ha0.later h
  obtain ⟨y1, y2, rfl, rr1, rr2⟩ := id ha0
  obtain ⟨o01, c01, rfl, -, -⟩ := id rr1
  obtain ⟨o02, c02, rfl, -, -⟩ := id rr2
  clear rr1 rr2
  have HC0 : Hid (∀ W (r : Int) (_ : 0 ≤ r) (_ : r ≤ 1048576) (_ : Below w.heap.size w W), Calls Try.prog 8 #[.agg #[.slice o01 a0.attrs.length c01, .slice o02 a0.classes.length c02], .int .i64 r] W fun e w' => ∃ r' : Int, e = .returned (.int .i64 r') ∧ ((0 ≤ r' ∧ r' ≤ r ∧ fitS a0) ∨ r' = -1) ∧ Below W.heap.size W w') := fun W r h0 h1 hW => szSchema_row _ a0 r W (ha0.later hW) hi0 h0 h1
  have HHA1 : Hid (∀ W, Below w.heap.size w W → StatsAt W v1 a1) := fun W h => ha1.later h
  obtain ⟨y1, y2, rfl, rr1, rr2⟩ := id ha1
  obtain ⟨o11, c11, rfl, -, -⟩ := id rr1
  obtain ⟨o12, c12, rfl, -, -⟩ := id rr2
  clear rr1 rr2
  have HC1 : Hid (∀ W (r : Int) (_ : 0 ≤ r) (_ : r ≤ 1048576) (_ : Below w.heap.size w W), Calls Try.prog 9 #[.agg #[.slice o11 a1.totals.length c11, .slice o12 a1.cells.length c12], .int .i64 r] W fun e w' => ∃ r' : Int, e = .returned (.int .i64 r') ∧ ((0 ≤ r' ∧ r' ≤ r ∧ fitSt a1) ∨ r' = -1) ∧ Below W.heap.size W w') := fun W r h0 h1 hW => szStats_row _ a1 r W (ha1.later hW) hi1 h0 h1
  unfold forkV
  clear ha0 hi0 ha1 hi1
  obtain ⟨KA0, KA1, KA2, B⟩ := blk_3 25 29 58 w #[.slice o01 a0.attrs.length c01, .slice o02 a0.classes.length c02] #[.slice o11 a1.totals.length c11, .slice o12 a1.cells.length c12] #[.int .i64 a2.attr, .int .i64 a2.pos]
  go_enter Try.func7, Try.ntmps7
  have zA : w.heap.size + 1 + 1 + 1 ≤ (((w.alloc (.cells #[.slice o01 a0.attrs.length c01, .slice o02 a0.classes.length c02] 25)).alloc (.cells #[.slice o11 a1.totals.length c11, .slice o12 a1.cells.length c12] 29)).alloc (.cells #[.int .i64 a2.attr, .int .i64 a2.pos] 58)).heap.size := by simp
  have kKA00 : (((w.alloc (.cells #[.slice o01 a0.attrs.length c01, .slice o02 a0.classes.length c02] 25)).alloc (.cells #[.slice o11 a1.totals.length c11, .slice o12 a1.cells.length c12] 29)).alloc (.cells #[.int .i64 a2.attr, .int .i64 a2.pos] 58)).cell? ⟨w.heap.size, 0, none⟩ = some (.slice o01 a0.attrs.length c01) := KA0.cell 0
  have kKA01 : (((w.alloc (.cells #[.slice o01 a0.attrs.length c01, .slice o02 a0.classes.length c02] 25)).alloc (.cells #[.slice o11 a1.totals.length c11, .slice o12 a1.cells.length c12] 29)).alloc (.cells #[.int .i64 a2.attr, .int .i64 a2.pos] 58)).cell? ⟨w.heap.size, 1, none⟩ = some (.slice o02 a0.classes.length c02) := KA0.cell 1
  have kKA10 : (((w.alloc (.cells #[.slice o01 a0.attrs.length c01, .slice o02 a0.classes.length c02] 25)).alloc (.cells #[.slice o11 a1.totals.length c11, .slice o12 a1.cells.length c12] 29)).alloc (.cells #[.int .i64 a2.attr, .int .i64 a2.pos] 58)).cell? ⟨w.heap.size + 1, 0, none⟩ = some (.slice o11 a1.totals.length c11) := KA1.cell 0
  have kKA11 : (((w.alloc (.cells #[.slice o01 a0.attrs.length c01, .slice o02 a0.classes.length c02] 25)).alloc (.cells #[.slice o11 a1.totals.length c11, .slice o12 a1.cells.length c12] 29)).alloc (.cells #[.int .i64 a2.attr, .int .i64 a2.pos] 58)).cell? ⟨w.heap.size + 1, 1, none⟩ = some (.slice o12 a1.cells.length c12) := KA1.cell 1
  have kKA20 : (((w.alloc (.cells #[.slice o01 a0.attrs.length c01, .slice o02 a0.classes.length c02] 25)).alloc (.cells #[.slice o11 a1.totals.length c11, .slice o12 a1.cells.length c12] 29)).alloc (.cells #[.int .i64 a2.attr, .int .i64 a2.pos] 58)).cell? ⟨w.heap.size + 1 + 1, 0, none⟩ = some (.int .i64 a2.attr) := KA2.cell 0
  have kKA21 : (((w.alloc (.cells #[.slice o01 a0.attrs.length c01, .slice o02 a0.classes.length c02] 25)).alloc (.cells #[.slice o11 a1.totals.length c11, .slice o12 a1.cells.length c12] 29)).alloc (.cells #[.int .i64 a2.attr, .int .i64 a2.pos] 58)).cell? ⟨w.heap.size + 1 + 1, 1, none⟩ = some (.int .i64 a2.pos) := KA2.cell 1
  go_wp2_with fail
  refine (HC0.out _ 1048576 (by omega) (by omega) B).mono ?_
  clear HC0
  clear kKA00 kKA01 kKA10 kKA11 kKA20 kKA21
  rintro e w1 ⟨r0, rfl, hr, hb⟩
  replace B := B.trans (hb.mono B.size)
  replace zA := Nat.le_trans zA hb.size
  replace KA0 := KA0.below hb
  replace KA1 := KA1.below hb
  replace KA2 := KA2.below hb
  clear hb
  rcases hr with ⟨r00, r01, hf⟩ | rfl
  rotate_left
  · go_wp2
    go_ret
    exact ⟨rfl, B⟩
  have HF0 : Hid (fitS a0) := hf
  clear hf
  have r0n : ¬ r0 < 0 := by omega
  have kKA00 : w1.cell? ⟨w.heap.size, 0, none⟩ = some (.slice o01 a0.attrs.length c01) := KA0.cell 0
  have kKA01 : w1.cell? ⟨w.heap.size, 1, none⟩ = some (.slice o02 a0.classes.length c02) := KA0.cell 1
  have kKA10 : w1.cell? ⟨w.heap.size + 1, 0, none⟩ = some (.slice o11 a1.totals.length c11) := KA1.cell 0
  have kKA11 : w1.cell? ⟨w.heap.size + 1, 1, none⟩ = some (.slice o12 a1.cells.length c12) := KA1.cell 1
  have kKA20 : w1.cell? ⟨w.heap.size + 1 + 1, 0, none⟩ = some (.int .i64 a2.attr) := KA2.cell 0
  have kKA21 : w1.cell? ⟨w.heap.size + 1 + 1, 1, none⟩ = some (.int .i64 a2.pos) := KA2.cell 1
  go_wp2_with fail
  refine (HC1.out _ r0 r00 (by omega) B).mono ?_
  clear HC1
  clear kKA00 kKA01 kKA10 kKA11 kKA20 kKA21
  rintro e w2 ⟨r1, rfl, hr, hb⟩
  replace B := B.trans (hb.mono B.size)
  replace zA := Nat.le_trans zA hb.size
  replace KA0 := KA0.below hb
  replace KA1 := KA1.below hb
  replace KA2 := KA2.below hb
  clear hb
  rcases hr with ⟨r10, r11, hf⟩ | rfl
  rotate_left
  · go_wp2
    go_ret
    exact ⟨rfl, B⟩
  have HF1 : Hid (fitSt a1) := hf
  clear hf
  have r1n : ¬ r1 < 0 := by omega
  have HI : Hid (∀ W v0 v1 (_ : Below w.heap.size w W) (_ : SchemaAt W v0 a0) (_ : StatsAt W v1 a1), Calls Try.prog 31 #[v0, v1, .agg #[.int .i64 a2.attr, .int .i64 a2.pos], .int .i64 a3] W fun e w' => ∃ v, e = .returned v ∧ w'.ownsRow W.heap.size 3 1 v (branchTotals a0 a1 a2 a3).length ((branchTotals a0 a1 a2 a3).map (Value.int .i64)) ∧ Below W.heap.size W w') := fun W v0 v1 hW h0 h1 => (implBranchTotals_any v0 v1 a0 a1 a2 a3 W h0 h1 HF0.out.ok HF1.out.ok).mono fun e w' h => by obtain ⟨v, h1, h2⟩ := h; exact ⟨v, h1, h2.1, h2.2⟩
  have HSP : Hid (∀ W v0 v1 (_ : Below w.heap.size w W) (_ : SchemaAt W v0 a0) (_ : StatsAt W v1 a1), Calls Try.prog 29 #[v0, v1, .agg #[.int .i64 a2.attr, .int .i64 a2.pos], .int .i64 a3] W fun e w' => ∃ v, e = .returned v ∧ w'.ownsRow W.heap.size 3 1 v (branchTotals a0 a1 a2 a3).length ((branchTotals a0 a1 a2 a3).map (Value.int .i64)) ∧ Below W.heap.size W w') := fun W v0 v1 hW h0 h1 => (specBranchTotals_any v0 v1 a0 a1 a2 a3 W h0 h1 HF0.out.ok HF1.out.ok).mono fun e w' h => by obtain ⟨v, h1, h2⟩ := h; exact ⟨v, h1, h2.1, h2.2⟩
  have hfG : (branchTotals a0 a1 a2 a3).length ≤ 1099511627776 := totals_len a0 a1 a2 a3 HF0.out.classes
  generalize branchTotals a0 a1 a2 a3 = G at HI HSP hfG
  have HTL0 : Hid (∀ W, Below w.heap.size w W → Calls Try.prog 12 #[.agg #[.slice o01 a0.attrs.length c01, .slice o02 a0.classes.length c02]] W fun e w' => ∃ v, e = .returned v ∧ SchemaAt w' v a0 ∧ Below W.heap.size W w') := fun W hW => (toSchema_row _ a0 W (HHA0.out W hW) HF0.out).mono fun e w' h => by obtain ⟨v, h1, h2, h3⟩ := h; exact ⟨v, h1, h2.at, h3⟩
  have HTO0 : Hid (∀ W, Below w.heap.size w W → Calls Try.prog 12 #[.agg #[.slice o01 a0.attrs.length c01, .slice o02 a0.classes.length c02]] W fun e w' => ∃ v, e = .returned v ∧ OwnSp W.heap.size w' v a0 ∧ Below W.heap.size W w') := fun W hW => toSchema_sep _ a0 W (HHA0.out W hW) HF0.out
  have HTL1 : Hid (∀ W, Below w.heap.size w W → Calls Try.prog 13 #[.agg #[.slice o11 a1.totals.length c11, .slice o12 a1.cells.length c12]] W fun e w' => ∃ v, e = .returned v ∧ StatsAt w' v a1 ∧ Below W.heap.size W w') := fun W hW => (toStats_row _ a1 W (HHA1.out W hW) HF1.out).mono fun e w' h => by obtain ⟨v, h1, h2, h3⟩ := h; exact ⟨v, h1, h2.at, h3⟩
  have HTO1 : Hid (∀ W, Below w.heap.size w W → Calls Try.prog 13 #[.agg #[.slice o11 a1.totals.length c11, .slice o12 a1.cells.length c12]] W fun e w' => ∃ v, e = .returned v ∧ OwnSt W.heap.size w' v a1 ∧ Below W.heap.size W w') := fun W hW => toStats_row _ a1 W (HHA1.out W hW) HF1.out
  have HGL : Hid (G.length ≤ 1099511627776) := hfG
  clear hfG
  have kKA00 : w2.cell? ⟨w.heap.size, 0, none⟩ = some (.slice o01 a0.attrs.length c01) := KA0.cell 0
  have kKA01 : w2.cell? ⟨w.heap.size, 1, none⟩ = some (.slice o02 a0.classes.length c02) := KA0.cell 1
  have kKA10 : w2.cell? ⟨w.heap.size + 1, 0, none⟩ = some (.slice o11 a1.totals.length c11) := KA1.cell 0
  have kKA11 : w2.cell? ⟨w.heap.size + 1, 1, none⟩ = some (.slice o12 a1.cells.length c12) := KA1.cell 1
  have kKA20 : w2.cell? ⟨w.heap.size + 1 + 1, 0, none⟩ = some (.int .i64 a2.attr) := KA2.cell 0
  have kKA21 : w2.cell? ⟨w.heap.size + 1 + 1, 1, none⟩ = some (.int .i64 a2.pos) := KA2.cell 1
  go_wp2_with fail
  clear kKA00 kKA01 kKA10 kKA11 kKA20 kKA21
  refine wp_region_held_drew (S := fun w' => Blk 25 w' (w.heap.size) #[.slice o01 a0.attrs.length c01, .slice o02 a0.classes.length c02] ∧ Blk 29 w' (w.heap.size + 1) #[.slice o11 a1.totals.length c11, .slice o12 a1.cells.length c12] ∧ Blk 58 w' (w.heap.size + 1 + 1) #[.int .i64 a2.attr, .int .i64 a2.pos]) (by kernel_rfl) ⟨KA0, KA1, KA2⟩ ?_
  intro hS
  have bd : Below w2.heap.size w2 w2.drew := below_drewN (Below.refl _ _) 1
  replace B := B.trans (bd.mono B.size)
  replace zA := Nat.le_trans zA bd.size
  clear bd KA0 KA1 KA2
  generalize w2.drew = w3 at hS B zA ⊢
  refine takeL 0 (.agg #[.slice o01 a0.attrs.length c01, .slice o02 a0.classes.length c02]) rfl (by kernel_rfl) (by kernel_rfl) (by kernel_rfl) (fun _ _ _ h => h) (yields_row Try.underlying25 (by kernel_rfl) (by rfl) _ rfl _ rfl (fun _ h => h.1)) hS ?_
  try simp only [Act.put, List.setIfInBounds_toArray, List.set_cons_zero, List.set_cons_succ]
  refine takeL 2 (.agg #[.slice o11 a1.totals.length c11, .slice o12 a1.cells.length c12]) rfl (by kernel_rfl) (by kernel_rfl) (by kernel_rfl) (fun _ _ _ h => h) (yields_row Try.underlying29 (by kernel_rfl) (by rfl) _ rfl _ rfl (fun _ h => h.2.1)) hS ?_
  try simp only [Act.put, List.setIfInBounds_toArray, List.set_cons_zero, List.set_cons_succ]
  refine takeL 4 (.agg #[.int .i64 a2.attr, .int .i64 a2.pos]) rfl (by kernel_rfl) (by kernel_rfl) (by kernel_rfl) (fun _ _ _ h => h) (yields_row Try.underlying58 (by kernel_rfl) (by rfl) _ rfl _ rfl (fun _ h => h.2.2)) hS ?_
  try simp only [Act.put, List.setIfInBounds_toArray, List.set_cons_zero, List.set_cons_succ]
  refine takeL 6 (.int .i64 a3) rfl (by kernel_rfl) (by kernel_rfl) (by kernel_rfl) (fun _ _ _ h => h) (.inl ⟨by rfl, fun w _ => by rfl⟩) hS ?_
  try simp only [Act.put, List.setIfInBounds_toArray, List.set_cons_zero, List.set_cons_succ]
  refine nextL 1 rfl (by kernel_rfl) (by rfl) fun K hK => ?_
  have dd := HTL0.out w3 B
  go_simp
  refine dd.mono ?_
  clear dd
  rintro e w4 ⟨u1, rfl, hu1, hb⟩
  refine hK _ _ ⟨hS.1.below hb, hS.2.1.below hb, hS.2.2.below hb⟩ ?_
  clear hK K hS
  intro hS
  replace B := B.trans (hb.mono B.size)
  replace zA := Nat.le_trans zA hb.size
  clear hb
  refine nextL 3 rfl (by kernel_rfl) (by rfl) fun K hK => ?_
  have dd := HTL1.out w4 B
  go_simp
  refine dd.mono ?_
  clear dd
  rintro e w5 ⟨u2, rfl, hu2, hb⟩
  refine hK _ _ ⟨hS.1.below hb, hS.2.1.below hb, hS.2.2.below hb⟩ ?_
  clear hK K hS
  intro hS
  replace B := B.trans (hb.mono B.size)
  replace zA := Nat.le_trans zA hb.size
  replace hu1 := hu1.later hb
  clear hb
  refine nextL 5 rfl (by kernel_rfl) (by rfl) fun K hK => ?_
  have dd := toFork_any a2 w5
  go_simp
  refine dd.mono ?_
  clear dd
  rintro e w6 ⟨rfl, hb⟩
  refine hK _ _ ⟨hS.1.below hb, hS.2.1.below hb, hS.2.2.below hb⟩ ?_
  clear hK K hS
  intro hS
  replace B := B.trans (hb.mono B.size)
  replace zA := Nat.le_trans zA hb.size
  replace hu1 := hu1.later hb
  replace hu2 := hu2.later hb
  clear hb
  refine nextL 7 rfl (by kernel_rfl) (by rfl) fun K hK => ?_
  have dd := HSP.out w6 _ _ B hu1 hu2
  go_simp
  refine dd.mono ?_
  clear dd
  rintro e w7 ⟨vW, rfl, oW, hb⟩
  refine hK _ _ ⟨hS.1.below hb, hS.2.1.below hb, hS.2.2.below hb⟩ ?_
  clear hK K hS
  intro hS
  have HO_A_W : Hid (w.heap.size + 1 + 1 + 1 ≤ w6.heap.size) := zA
  have HLW : Hid (∀ k, vW.ownBlock = some k → w6.heap.size ≤ k ∧ k < w7.heap.size) := oW.lt
  replace B := B.trans (hb.mono B.size)
  replace zA := Nat.le_trans zA hb.size
  replace hu1 := hu1.later hb
  replace hu2 := hu2.later hb
  clear hb
  have zW : w7.heap.size ≤ w7.heap.size := Nat.le_refl _
  refine takeL 8 (vW) rfl (by kernel_rfl) (by kernel_rfl) (by kernel_rfl) (fun _ _ _ h => h) (.inl ⟨by rfl, fun w _ => by rfl⟩) hS ?_
  try simp only [Act.put, List.setIfInBounds_toArray, List.set_cons_zero, List.set_cons_succ]
  refine wpAnyH_done (by kernel_rfl) ?_ _
  obtain ⟨KA0, KA1, KA2⟩ := hS
  have kKA00 : w7.cell? ⟨w.heap.size, 0, none⟩ = some (.slice o01 a0.attrs.length c01) := KA0.cell 0
  have kKA01 : w7.cell? ⟨w.heap.size, 1, none⟩ = some (.slice o02 a0.classes.length c02) := KA0.cell 1
  have kKA10 : w7.cell? ⟨w.heap.size + 1, 0, none⟩ = some (.slice o11 a1.totals.length c11) := KA1.cell 0
  have kKA11 : w7.cell? ⟨w.heap.size + 1, 1, none⟩ = some (.slice o12 a1.cells.length c12) := KA1.cell 1
  have kKA20 : w7.cell? ⟨w.heap.size + 1 + 1, 0, none⟩ = some (.int .i64 a2.attr) := KA2.cell 0
  have kKA21 : w7.cell? ⟨w.heap.size + 1 + 1, 1, none⟩ = some (.int .i64 a2.pos) := KA2.cell 1
  have cc := HTO0.out _ B
  go_wp2_with fail
  refine cc.mono ?_
  clear cc
  clear kKA00 kKA01 kKA10 kKA11 kKA20 kKA21
  rintro e w8 ⟨uX0, rfl, ho, hb⟩
  have HO_A_X0 : Hid (w.heap.size + 1 + 1 + 1 ≤ w7.heap.size) := zA
  have HO_W_X0 : Hid (w7.heap.size ≤ w7.heap.size) := zW
  have hx0 := ho.own.at
  obtain ⟨y1, y2, LL0, ys0, rfl, sp0, cl0, hod⟩ := ho
  obtain ⟨p01, d01, hp1⟩ := own_form sp0.row
  obtain ⟨p02, d02, hp2⟩ := own_form cl0
  subst hp1 hp2
  have HOD0 : Hid (∀ j c b, j < a0.attrs.length → (Value.slice p02 a0.classes.length d02).ownBlock = some c → (LL0 j).2.ownBlock = some b → c ≠ b) := hod
  clear hod
  have HLX0 : Hid (∀ k, InS (.slice p01 a0.attrs.length d01) (.slice p02 a0.classes.length d02) LL0 a0.attrs.length k → w7.heap.size ≤ k ∧ k < w8.heap.size) := in_sp sp0 cl0
  replace B := B.trans (hb.mono B.size)
  replace zA := Nat.le_trans zA hb.size
  replace hu1 := hu1.later hb
  replace hu2 := hu2.later hb
  replace oW := own_below oW hb
  replace zW := Nat.le_trans zW hb.size
  replace KA0 := KA0.below hb
  replace KA1 := KA1.below hb
  replace KA2 := KA2.below hb
  clear hb
  have zX0 : w8.heap.size ≤ w8.heap.size := Nat.le_refl _
  obtain ⟨KX0, BN⟩ := blk_1 40 w8 #[.slice p01 a0.attrs.length d01, .slice p02 a0.classes.length d02]
  have HO_A_KX0 : Hid (w.heap.size + 1 + 1 + 1 ≤ w8.heap.size) := zA
  have HO_W_KX0 : Hid (w7.heap.size ≤ w8.heap.size) := zW
  have HO_X0_KX0 : Hid (w8.heap.size ≤ w8.heap.size) := zX0
  replace B := B.trans (BN.mono B.size)
  replace zA := Nat.le_trans zA BN.size
  replace hu1 := hu1.later BN
  replace hu2 := hu2.later BN
  replace oW := own_below oW BN
  replace zW := Nat.le_trans zW BN.size
  replace sp0 := sp0.below BN
  replace cl0 := own_below cl0 BN
  replace hx0 := hx0.later BN
  replace zX0 := Nat.le_trans zX0 BN.size
  replace KA0 := KA0.below BN
  replace KA1 := KA1.below BN
  replace KA2 := KA2.below BN
  clear BN
  have zKX0 : w8.heap.size + 1 ≤ (w8.alloc (.cells #[.slice p01 a0.attrs.length d01, .slice p02 a0.classes.length d02] 40)).heap.size := by simp
  have kKA00 : (w8.alloc (.cells #[.slice p01 a0.attrs.length d01, .slice p02 a0.classes.length d02] 40)).cell? ⟨w.heap.size, 0, none⟩ = some (.slice o01 a0.attrs.length c01) := KA0.cell 0
  have kKA01 : (w8.alloc (.cells #[.slice p01 a0.attrs.length d01, .slice p02 a0.classes.length d02] 40)).cell? ⟨w.heap.size, 1, none⟩ = some (.slice o02 a0.classes.length c02) := KA0.cell 1
  have kKA10 : (w8.alloc (.cells #[.slice p01 a0.attrs.length d01, .slice p02 a0.classes.length d02] 40)).cell? ⟨w.heap.size + 1, 0, none⟩ = some (.slice o11 a1.totals.length c11) := KA1.cell 0
  have kKA11 : (w8.alloc (.cells #[.slice p01 a0.attrs.length d01, .slice p02 a0.classes.length d02] 40)).cell? ⟨w.heap.size + 1, 1, none⟩ = some (.slice o12 a1.cells.length c12) := KA1.cell 1
  have kKA20 : (w8.alloc (.cells #[.slice p01 a0.attrs.length d01, .slice p02 a0.classes.length d02] 40)).cell? ⟨w.heap.size + 1 + 1, 0, none⟩ = some (.int .i64 a2.attr) := KA2.cell 0
  have kKA21 : (w8.alloc (.cells #[.slice p01 a0.attrs.length d01, .slice p02 a0.classes.length d02] 40)).cell? ⟨w.heap.size + 1 + 1, 1, none⟩ = some (.int .i64 a2.pos) := KA2.cell 1
  have kKX00 : (w8.alloc (.cells #[.slice p01 a0.attrs.length d01, .slice p02 a0.classes.length d02] 40)).cell? ⟨w8.heap.size, 0, none⟩ = some (.slice p01 a0.attrs.length d01) := KX0.cell 0
  have kKX01 : (w8.alloc (.cells #[.slice p01 a0.attrs.length d01, .slice p02 a0.classes.length d02] 40)).cell? ⟨w8.heap.size, 1, none⟩ = some (.slice p02 a0.classes.length d02) := KX0.cell 1
  have cc := HTO1.out _ B
  go_wp2_with fail
  refine cc.mono ?_
  clear cc
  clear kKA00 kKA01 kKA10 kKA11 kKA20 kKA21 kKX00 kKX01
  rintro e w9 ⟨uX1, rfl, ho, hb⟩
  have HO_A_X1 : Hid (w.heap.size + 1 + 1 + 1 ≤ (w8.alloc (.cells #[.slice p01 a0.attrs.length d01, .slice p02 a0.classes.length d02] 40)).heap.size) := zA
  have HO_W_X1 : Hid (w7.heap.size ≤ (w8.alloc (.cells #[.slice p01 a0.attrs.length d01, .slice p02 a0.classes.length d02] 40)).heap.size) := zW
  have HO_X0_X1 : Hid (w8.heap.size ≤ (w8.alloc (.cells #[.slice p01 a0.attrs.length d01, .slice p02 a0.classes.length d02] 40)).heap.size) := zX0
  have HO_KX0_X1 : Hid (w8.heap.size + 1 ≤ (w8.alloc (.cells #[.slice p01 a0.attrs.length d01, .slice p02 a0.classes.length d02] 40)).heap.size) := zKX0
  have hx1 := ho.at
  obtain ⟨tX1, cX1, LX1, yX1, rfl, oX1, sX1, neX1⟩ := ho
  obtain ⟨p11, d11, rfl⟩ := own_slice oX1
  obtain ⟨p12, d12, rfl⟩ := own_slice sX1.row
  have HLX1 : Hid (∀ k, AllSt (.slice p11 a1.totals.length d11) (.slice p12 a1.cells.length d12) LX1 a1.cells.length k → (w8.alloc (.cells #[.slice p01 a0.attrs.length d01, .slice p02 a0.classes.length d02] 40)).heap.size ≤ k ∧ k < w9.heap.size) := all_st oX1 sX1
  replace B := B.trans (hb.mono B.size)
  replace zA := Nat.le_trans zA hb.size
  replace hu1 := hu1.later hb
  replace hu2 := hu2.later hb
  replace oW := own_below oW hb
  replace zW := Nat.le_trans zW hb.size
  replace sp0 := sp0.below hb
  replace cl0 := own_below cl0 hb
  replace hx0 := hx0.later hb
  replace zX0 := Nat.le_trans zX0 hb.size
  replace zKX0 := Nat.le_trans zKX0 hb.size
  replace KA0 := KA0.below hb
  replace KA1 := KA1.below hb
  replace KA2 := KA2.below hb
  replace KX0 := KX0.below hb
  clear hb
  have zX1 : w9.heap.size ≤ w9.heap.size := Nat.le_refl _
  obtain ⟨KX1, BN⟩ := blk_1 35 w9 #[.slice p11 a1.totals.length d11, .slice p12 a1.cells.length d12]
  have HO_A_KX1 : Hid (w.heap.size + 1 + 1 + 1 ≤ w9.heap.size) := zA
  have HO_W_KX1 : Hid (w7.heap.size ≤ w9.heap.size) := zW
  have HO_X0_KX1 : Hid (w8.heap.size ≤ w9.heap.size) := zX0
  have HO_KX0_KX1 : Hid (w8.heap.size + 1 ≤ w9.heap.size) := zKX0
  have HO_X1_KX1 : Hid (w9.heap.size ≤ w9.heap.size) := zX1
  replace B := B.trans (BN.mono B.size)
  replace zA := Nat.le_trans zA BN.size
  replace hu1 := hu1.later BN
  replace hu2 := hu2.later BN
  replace oW := own_below oW BN
  replace zW := Nat.le_trans zW BN.size
  replace sp0 := sp0.below BN
  replace cl0 := own_below cl0 BN
  replace hx0 := hx0.later BN
  replace zX0 := Nat.le_trans zX0 BN.size
  replace zKX0 := Nat.le_trans zKX0 BN.size
  replace oX1 := own_below oX1 BN
  replace sX1 := sX1.below BN
  replace hx1 := hx1.later BN
  replace zX1 := Nat.le_trans zX1 BN.size
  replace KA0 := KA0.below BN
  replace KA1 := KA1.below BN
  replace KA2 := KA2.below BN
  replace KX0 := KX0.below BN
  clear BN
  have zKX1 : w9.heap.size + 1 ≤ (w9.alloc (.cells #[.slice p11 a1.totals.length d11, .slice p12 a1.cells.length d12] 35)).heap.size := by simp
  have kKA00 : (w9.alloc (.cells #[.slice p11 a1.totals.length d11, .slice p12 a1.cells.length d12] 35)).cell? ⟨w.heap.size, 0, none⟩ = some (.slice o01 a0.attrs.length c01) := KA0.cell 0
  have kKA01 : (w9.alloc (.cells #[.slice p11 a1.totals.length d11, .slice p12 a1.cells.length d12] 35)).cell? ⟨w.heap.size, 1, none⟩ = some (.slice o02 a0.classes.length c02) := KA0.cell 1
  have kKA10 : (w9.alloc (.cells #[.slice p11 a1.totals.length d11, .slice p12 a1.cells.length d12] 35)).cell? ⟨w.heap.size + 1, 0, none⟩ = some (.slice o11 a1.totals.length c11) := KA1.cell 0
  have kKA11 : (w9.alloc (.cells #[.slice p11 a1.totals.length d11, .slice p12 a1.cells.length d12] 35)).cell? ⟨w.heap.size + 1, 1, none⟩ = some (.slice o12 a1.cells.length c12) := KA1.cell 1
  have kKA20 : (w9.alloc (.cells #[.slice p11 a1.totals.length d11, .slice p12 a1.cells.length d12] 35)).cell? ⟨w.heap.size + 1 + 1, 0, none⟩ = some (.int .i64 a2.attr) := KA2.cell 0
  have kKA21 : (w9.alloc (.cells #[.slice p11 a1.totals.length d11, .slice p12 a1.cells.length d12] 35)).cell? ⟨w.heap.size + 1 + 1, 1, none⟩ = some (.int .i64 a2.pos) := KA2.cell 1
  have kKX00 : (w9.alloc (.cells #[.slice p11 a1.totals.length d11, .slice p12 a1.cells.length d12] 35)).cell? ⟨w8.heap.size, 0, none⟩ = some (.slice p01 a0.attrs.length d01) := KX0.cell 0
  have kKX01 : (w9.alloc (.cells #[.slice p11 a1.totals.length d11, .slice p12 a1.cells.length d12] 35)).cell? ⟨w8.heap.size, 1, none⟩ = some (.slice p02 a0.classes.length d02) := KX0.cell 1
  have kKX10 : (w9.alloc (.cells #[.slice p11 a1.totals.length d11, .slice p12 a1.cells.length d12] 35)).cell? ⟨w9.heap.size, 0, none⟩ = some (.slice p11 a1.totals.length d11) := KX1.cell 0
  have kKX11 : (w9.alloc (.cells #[.slice p11 a1.totals.length d11, .slice p12 a1.cells.length d12] 35)).cell? ⟨w9.heap.size, 1, none⟩ = some (.slice p12 a1.cells.length d12) := KX1.cell 1
  go_wp2_with fail
  clear kKA00 kKA01 kKA10 kKA11 kKA20 kKA21 kKX00 kKX01 kKX10 kKX11
  refine wp_region_held_drew (S := fun w' => Blk 25 w' (w.heap.size) #[.slice o01 a0.attrs.length c01, .slice o02 a0.classes.length c02] ∧ Blk 29 w' (w.heap.size + 1) #[.slice o11 a1.totals.length c11, .slice o12 a1.cells.length c12] ∧ Blk 58 w' (w.heap.size + 1 + 1) #[.int .i64 a2.attr, .int .i64 a2.pos] ∧ Blk 40 w' (w8.heap.size) #[.slice p01 a0.attrs.length d01, .slice p02 a0.classes.length d02] ∧ Blk 35 w' (w9.heap.size) #[.slice p11 a1.totals.length d11, .slice p12 a1.cells.length d12]) (by kernel_rfl) ⟨KA0, KA1, KA2, KX0, KX1⟩ ?_
  intro hS
  have bd : Below (w9.alloc (.cells #[.slice p11 a1.totals.length d11, .slice p12 a1.cells.length d12] 35)).heap.size (w9.alloc (.cells #[.slice p11 a1.totals.length d11, .slice p12 a1.cells.length d12] 35)) (w9.alloc (.cells #[.slice p11 a1.totals.length d11, .slice p12 a1.cells.length d12] 35)).drew := below_drewN (Below.refl _ _) 1
  replace B := B.trans (bd.mono B.size)
  replace zA := Nat.le_trans zA bd.size
  replace hu1 := hu1.later bd
  replace hu2 := hu2.later bd
  replace oW := own_below oW bd
  replace zW := Nat.le_trans zW bd.size
  replace sp0 := sp0.below bd
  replace cl0 := own_below cl0 bd
  replace hx0 := hx0.later bd
  replace zX0 := Nat.le_trans zX0 bd.size
  replace zKX0 := Nat.le_trans zKX0 bd.size
  replace oX1 := own_below oX1 bd
  replace sX1 := sX1.below bd
  replace hx1 := hx1.later bd
  replace zX1 := Nat.le_trans zX1 bd.size
  replace zKX1 := Nat.le_trans zKX1 bd.size
  clear bd KA0 KA1 KA2 KX0 KX1
  generalize (w9.alloc (.cells #[.slice p11 a1.totals.length d11, .slice p12 a1.cells.length d12] 35)).drew = w10 at hS B zA hu1 hu2 oW zW sp0 cl0 hx0 zX0 zKX0 oX1 sX1 hx1 zX1 zKX1 ⊢
  refine takeL 0 (.agg #[.slice p01 a0.attrs.length d01, .slice p02 a0.classes.length d02]) rfl (by kernel_rfl) (by kernel_rfl) (by kernel_rfl) (fun _ _ _ h => h) (yields_row Try.underlying40 (by kernel_rfl) (by rfl) _ rfl _ rfl (fun _ h => h.2.2.2.1)) hS ?_
  try simp only [Act.put, List.setIfInBounds_toArray, List.set_cons_zero, List.set_cons_succ]
  refine takeL 1 (.agg #[.slice p11 a1.totals.length d11, .slice p12 a1.cells.length d12]) rfl (by kernel_rfl) (by kernel_rfl) (by kernel_rfl) (fun _ _ _ h => h) (yields_row Try.underlying35 (by kernel_rfl) (by rfl) _ rfl _ rfl (fun _ h => h.2.2.2.2)) hS ?_
  try simp only [Act.put, List.setIfInBounds_toArray, List.set_cons_zero, List.set_cons_succ]
  refine takeL 2 (.agg #[.int .i64 a2.attr, .int .i64 a2.pos]) rfl (by kernel_rfl) (by kernel_rfl) (by kernel_rfl) (fun _ _ _ h => h) (yields_row Try.underlying58 (by kernel_rfl) (by rfl) _ rfl _ rfl (fun _ h => h.2.2.1)) hS ?_
  try simp only [Act.put, List.setIfInBounds_toArray, List.set_cons_zero, List.set_cons_succ]
  refine takeL 4 (.int .i64 a3) rfl (by kernel_rfl) (by kernel_rfl) (by kernel_rfl) (fun _ _ _ h => h) (.inl ⟨by rfl, fun w _ => by rfl⟩) hS ?_
  try simp only [Act.put, List.setIfInBounds_toArray, List.set_cons_zero, List.set_cons_succ]
  refine nextL 3 rfl (by kernel_rfl) (by rfl) fun K hK => ?_
  have dd := toFork_any a2 w10
  go_simp
  refine dd.mono ?_
  clear dd
  rintro e w11 ⟨rfl, hb⟩
  refine hK _ _ ⟨hS.1.below hb, hS.2.1.below hb, hS.2.2.1.below hb, hS.2.2.2.1.below hb, hS.2.2.2.2.below hb⟩ ?_
  clear hK K hS
  intro hS
  replace B := B.trans (hb.mono B.size)
  replace zA := Nat.le_trans zA hb.size
  replace hu1 := hu1.later hb
  replace hu2 := hu2.later hb
  replace oW := own_below oW hb
  replace zW := Nat.le_trans zW hb.size
  replace sp0 := sp0.below hb
  replace cl0 := own_below cl0 hb
  replace hx0 := hx0.later hb
  replace zX0 := Nat.le_trans zX0 hb.size
  replace zKX0 := Nat.le_trans zKX0 hb.size
  replace oX1 := own_below oX1 hb
  replace sX1 := sX1.below hb
  replace hx1 := hx1.later hb
  replace zX1 := Nat.le_trans zX1 hb.size
  replace zKX1 := Nat.le_trans zKX1 hb.size
  clear hb
  refine nextL 5 rfl (by kernel_rfl) (by rfl) fun K hK => ?_
  have dd := HI.out w11 _ _ B hx0 hx1
  go_simp
  refine dd.mono ?_
  clear dd
  rintro e w12 ⟨vG, rfl, oG, hb⟩
  refine hK _ _ ⟨hS.1.below hb, hS.2.1.below hb, hS.2.2.1.below hb, hS.2.2.2.1.below hb, hS.2.2.2.2.below hb⟩ ?_
  clear hK K hS
  intro hS
  have HO_A_G : Hid (w.heap.size + 1 + 1 + 1 ≤ w11.heap.size) := zA
  have HO_W_G : Hid (w7.heap.size ≤ w11.heap.size) := zW
  have HO_X0_G : Hid (w8.heap.size ≤ w11.heap.size) := zX0
  have HO_KX0_G : Hid (w8.heap.size + 1 ≤ w11.heap.size) := zKX0
  have HO_X1_G : Hid (w9.heap.size ≤ w11.heap.size) := zX1
  have HO_KX1_G : Hid (w9.heap.size + 1 ≤ w11.heap.size) := zKX1
  have HLG : Hid (∀ k, vG.ownBlock = some k → w11.heap.size ≤ k ∧ k < w12.heap.size) := oG.lt
  replace B := B.trans (hb.mono B.size)
  replace zA := Nat.le_trans zA hb.size
  replace hu1 := hu1.later hb
  replace hu2 := hu2.later hb
  replace oW := own_below oW hb
  replace zW := Nat.le_trans zW hb.size
  replace sp0 := sp0.below hb
  replace cl0 := own_below cl0 hb
  replace hx0 := hx0.later hb
  replace zX0 := Nat.le_trans zX0 hb.size
  replace zKX0 := Nat.le_trans zKX0 hb.size
  replace oX1 := own_below oX1 hb
  replace sX1 := sX1.below hb
  replace hx1 := hx1.later hb
  replace zX1 := Nat.le_trans zX1 hb.size
  replace zKX1 := Nat.le_trans zKX1 hb.size
  clear hb
  have zG : w12.heap.size ≤ w12.heap.size := Nat.le_refl _
  refine takeL 6 (vG) rfl (by kernel_rfl) (by kernel_rfl) (by kernel_rfl) (fun _ _ _ h => h) (.inl ⟨by rfl, fun w _ => by rfl⟩) hS ?_
  try simp only [Act.put, List.setIfInBounds_toArray, List.set_cons_zero, List.set_cons_succ]
  refine wpAnyH_done (by kernel_rfl) ?_ _
  obtain ⟨KA0, KA1, KA2, KX0, KX1⟩ := hS
  have cc := eqI_at rfl (by have := HGL.out; omega) oG oW
  have kKA00 : w12.cell? ⟨w.heap.size, 0, none⟩ = some (.slice o01 a0.attrs.length c01) := KA0.cell 0
  have kKA01 : w12.cell? ⟨w.heap.size, 1, none⟩ = some (.slice o02 a0.classes.length c02) := KA0.cell 1
  have kKA10 : w12.cell? ⟨w.heap.size + 1, 0, none⟩ = some (.slice o11 a1.totals.length c11) := KA1.cell 0
  have kKA11 : w12.cell? ⟨w.heap.size + 1, 1, none⟩ = some (.slice o12 a1.cells.length c12) := KA1.cell 1
  have kKA20 : w12.cell? ⟨w.heap.size + 1 + 1, 0, none⟩ = some (.int .i64 a2.attr) := KA2.cell 0
  have kKA21 : w12.cell? ⟨w.heap.size + 1 + 1, 1, none⟩ = some (.int .i64 a2.pos) := KA2.cell 1
  have kKX00 : w12.cell? ⟨w8.heap.size, 0, none⟩ = some (.slice p01 a0.attrs.length d01) := KX0.cell 0
  have kKX01 : w12.cell? ⟨w8.heap.size, 1, none⟩ = some (.slice p02 a0.classes.length d02) := KX0.cell 1
  have kKX10 : w12.cell? ⟨w9.heap.size, 0, none⟩ = some (.slice p11 a1.totals.length d11) := KX1.cell 0
  have kKX11 : w12.cell? ⟨w9.heap.size, 1, none⟩ = some (.slice p12 a1.cells.length d12) := KX1.cell 1
  go_wp2_with fail
  refine cc.mono ?_
  clear cc
  clear kKA00 kKA01 kKA10 kKA11 kKA20 kKA21 kKX00 kKX01 kKX10 kKX11
  rintro e w13 ⟨rfl, hb⟩
  replace B := B.trans (hb.mono B.size)
  replace zA := Nat.le_trans zA hb.size
  replace hu1 := hu1.later hb
  replace hu2 := hu2.later hb
  replace oW := own_below oW hb
  replace zW := Nat.le_trans zW hb.size
  replace sp0 := sp0.below hb
  replace cl0 := own_below cl0 hb
  replace hx0 := hx0.later hb
  replace zX0 := Nat.le_trans zX0 hb.size
  replace zKX0 := Nat.le_trans zKX0 hb.size
  replace oX1 := own_below oX1 hb
  replace sX1 := sX1.below hb
  replace hx1 := hx1.later hb
  replace zX1 := Nat.le_trans zX1 hb.size
  replace zKX1 := Nat.le_trans zKX1 hb.size
  replace oG := own_below oG hb
  replace zG := Nat.le_trans zG hb.size
  replace KA0 := KA0.below hb
  replace KA1 := KA1.below hb
  replace KA2 := KA2.below hb
  replace KX0 := KX0.below hb
  replace KX1 := KX1.below hb
  clear hb
  have kKA00 : w13.cell? ⟨w.heap.size, 0, none⟩ = some (.slice o01 a0.attrs.length c01) := KA0.cell 0
  have kKA01 : w13.cell? ⟨w.heap.size, 1, none⟩ = some (.slice o02 a0.classes.length c02) := KA0.cell 1
  have kKA10 : w13.cell? ⟨w.heap.size + 1, 0, none⟩ = some (.slice o11 a1.totals.length c11) := KA1.cell 0
  have kKA11 : w13.cell? ⟨w.heap.size + 1, 1, none⟩ = some (.slice o12 a1.cells.length c12) := KA1.cell 1
  have kKA20 : w13.cell? ⟨w.heap.size + 1 + 1, 0, none⟩ = some (.int .i64 a2.attr) := KA2.cell 0
  have kKA21 : w13.cell? ⟨w.heap.size + 1 + 1, 1, none⟩ = some (.int .i64 a2.pos) := KA2.cell 1
  have kKX00 : w13.cell? ⟨w8.heap.size, 0, none⟩ = some (.slice p01 a0.attrs.length d01) := KX0.cell 0
  have kKX01 : w13.cell? ⟨w8.heap.size, 1, none⟩ = some (.slice p02 a0.classes.length d02) := KX0.cell 1
  have kKX10 : w13.cell? ⟨w9.heap.size, 0, none⟩ = some (.slice p11 a1.totals.length d11) := KX1.cell 0
  have kKX11 : w13.cell? ⟨w9.heap.size, 1, none⟩ = some (.slice p12 a1.cells.length d12) := KX1.cell 1
  go_wp2_with fail
  clear kKA00 kKA01 kKA10 kKA11 kKA20 kKA21 kKX00 kKX01 kKX10 kKX11
  refine wp_region_held_drew (S := fun w' => Blk 25 w' (w.heap.size) #[.slice o01 a0.attrs.length c01, .slice o02 a0.classes.length c02] ∧ Blk 29 w' (w.heap.size + 1) #[.slice o11 a1.totals.length c11, .slice o12 a1.cells.length c12] ∧ Blk 58 w' (w.heap.size + 1 + 1) #[.int .i64 a2.attr, .int .i64 a2.pos] ∧ Blk 40 w' (w8.heap.size) #[.slice p01 a0.attrs.length d01, .slice p02 a0.classes.length d02] ∧ Blk 35 w' (w9.heap.size) #[.slice p11 a1.totals.length d11, .slice p12 a1.cells.length d12]) (by kernel_rfl) ⟨KA0, KA1, KA2, KX0, KX1⟩ ?_
  intro hS
  have bd : Below w13.heap.size w13 w13.drew := below_drewN (Below.refl _ _) 1
  replace B := B.trans (bd.mono B.size)
  replace zA := Nat.le_trans zA bd.size
  replace hu1 := hu1.later bd
  replace hu2 := hu2.later bd
  replace oW := own_below oW bd
  replace zW := Nat.le_trans zW bd.size
  replace sp0 := sp0.below bd
  replace cl0 := own_below cl0 bd
  replace hx0 := hx0.later bd
  replace zX0 := Nat.le_trans zX0 bd.size
  replace zKX0 := Nat.le_trans zKX0 bd.size
  replace oX1 := own_below oX1 bd
  replace sX1 := sX1.below bd
  replace hx1 := hx1.later bd
  replace zX1 := Nat.le_trans zX1 bd.size
  replace zKX1 := Nat.le_trans zKX1 bd.size
  replace oG := own_below oG bd
  replace zG := Nat.le_trans zG bd.size
  clear bd KA0 KA1 KA2 KX0 KX1
  generalize w13.drew = w14 at hS B zA hu1 hu2 oW zW sp0 cl0 hx0 zX0 zKX0 oX1 sX1 hx1 zX1 zKX1 oG zG ⊢
  refine takeL 0 (.agg #[.slice p01 a0.attrs.length d01, .slice p02 a0.classes.length d02]) rfl (by kernel_rfl) (by kernel_rfl) (by kernel_rfl) (fun _ _ _ h => h) (yields_row Try.underlying40 (by kernel_rfl) (by rfl) _ rfl _ rfl (fun _ h => h.2.2.2.1)) hS ?_
  try simp only [Act.put, List.setIfInBounds_toArray, List.set_cons_zero, List.set_cons_succ]
  refine takeL 1 (.agg #[.slice o01 a0.attrs.length c01, .slice o02 a0.classes.length c02]) rfl (by kernel_rfl) (by kernel_rfl) (by kernel_rfl) (fun _ _ _ h => h) (yields_row Try.underlying25 (by kernel_rfl) (by rfl) _ rfl _ rfl (fun _ h => h.1)) hS ?_
  try simp only [Act.put, List.setIfInBounds_toArray, List.set_cons_zero, List.set_cons_succ]
  refine nextL 2 rfl (by kernel_rfl) (by rfl) fun K hK => ?_
  have dd := HTL0.out w14 B
  go_simp
  refine dd.mono ?_
  clear dd
  rintro e w15 ⟨u3, rfl, hu3, hb⟩
  refine hK _ _ ⟨hS.1.below hb, hS.2.1.below hb, hS.2.2.1.below hb, hS.2.2.2.1.below hb, hS.2.2.2.2.below hb⟩ ?_
  clear hK K hS
  intro hS
  replace B := B.trans (hb.mono B.size)
  replace zA := Nat.le_trans zA hb.size
  replace hu1 := hu1.later hb
  replace hu2 := hu2.later hb
  replace oW := own_below oW hb
  replace zW := Nat.le_trans zW hb.size
  replace sp0 := sp0.below hb
  replace cl0 := own_below cl0 hb
  replace hx0 := hx0.later hb
  replace zX0 := Nat.le_trans zX0 hb.size
  replace zKX0 := Nat.le_trans zKX0 hb.size
  replace oX1 := own_below oX1 hb
  replace sX1 := sX1.below hb
  replace hx1 := hx1.later hb
  replace zX1 := Nat.le_trans zX1 hb.size
  replace zKX1 := Nat.le_trans zKX1 hb.size
  replace oG := own_below oG hb
  replace zG := Nat.le_trans zG hb.size
  clear hb
  refine nextL 3 rfl (by kernel_rfl) (by rfl) fun K hK => ?_
  have dd := eqSchema_row _ _ a0 w15 hx0 hu3 HF0.out.ok
  go_simp
  refine dd.mono ?_
  clear dd
  rintro e w16 ⟨rfl, hb⟩
  refine hK _ _ ⟨hS.1.below hb, hS.2.1.below hb, hS.2.2.1.below hb, hS.2.2.2.1.below hb, hS.2.2.2.2.below hb⟩ ?_
  clear hK K hS
  intro hS
  replace B := B.trans (hb.mono B.size)
  replace zA := Nat.le_trans zA hb.size
  replace hu1 := hu1.later hb
  replace hu2 := hu2.later hb
  replace oW := own_below oW hb
  replace zW := Nat.le_trans zW hb.size
  replace sp0 := sp0.below hb
  replace cl0 := own_below cl0 hb
  replace hx0 := hx0.later hb
  replace zX0 := Nat.le_trans zX0 hb.size
  replace zKX0 := Nat.le_trans zKX0 hb.size
  replace oX1 := own_below oX1 hb
  replace sX1 := sX1.below hb
  replace hx1 := hx1.later hb
  replace zX1 := Nat.le_trans zX1 hb.size
  replace zKX1 := Nat.le_trans zKX1 hb.size
  replace oG := own_below oG hb
  replace zG := Nat.le_trans zG hb.size
  replace hu3 := hu3.later hb
  clear hb
  refine takeL 4 (.bool false) rfl (by kernel_rfl) (by kernel_rfl) (by kernel_rfl) (fun _ _ _ h => h) (.inl ⟨by rfl, fun w hw => by (unfold execOp; go_simp)⟩) hS ?_
  try simp only [Act.put, List.setIfInBounds_toArray, List.set_cons_zero, List.set_cons_succ]
  refine wpAnyH_done (by kernel_rfl) ?_ _
  obtain ⟨KA0, KA1, KA2, KX0, KX1⟩ := hS
  have kKA00 : w16.cell? ⟨w.heap.size, 0, none⟩ = some (.slice o01 a0.attrs.length c01) := KA0.cell 0
  have kKA01 : w16.cell? ⟨w.heap.size, 1, none⟩ = some (.slice o02 a0.classes.length c02) := KA0.cell 1
  have kKA10 : w16.cell? ⟨w.heap.size + 1, 0, none⟩ = some (.slice o11 a1.totals.length c11) := KA1.cell 0
  have kKA11 : w16.cell? ⟨w.heap.size + 1, 1, none⟩ = some (.slice o12 a1.cells.length c12) := KA1.cell 1
  have kKA20 : w16.cell? ⟨w.heap.size + 1 + 1, 0, none⟩ = some (.int .i64 a2.attr) := KA2.cell 0
  have kKA21 : w16.cell? ⟨w.heap.size + 1 + 1, 1, none⟩ = some (.int .i64 a2.pos) := KA2.cell 1
  have kKX00 : w16.cell? ⟨w8.heap.size, 0, none⟩ = some (.slice p01 a0.attrs.length d01) := KX0.cell 0
  have kKX01 : w16.cell? ⟨w8.heap.size, 1, none⟩ = some (.slice p02 a0.classes.length d02) := KX0.cell 1
  have kKX10 : w16.cell? ⟨w9.heap.size, 0, none⟩ = some (.slice p11 a1.totals.length d11) := KX1.cell 0
  have kKX11 : w16.cell? ⟨w9.heap.size, 1, none⟩ = some (.slice p12 a1.cells.length d12) := KX1.cell 1
  go_wp2_with fail
  clear kKA00 kKA01 kKA10 kKA11 kKA20 kKA21 kKX00 kKX01 kKX10 kKX11
  refine wp_region_held_drew (S := fun w' => Blk 25 w' (w.heap.size) #[.slice o01 a0.attrs.length c01, .slice o02 a0.classes.length c02] ∧ Blk 29 w' (w.heap.size + 1) #[.slice o11 a1.totals.length c11, .slice o12 a1.cells.length c12] ∧ Blk 58 w' (w.heap.size + 1 + 1) #[.int .i64 a2.attr, .int .i64 a2.pos] ∧ Blk 40 w' (w8.heap.size) #[.slice p01 a0.attrs.length d01, .slice p02 a0.classes.length d02] ∧ Blk 35 w' (w9.heap.size) #[.slice p11 a1.totals.length d11, .slice p12 a1.cells.length d12]) (by kernel_rfl) ⟨KA0, KA1, KA2, KX0, KX1⟩ ?_
  intro hS
  have bd : Below w16.heap.size w16 w16.drew := below_drewN (Below.refl _ _) 1
  replace B := B.trans (bd.mono B.size)
  replace zA := Nat.le_trans zA bd.size
  replace hu1 := hu1.later bd
  replace hu2 := hu2.later bd
  replace oW := own_below oW bd
  replace zW := Nat.le_trans zW bd.size
  replace sp0 := sp0.below bd
  replace cl0 := own_below cl0 bd
  replace hx0 := hx0.later bd
  replace zX0 := Nat.le_trans zX0 bd.size
  replace zKX0 := Nat.le_trans zKX0 bd.size
  replace oX1 := own_below oX1 bd
  replace sX1 := sX1.below bd
  replace hx1 := hx1.later bd
  replace zX1 := Nat.le_trans zX1 bd.size
  replace zKX1 := Nat.le_trans zKX1 bd.size
  replace oG := own_below oG bd
  replace zG := Nat.le_trans zG bd.size
  replace hu3 := hu3.later bd
  clear bd KA0 KA1 KA2 KX0 KX1
  generalize w16.drew = w17 at hS B zA hu1 hu2 oW zW sp0 cl0 hx0 zX0 zKX0 oX1 sX1 hx1 zX1 zKX1 oG zG hu3 ⊢
  refine takeL 0 (.agg #[.slice p11 a1.totals.length d11, .slice p12 a1.cells.length d12]) rfl (by kernel_rfl) (by kernel_rfl) (by kernel_rfl) (fun _ _ _ h => h) (yields_row Try.underlying35 (by kernel_rfl) (by rfl) _ rfl _ rfl (fun _ h => h.2.2.2.2)) hS ?_
  try simp only [Act.put, List.setIfInBounds_toArray, List.set_cons_zero, List.set_cons_succ]
  refine takeL 1 (.agg #[.slice o11 a1.totals.length c11, .slice o12 a1.cells.length c12]) rfl (by kernel_rfl) (by kernel_rfl) (by kernel_rfl) (fun _ _ _ h => h) (yields_row Try.underlying29 (by kernel_rfl) (by rfl) _ rfl _ rfl (fun _ h => h.2.1)) hS ?_
  try simp only [Act.put, List.setIfInBounds_toArray, List.set_cons_zero, List.set_cons_succ]
  refine nextL 2 rfl (by kernel_rfl) (by rfl) fun K hK => ?_
  have dd := HTL1.out w17 B
  go_simp
  refine dd.mono ?_
  clear dd
  rintro e w18 ⟨u4, rfl, hu4, hb⟩
  refine hK _ _ ⟨hS.1.below hb, hS.2.1.below hb, hS.2.2.1.below hb, hS.2.2.2.1.below hb, hS.2.2.2.2.below hb⟩ ?_
  clear hK K hS
  intro hS
  replace B := B.trans (hb.mono B.size)
  replace zA := Nat.le_trans zA hb.size
  replace hu1 := hu1.later hb
  replace hu2 := hu2.later hb
  replace oW := own_below oW hb
  replace zW := Nat.le_trans zW hb.size
  replace sp0 := sp0.below hb
  replace cl0 := own_below cl0 hb
  replace hx0 := hx0.later hb
  replace zX0 := Nat.le_trans zX0 hb.size
  replace zKX0 := Nat.le_trans zKX0 hb.size
  replace oX1 := own_below oX1 hb
  replace sX1 := sX1.below hb
  replace hx1 := hx1.later hb
  replace zX1 := Nat.le_trans zX1 hb.size
  replace zKX1 := Nat.le_trans zKX1 hb.size
  replace oG := own_below oG hb
  replace zG := Nat.le_trans zG hb.size
  replace hu3 := hu3.later hb
  clear hb
  refine nextL 3 rfl (by kernel_rfl) (by rfl) fun K hK => ?_
  have dd := eqStats_row _ _ a1 w18 hx1 hu4 HF1.out.ok
  go_simp
  refine dd.mono ?_
  clear dd
  rintro e w19 ⟨rfl, hb⟩
  refine hK _ _ ⟨hS.1.below hb, hS.2.1.below hb, hS.2.2.1.below hb, hS.2.2.2.1.below hb, hS.2.2.2.2.below hb⟩ ?_
  clear hK K hS
  intro hS
  replace B := B.trans (hb.mono B.size)
  replace zA := Nat.le_trans zA hb.size
  replace hu1 := hu1.later hb
  replace hu2 := hu2.later hb
  replace oW := own_below oW hb
  replace zW := Nat.le_trans zW hb.size
  replace sp0 := sp0.below hb
  replace cl0 := own_below cl0 hb
  replace hx0 := hx0.later hb
  replace zX0 := Nat.le_trans zX0 hb.size
  replace zKX0 := Nat.le_trans zKX0 hb.size
  replace oX1 := own_below oX1 hb
  replace sX1 := sX1.below hb
  replace hx1 := hx1.later hb
  replace zX1 := Nat.le_trans zX1 hb.size
  replace zKX1 := Nat.le_trans zKX1 hb.size
  replace oG := own_below oG hb
  replace zG := Nat.le_trans zG hb.size
  replace hu3 := hu3.later hb
  replace hu4 := hu4.later hb
  clear hb
  refine takeL 4 (.bool false) rfl (by kernel_rfl) (by kernel_rfl) (by kernel_rfl) (fun _ _ _ h => h) (.inl ⟨by rfl, fun w hw => by (unfold execOp; go_simp)⟩) hS ?_
  try simp only [Act.put, List.setIfInBounds_toArray, List.set_cons_zero, List.set_cons_succ]
  refine wpAnyH_done (by kernel_rfl) ?_ _
  obtain ⟨KA0, KA1, KA2, KX0, KX1⟩ := hS
  clear hu1
  clear hu2
  clear hx0
  clear hx1
  clear hu3
  clear hu4
  have hK0 := fit_mark HF0.out
  have hfc := HF0.out.classes
  have cM := markSchema_any _ _ LL0 ys0 _ a0.attrs a0.attrs.length a0.classes.length (_) 1 w19 sp0 cl0 (fun j x y hj hx hy => HOD0.out j x y hj hx hy) HF0.out.attrs HF0.out.classes (by omega) (by omega)
  generalize hZ0 : mkK 1 (pOf a0.attrs) (qOf a0.attrs) a0.attrs.length = KN0 at cM hK0
  clear hZ0
  obtain ⟨Z0, hZ0⟩ : ∃ Z, Z = KN0 + a0.classes.length := ⟨_, rfl⟩
  rw [← hZ0] at cM
  have hb0 : Z0 ≤ 17592186044416 + 1048576 := by omega
  clear hZ0
  have kKA00 : w19.cell? ⟨w.heap.size, 0, none⟩ = some (.slice o01 a0.attrs.length c01) := KA0.cell 0
  have kKA01 : w19.cell? ⟨w.heap.size, 1, none⟩ = some (.slice o02 a0.classes.length c02) := KA0.cell 1
  have kKA10 : w19.cell? ⟨w.heap.size + 1, 0, none⟩ = some (.slice o11 a1.totals.length c11) := KA1.cell 0
  have kKA11 : w19.cell? ⟨w.heap.size + 1, 1, none⟩ = some (.slice o12 a1.cells.length c12) := KA1.cell 1
  have kKA20 : w19.cell? ⟨w.heap.size + 1 + 1, 0, none⟩ = some (.int .i64 a2.attr) := KA2.cell 0
  have kKA21 : w19.cell? ⟨w.heap.size + 1 + 1, 1, none⟩ = some (.int .i64 a2.pos) := KA2.cell 1
  have kKX00 : w19.cell? ⟨w8.heap.size, 0, none⟩ = some (.slice p01 a0.attrs.length d01) := KX0.cell 0
  have kKX01 : w19.cell? ⟨w8.heap.size, 1, none⟩ = some (.slice p02 a0.classes.length d02) := KX0.cell 1
  have kKX10 : w19.cell? ⟨w9.heap.size, 0, none⟩ = some (.slice p11 a1.totals.length d11) := KX1.cell 0
  have kKX11 : w19.cell? ⟨w9.heap.size, 1, none⟩ = some (.slice p12 a1.cells.length d12) := KX1.cell 1
  go_wp2_with fail
  refine cM.mono ?_
  rintro e w20 ⟨rfl, -, hg⟩
  clear cM
  clear kKA00 kKA01 kKA10 kKA11 kKA20 kKA21 kKX00 kKX01 kKX10 kKX11
  clear sp0 cl0 KX0 zX0 zKX0 hfc hK0
  replace B := hg.below B B.size (fun k hk => by have h := HLX0.out k hk; have o := HO_A_X0.out; omega)
  replace zA := Nat.le_trans zA hg.size
  replace oW := own_keptS oW hg (fun k hk e => by have h := HLX0.out _ e; have h2 := HLW.out k (hk); have o := HO_W_X0.out; omega)
  replace zW := Nat.le_trans zW hg.size
  replace oX1 := own_keptS oX1 hg (fun k hk e => by have h := HLX0.out _ e; have h2 := HLX1.out k (.inl hk); have o := HO_X0_X1.out; omega)
  replace sX1 := sX1.keptS hg (fun k hk e => by have h := HLX0.out _ e; have h2 := HLX1.out k (.inr (.inl hk)); have o := HO_X0_X1.out; omega) (fun k hk e => by have h := HLX0.out _ e; have h2 := HLX1.out k (.inr (.inr hk)); have o := HO_X0_X1.out; omega)
  replace zX1 := Nat.le_trans zX1 hg.size
  replace zKX1 := Nat.le_trans zKX1 hg.size
  replace oG := own_keptS oG hg (fun k hk e => by have h := HLX0.out _ e; have h2 := HLG.out k (hk); have o := HO_X0_G.out; omega)
  replace zG := Nat.le_trans zG hg.size
  replace KA0 := hg.blk KA0 (fun e => by have h := HLX0.out _ e; have o := HO_A_X0.out; omega)
  replace KA1 := hg.blk KA1 (fun e => by have h := HLX0.out _ e; have o := HO_A_X0.out; omega)
  replace KA2 := hg.blk KA2 (fun e => by have h := HLX0.out _ e; have o := HO_A_X0.out; omega)
  replace KX1 := hg.blk KX1 (fun e => by have h := HLX0.out _ e; have o := HO_X0_KX1.out; omega)
  clear hg

  have hK1 := fitSt_mark HF1.out (Z0 + a1.totals.length)
  have hft := HF1.out.totals
  have cM := markStats_any _ _ LX1 _ yX1 a1.cells a1.cells.length a1.totals.length (_) Z0 w20 oX1 sX1 (fun j x y hj hx hy => neX1 j x y hj hx hy) HF1.out.cells HF1.out.totals (by omega)
  generalize mkC (Z0 + a1.totals.length) (lenL a1.cells) a1.cells.length = Z1 at cM hK1
  have hb1 : Z1 ≤ 17592186044416 + 1048576 + 1048576 + 1099511627776 := by omega
  have kKA00 : w20.cell? ⟨w.heap.size, 0, none⟩ = some (.slice o01 a0.attrs.length c01) := KA0.cell 0
  have kKA01 : w20.cell? ⟨w.heap.size, 1, none⟩ = some (.slice o02 a0.classes.length c02) := KA0.cell 1
  have kKA10 : w20.cell? ⟨w.heap.size + 1, 0, none⟩ = some (.slice o11 a1.totals.length c11) := KA1.cell 0
  have kKA11 : w20.cell? ⟨w.heap.size + 1, 1, none⟩ = some (.slice o12 a1.cells.length c12) := KA1.cell 1
  have kKA20 : w20.cell? ⟨w.heap.size + 1 + 1, 0, none⟩ = some (.int .i64 a2.attr) := KA2.cell 0
  have kKA21 : w20.cell? ⟨w.heap.size + 1 + 1, 1, none⟩ = some (.int .i64 a2.pos) := KA2.cell 1
  have kKX10 : w20.cell? ⟨w9.heap.size, 0, none⟩ = some (.slice p11 a1.totals.length d11) := KX1.cell 0
  have kKX11 : w20.cell? ⟨w9.heap.size, 1, none⟩ = some (.slice p12 a1.cells.length d12) := KX1.cell 1
  go_wp2_with fail
  refine cM.mono ?_
  rintro e w21 ⟨rfl, -, hg⟩
  clear cM
  clear kKA00 kKA01 kKA10 kKA11 kKA20 kKA21 kKX10 kKX11
  clear oX1 sX1 KX1 zX1 zKX1 hft hK1
  replace B := hg.below B B.size (fun k hk => by have h := HLX1.out k (in_all hk); have o := HO_A_X1.out; omega)
  replace zA := Nat.le_trans zA hg.size
  replace oW := own_keptS oW hg (fun k hk e => by have h := HLX1.out _ (in_all e); have h2 := HLW.out k (hk); have o := HO_W_X1.out; omega)
  replace zW := Nat.le_trans zW hg.size
  replace oG := own_keptS oG hg (fun k hk e => by have h := HLX1.out _ (in_all e); have h2 := HLG.out k (hk); have o := HO_X1_G.out; omega)
  replace zG := Nat.le_trans zG hg.size
  replace KA0 := hg.blk KA0 (fun e => by have h := HLX1.out _ (in_all e); have o := HO_A_X1.out; omega)
  replace KA1 := hg.blk KA1 (fun e => by have h := HLX1.out _ (in_all e); have o := HO_A_X1.out; omega)
  replace KA2 := hg.blk KA2 (fun e => by have h := HLX1.out _ (in_all e); have o := HO_A_X1.out; omega)
  clear hg
  have kn0 : ¬ (Z1 : Int) < 0 := by omega
  have cc := eqI_at rfl (by have := HGL.out; omega) oG oW
  have kKA00 : w21.cell? ⟨w.heap.size, 0, none⟩ = some (.slice o01 a0.attrs.length c01) := KA0.cell 0
  have kKA01 : w21.cell? ⟨w.heap.size, 1, none⟩ = some (.slice o02 a0.classes.length c02) := KA0.cell 1
  have kKA10 : w21.cell? ⟨w.heap.size + 1, 0, none⟩ = some (.slice o11 a1.totals.length c11) := KA1.cell 0
  have kKA11 : w21.cell? ⟨w.heap.size + 1, 1, none⟩ = some (.slice o12 a1.cells.length c12) := KA1.cell 1
  have kKA20 : w21.cell? ⟨w.heap.size + 1 + 1, 0, none⟩ = some (.int .i64 a2.attr) := KA2.cell 0
  have kKA21 : w21.cell? ⟨w.heap.size + 1 + 1, 1, none⟩ = some (.int .i64 a2.pos) := KA2.cell 1
  go_wp2_with fail
  refine cc.mono ?_
  clear cc
  clear kKA00 kKA01 kKA10 kKA11 kKA20 kKA21
  rintro e w22 ⟨rfl, hb⟩
  replace B := B.trans (hb.mono B.size)
  replace zA := Nat.le_trans zA hb.size
  replace oW := own_below oW hb
  replace zW := Nat.le_trans zW hb.size
  replace oG := own_below oG hb
  replace zG := Nat.le_trans zG hb.size
  replace KA0 := KA0.below hb
  replace KA1 := KA1.below hb
  replace KA2 := KA2.below hb
  clear hb
  clear kn0
  have hZG : (0 : Int) ≤ 1 + (G.length : Int) := by omega
  have cM := markedI_any G.length _ vG 1 _ w22 (by have := HGL.out; omega) (by omega) (by omega) oG
  have HHH : Hid (∀ b W, MarkedI b W vG G.length 1 → Calls Try.prog 34 #[vG, .int .i64 1] W fun e w' => e = .returned (.int .i64 (1 + (G.length : Int))) ∧ w' = W) := fun b W h => heldMI_any G.length b vG 1 W (by have := HGL.out; omega) (by omega) (by omega) h
  generalize (1 : Int) + (G.length : Int) = ZG at cM HHH hZG
  have kKA00 : w22.cell? ⟨w.heap.size, 0, none⟩ = some (.slice o01 a0.attrs.length c01) := KA0.cell 0
  have kKA01 : w22.cell? ⟨w.heap.size, 1, none⟩ = some (.slice o02 a0.classes.length c02) := KA0.cell 1
  have kKA10 : w22.cell? ⟨w.heap.size + 1, 0, none⟩ = some (.slice o11 a1.totals.length c11) := KA1.cell 0
  have kKA11 : w22.cell? ⟨w.heap.size + 1, 1, none⟩ = some (.slice o12 a1.cells.length c12) := KA1.cell 1
  have kKA20 : w22.cell? ⟨w.heap.size + 1 + 1, 0, none⟩ = some (.int .i64 a2.attr) := KA2.cell 0
  have kKA21 : w22.cell? ⟨w.heap.size + 1 + 1, 1, none⟩ = some (.int .i64 a2.pos) := KA2.cell 1
  go_wp2_with fail
  refine cM.mono ?_
  rintro e w23 ⟨rfl, hm, hg⟩
  clear cM oG zG
  clear kKA00 kKA01 kKA10 kKA11 kKA20 kKA21
  replace B := B.grown hg B.size (fun k hk => by have h := HLG.out k hk; have o := HO_A_G.out; omega)
  replace zA := Nat.le_trans zA hg.size
  replace oW := oW.kept hg (ne_of_ord fun x y hx hy => by have h := HLG.out y hy; have h2 := HLW.out x (hx); have o := HO_W_G.out; omega)
  replace zW := Nat.le_trans zW hg.size
  replace KA0 := KA0.kept hg (fun e => by have h := HLG.out _ e; have o := HO_A_G.out; omega)
  replace KA1 := KA1.kept hg (fun e => by have h := HLG.out _ e; have o := HO_A_G.out; omega)
  replace KA2 := KA2.kept hg (fun e => by have h := HLG.out _ e; have o := HO_A_G.out; omega)
  clear hg
  have zn0 : ¬ ZG < 0 := by omega
  have kKA00 : w23.cell? ⟨w.heap.size, 0, none⟩ = some (.slice o01 a0.attrs.length c01) := KA0.cell 0
  have kKA01 : w23.cell? ⟨w.heap.size, 1, none⟩ = some (.slice o02 a0.classes.length c02) := KA0.cell 1
  have kKA10 : w23.cell? ⟨w.heap.size + 1, 0, none⟩ = some (.slice o11 a1.totals.length c11) := KA1.cell 0
  have kKA11 : w23.cell? ⟨w.heap.size + 1, 1, none⟩ = some (.slice o12 a1.cells.length c12) := KA1.cell 1
  have kKA20 : w23.cell? ⟨w.heap.size + 1 + 1, 0, none⟩ = some (.int .i64 a2.attr) := KA2.cell 0
  have kKA21 : w23.cell? ⟨w.heap.size + 1 + 1, 1, none⟩ = some (.int .i64 a2.pos) := KA2.cell 1
  have cc := HHH.out _ _ hm
  go_wp2_with fail
  refine cc.mono ?_
  clear cc
  clear kKA00 kKA01 kKA10 kKA11 kKA20 kKA21
  rintro e w24 ⟨rfl, ew⟩
  rw [ew]
  clear ew w24
  have kKA00 : w23.cell? ⟨w.heap.size, 0, none⟩ = some (.slice o01 a0.attrs.length c01) := KA0.cell 0
  have kKA01 : w23.cell? ⟨w.heap.size, 1, none⟩ = some (.slice o02 a0.classes.length c02) := KA0.cell 1
  have kKA10 : w23.cell? ⟨w.heap.size + 1, 0, none⟩ = some (.slice o11 a1.totals.length c11) := KA1.cell 0
  have kKA11 : w23.cell? ⟨w.heap.size + 1, 1, none⟩ = some (.slice o12 a1.cells.length c12) := KA1.cell 1
  have kKA20 : w23.cell? ⟨w.heap.size + 1 + 1, 0, none⟩ = some (.int .i64 a2.attr) := KA2.cell 0
  have kKA21 : w23.cell? ⟨w.heap.size + 1 + 1, 1, none⟩ = some (.int .i64 a2.pos) := KA2.cell 1
  go_wp2_with fail
  clear kKA00 kKA01 kKA10 kKA11 kKA20 kKA21
  refine wp_region_held_drew (S := fun w' => Blk 25 w' (w.heap.size) #[.slice o01 a0.attrs.length c01, .slice o02 a0.classes.length c02] ∧ Blk 29 w' (w.heap.size + 1) #[.slice o11 a1.totals.length c11, .slice o12 a1.cells.length c12] ∧ Blk 58 w' (w.heap.size + 1 + 1) #[.int .i64 a2.attr, .int .i64 a2.pos]) (by kernel_rfl) ⟨KA0, KA1, KA2⟩ ?_
  intro hS
  have bd : Below w23.heap.size w23 w23.drew := below_drewN (Below.refl _ _) 1
  replace B := B.trans (bd.mono B.size)
  replace zA := Nat.le_trans zA bd.size
  replace oW := own_below oW bd
  replace zW := Nat.le_trans zW bd.size
  replace hm := hm.below bd
  clear bd KA0 KA1 KA2
  generalize w23.drew = w25 at hS B zA oW zW hm ⊢
  refine takeL 0 (.agg #[.slice o01 a0.attrs.length c01, .slice o02 a0.classes.length c02]) rfl (by kernel_rfl) (by kernel_rfl) (by kernel_rfl) (fun _ _ _ h => h) (yields_row Try.underlying25 (by kernel_rfl) (by rfl) _ rfl _ rfl (fun _ h => h.1)) hS ?_
  try simp only [Act.put, List.setIfInBounds_toArray, List.set_cons_zero, List.set_cons_succ]
  refine takeL 2 (.agg #[.slice o11 a1.totals.length c11, .slice o12 a1.cells.length c12]) rfl (by kernel_rfl) (by kernel_rfl) (by kernel_rfl) (fun _ _ _ h => h) (yields_row Try.underlying29 (by kernel_rfl) (by rfl) _ rfl _ rfl (fun _ h => h.2.1)) hS ?_
  try simp only [Act.put, List.setIfInBounds_toArray, List.set_cons_zero, List.set_cons_succ]
  refine takeL 4 (.agg #[.int .i64 a2.attr, .int .i64 a2.pos]) rfl (by kernel_rfl) (by kernel_rfl) (by kernel_rfl) (fun _ _ _ h => h) (yields_row Try.underlying58 (by kernel_rfl) (by rfl) _ rfl _ rfl (fun _ h => h.2.2)) hS ?_
  try simp only [Act.put, List.setIfInBounds_toArray, List.set_cons_zero, List.set_cons_succ]
  refine takeL 6 (.int .i64 a3) rfl (by kernel_rfl) (by kernel_rfl) (by kernel_rfl) (fun _ _ _ h => h) (.inl ⟨by rfl, fun w _ => by rfl⟩) hS ?_
  try simp only [Act.put, List.setIfInBounds_toArray, List.set_cons_zero, List.set_cons_succ]
  refine nextL 1 rfl (by kernel_rfl) (by rfl) fun K hK => ?_
  have dd := HTL0.out w25 B
  go_simp
  refine dd.mono ?_
  clear dd
  rintro e w26 ⟨u5, rfl, hu5, hb⟩
  refine hK _ _ ⟨hS.1.below hb, hS.2.1.below hb, hS.2.2.below hb⟩ ?_
  clear hK K hS
  intro hS
  replace B := B.trans (hb.mono B.size)
  replace zA := Nat.le_trans zA hb.size
  replace oW := own_below oW hb
  replace zW := Nat.le_trans zW hb.size
  replace hm := hm.below hb
  clear hb
  refine nextL 3 rfl (by kernel_rfl) (by rfl) fun K hK => ?_
  have dd := HTL1.out w26 B
  go_simp
  refine dd.mono ?_
  clear dd
  rintro e w27 ⟨u6, rfl, hu6, hb⟩
  refine hK _ _ ⟨hS.1.below hb, hS.2.1.below hb, hS.2.2.below hb⟩ ?_
  clear hK K hS
  intro hS
  replace B := B.trans (hb.mono B.size)
  replace zA := Nat.le_trans zA hb.size
  replace oW := own_below oW hb
  replace zW := Nat.le_trans zW hb.size
  replace hm := hm.below hb
  replace hu5 := hu5.later hb
  clear hb
  refine nextL 5 rfl (by kernel_rfl) (by rfl) fun K hK => ?_
  have dd := toFork_any a2 w27
  go_simp
  refine dd.mono ?_
  clear dd
  rintro e w28 ⟨rfl, hb⟩
  refine hK _ _ ⟨hS.1.below hb, hS.2.1.below hb, hS.2.2.below hb⟩ ?_
  clear hK K hS
  intro hS
  replace B := B.trans (hb.mono B.size)
  replace zA := Nat.le_trans zA hb.size
  replace oW := own_below oW hb
  replace zW := Nat.le_trans zW hb.size
  replace hm := hm.below hb
  replace hu5 := hu5.later hb
  replace hu6 := hu6.later hb
  clear hb
  refine nextL 7 rfl (by kernel_rfl) (by rfl) fun K hK => ?_
  have dd := HI.out w28 _ _ B hu5 hu6
  go_simp
  refine dd.mono ?_
  clear dd
  rintro e w29 ⟨vH, rfl, oH, hb⟩
  refine hK _ _ ⟨hS.1.below hb, hS.2.1.below hb, hS.2.2.below hb⟩ ?_
  clear hK K hS
  intro hS
  have HLH : Hid (∀ k, vH.ownBlock = some k → w28.heap.size ≤ k ∧ k < w29.heap.size) := oH.lt
  replace B := B.trans (hb.mono B.size)
  replace zA := Nat.le_trans zA hb.size
  replace oW := own_below oW hb
  replace zW := Nat.le_trans zW hb.size
  replace hm := hm.below hb
  replace hu5 := hu5.later hb
  replace hu6 := hu6.later hb
  clear hb
  refine takeL 8 (vH) rfl (by kernel_rfl) (by kernel_rfl) (by kernel_rfl) (fun _ _ _ h => h) (.inl ⟨by rfl, fun w _ => by rfl⟩) hS ?_
  try simp only [Act.put, List.setIfInBounds_toArray, List.set_cons_zero, List.set_cons_succ]
  refine wpAnyH_done (by kernel_rfl) ?_ _
  obtain ⟨KA0, KA1, KA2⟩ := hS
  have cc := eqI_at rfl (by have := HGL.out; omega) oH oW
  have kKA00 : w29.cell? ⟨w.heap.size, 0, none⟩ = some (.slice o01 a0.attrs.length c01) := KA0.cell 0
  have kKA01 : w29.cell? ⟨w.heap.size, 1, none⟩ = some (.slice o02 a0.classes.length c02) := KA0.cell 1
  have kKA10 : w29.cell? ⟨w.heap.size + 1, 0, none⟩ = some (.slice o11 a1.totals.length c11) := KA1.cell 0
  have kKA11 : w29.cell? ⟨w.heap.size + 1, 1, none⟩ = some (.slice o12 a1.cells.length c12) := KA1.cell 1
  have kKA20 : w29.cell? ⟨w.heap.size + 1 + 1, 0, none⟩ = some (.int .i64 a2.attr) := KA2.cell 0
  have kKA21 : w29.cell? ⟨w.heap.size + 1 + 1, 1, none⟩ = some (.int .i64 a2.pos) := KA2.cell 1
  go_wp2_with fail
  refine cc.mono ?_
  clear cc
  clear kKA00 kKA01 kKA10 kKA11 kKA20 kKA21
  rintro e w30 ⟨rfl, hb⟩
  replace B := B.trans (hb.mono B.size)
  replace zA := Nat.le_trans zA hb.size
  replace oW := own_below oW hb
  replace zW := Nat.le_trans zW hb.size
  replace hm := hm.below hb
  replace hu5 := hu5.later hb
  replace hu6 := hu6.later hb
  replace oH := own_below oH hb
  replace KA0 := KA0.below hb
  replace KA1 := KA1.below hb
  replace KA2 := KA2.below hb
  clear hb
  have kKA00 : w30.cell? ⟨w.heap.size, 0, none⟩ = some (.slice o01 a0.attrs.length c01) := KA0.cell 0
  have kKA01 : w30.cell? ⟨w.heap.size, 1, none⟩ = some (.slice o02 a0.classes.length c02) := KA0.cell 1
  have kKA10 : w30.cell? ⟨w.heap.size + 1, 0, none⟩ = some (.slice o11 a1.totals.length c11) := KA1.cell 0
  have kKA11 : w30.cell? ⟨w.heap.size + 1, 1, none⟩ = some (.slice o12 a1.cells.length c12) := KA1.cell 1
  have kKA20 : w30.cell? ⟨w.heap.size + 1 + 1, 0, none⟩ = some (.int .i64 a2.attr) := KA2.cell 0
  have kKA21 : w30.cell? ⟨w.heap.size + 1 + 1, 1, none⟩ = some (.int .i64 a2.pos) := KA2.cell 1
  have cc := HHH.out _ _ hm
  go_wp2_with fail
  refine cc.mono ?_
  clear cc
  clear kKA00 kKA01 kKA10 kKA11 kKA20 kKA21
  rintro e w31 ⟨rfl, ew⟩
  rw [ew]
  clear ew w31
  go_wp2
  go_ret
  exact ⟨rfl, B⟩

/-! ### THE ROW's STEP -/
set_option maxRecDepth 100000 in
theorem lifted (os : Os) (started : os.Started) (H : Type) (enc : TypeId × Value → H) :
    ReturnsInHanded {} Try.checked os 7 .any (Rows.fnExactBranchTotalsSpec.pre6 enc Try.prog Try.f7 Rows.fnExactBranchTotalsRow.domain false) (Rows.fnExactBranchTotalsSpec.post enc Try.prog Try.f7 false true false false) := by
  refine returnsInHanded_of_change (C := Try.checked) own started (by kernel_rfl) Try.func7
    (ChangeSpec.witness6 (enc := enc) (C := Try.checked) false ⟨#[], #[.agg #[.slice none 0 0, .slice none 0 0], .agg #[.slice none 0 0, .slice none 0 0], .agg #[.int .i64 0, .int .i64 0], .int .i64 0], []⟩ 8 (by kernel_rfl) (by kernel_rfl) (by kernel_rfl) (by kernel_rfl)) ?_
  intro W base args ds gs before hval0 hW hcnd _
  have hval : ∀ (j : Nat) t v, Try.f7.params[j]? = some t → args[j]? = some v → Value.okWide Try.prog W .any base t v := hval0
  have hW' := hW
  obtain ⟨p, q, hA0, hV, rfl, hfz, hnd⟩ := hW
  have hA : DataW.TrodAll enc Try.prog W 0 (fun _ => true) true Try.f7.params.toList args.toList ds p := hA0
  rw [Try.params7] at hA hval
  obtain ⟨v0, vs0, d0, ds0, p0, q0, hargs, rfl, rfl, h0, r0⟩ := trodAll_cons hA
  obtain ⟨v1, vs1, d1, ds1, p1, q1, rfl, rfl, rfl, h1, r1⟩ := trodAll_cons r0
  obtain ⟨v2, vs2, d2, ds2, p2, q2, rfl, rfl, rfl, h2, r2⟩ := trodAll_cons r1
  obtain ⟨v3, vs3, d3, ds3, p3, q3, rfl, rfl, rfl, h3, r3⟩ := trodAll_cons r2
  obtain ⟨rfl, rfl, rfl⟩ := trodAll_nil r3
  obtain rfl : args = #[v0, v1, v2, v3] := by cases args; simp_all
  obtain ⟨rfl, rfl⟩ := trodVars_none hV
  have k0 := h0
  have lt0 : ∀ x ∈ p0, x.block < W.heap.size := by obtain ⟨m, hm⟩ := k0; exact DataW.trod_lt m _ _ _ hm
  obtain ⟨a0, R0, I0⟩ := open_schema (hval 0 25 v0 rfl rfl) h0
  have k1 := h1
  have lt1 : ∀ x ∈ p1, x.block < W.heap.size := by obtain ⟨m, hm⟩ := k1; exact DataW.trod_lt m _ _ _ hm
  obtain ⟨a1, R1, I1⟩ := open_stats (hval 1 29 v1 rfl rfl) h1
  have k2 := h2
  have lt2 : ∀ x ∈ p2, x.block < W.heap.size := by obtain ⟨m, hm⟩ := k2; exact DataW.trod_lt m _ _ _ hm
  obtain ⟨n2, m2, rfl, wn2, wm2⟩ := open_fork (hval 2 58 v2 rfl rfl) h2
  obtain ⟨a3, rfl, rfl, rfl, w3⟩ := open_int Try.underlying3 (hval 3 3 v3 rfl rfl) h3
  clear hA0 hval0
  refine (walk v0 a0 v1 a1 ⟨n2, m2⟩ a3 W R0 I0 R1 I1 (bounds_i64 wn2) (bounds_i64 wm2) (bounds_i64 w3).1 (bounds_i64 w3).2).mono fun e W' ⟨he, bel⟩ => ?_
  subst he
  exact ⟨_, rfl, _, _, _, [], _, [], hW', trodAll_mk1 (shut_bool Try.underlying4 _), (trodAll_cons_mk (Below.trod laidOut (by kernel_rfl) (of_decide_eq_true (by kernel_rfl)) k0 bel lt0) (trodAll_cons_mk (Below.trod laidOut (by kernel_rfl) (of_decide_eq_true (by kernel_rfl)) k1 bel lt1) (trodAll_cons_mk (Below.trod laidOut (by kernel_rfl) (of_decide_eq_true (by kernel_rfl)) k2 bel lt2) (trodAll_cons_mk (shut_int Try.underlying3 w3) trodAll_mk0)))), rfl, bel.frame _, fun h => by cases h⟩

theorem over : Rows.fnExactBranchTotalsRow.holds Try.pinned (OpenSpec.ofChange Rows.fnExactBranchTotalsSpec) :=
  OpenClaim.holds_of_wide 7 Try.f7 rfl rfl rfl rfl rfl rfl rfl ⟨rfl, rfl, rfl, rfl, rfl⟩ rfl rfl rfl rfl rfl (by kernel_rfl) Try.func7 (by kernel_rfl)
    (of_decide_eq_true (by kernel_rfl)) (by unfold Func.isWrapper; first | (rw [if_pos (by decide +kernel)]; kernel_rfl) | (rw [if_neg (by decide +kernel)]; exact ⟨rfl, rfl⟩))
    (fun os started H enc _ => lifted os started H enc)

theorem proved : Rows.FnExactBranchTotalsSaid :=
  over
end Go.Proofs.Ytobimpgapfecoab.fnExactBranchTotals
namespace Go.Proofs.Ytobimpgapfecoab
theorem branchTotals_holds : Rows.FnExactBranchTotalsSaid := fnExactBranchTotals.proved
#print axioms branchTotals_holds
end Go.Proofs.Ytobimpgapfecoab
