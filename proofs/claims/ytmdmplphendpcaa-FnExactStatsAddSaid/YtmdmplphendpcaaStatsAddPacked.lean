/- For all schemas, counts, examples and weights the exact law of StatsAdd returns true: the program answers the counts and the word that the specification answers, what it was handed is left as it was, the answer is new memory and a second call gives it anew. No condition. -/
import Derived.Test.YtmdmplphendpcaaRows
import Derived.WalkKit
import Derived.ProofKit
import Derived.OpenShut
import Derived.Test.YtmdmplphendpcaaStatsAddPack6
import Derived.Test.YtmdmplphendpcaaStatsAddPack7
import Derived.Test.YtmdmplphendpcaaStatsAddPack8
import Derived.Test.YtmdmplphendpcaaStatsAddPack10
import Derived.Test.YtmdmplphendpcaaStatsAddPack13
import Derived.Test.YtmdmplphendpcaaStatsAddPack15
import Derived.Test.YtmdmplphendpcaaStatsAddPack21
import Derived.Test.YtmdmplphendpcaaStatsAddPack28
import Derived.Test.YtmdmplphendpcaaStatsAddPack14
namespace Go.Proofs.Ytmdmplphendpcaa.fnExactStatsAdd
open Go.ChangeShapes Go.WideShapes Go.ChangeAt Go.RowKit
set_option linter.unusedVariables false

theorem own : ownKnob Try.prog.godebug = none := by kernel_rfl
theorem laidOut : laidOutB Try.prog = true := by kernel_rfl

theorem in_sp {base n c : Nat} {w : World} {va vc : Value} {L : Nat → Value × Value} {ys zs : List Value} {ls : List AttrD} (h : SepL base w va L ys ls n) (hc : w.ownsRow base 9 1 vc c zs) : ∀ k, InS va vc L n k → base ≤ k ∧ k < w.heap.size := by
  intro k hk
  rcases hk with (hk | ⟨j, hj, hk | hk⟩) | hk
  · exact h.row.lt k hk
  · exact (h.ints j hj).lt k hk
  · exact (h.strs j hj).lt k hk
  · exact hc.lt k hk
theorem mkK_bound {k0 M : Nat} {p q : Nat → Nat} : ∀ n, (∀ j, j < n → p j ≤ M ∧ q j ≤ M) → mkK k0 p q n ≤ k0 + n * (1 + 2 * M)
  | 0, _ => by simp [mkK]
  | n + 1, h => by
    have h1 := mkK_bound (k0 := k0) (M := M) (p := p) (q := q) n fun j hj => h j (by omega)
    have h2 := h n (by omega)
    simp only [mkK]
    rw [Nat.add_mul]
    omega
theorem fit_mark {a : SchemaD} (h : fitS a) : mkK 1 (pOf a.attrs) (qOf a.attrs) a.attrs.length ≤ 17592186044416 := by
  have h1 := mkK_bound (k0 := 1) (M := 1048576) (p := pOf a.attrs) (q := qOf a.attrs) a.attrs.length fun j hj => ⟨(h.each _ (ad_mem hj)).cuts, (h.each _ (ad_mem hj)).vals⟩
  have h2 := Nat.mul_le_mul_right (1 + 2 * 1048576) h.attrs
  omega
theorem addTo_each (s : SchemaD) (e : ExD) (x : Int) (cs : List (List Int)) (M : Nat) (h : ∀ c ∈ cs, c.length ≤ M) : ∀ k, ∀ c ∈ addTo s e x cs k, c.length ≤ M
  | 0 => h
  | k + 1 => by
    intro c hc
    unfold addTo at hc
    split at hc
    · rcases List.mem_or_eq_of_mem_set hc with hc | rfl
      · exact addTo_each s e x cs M h k c hc
      · unfold cellPut
        rw [List.length_set]
        by_cases hk : k < cs.length
        · exact h _ (il_mem hk)
        · simp [il, List.getElem?_eq_none (Nat.le_of_not_lt hk)]
    · exact addTo_each s e x cs M h k c hc
theorem fit_add (s : SchemaD) (t : StatsD) (e : ExD) (x : Int) (h : fitSt t) : fitSt (statsAdd s t e x) := by
  unfold statsAdd
  split
  · refine ⟨?_, ?_, addTo_each s e x _ _ h.each _⟩
    · show (cellPut t.totals _ x).length ≤ _
      unfold cellPut
      rw [List.length_set]; exact h.totals
    · show (addTo s e x t.cells _).length ≤ _
      rw [addTo_len]; exact h.cells
  · exact h

set_option maxRecDepth 100000 in
set_option maxHeartbeats 6400000 in
set_option linter.unusedSimpArgs false in
theorem walk (v0 : Value) (a0 : SchemaD) (v1 : Value) (a1 : StatsD) (v2 : Value) (a2 : ExD) (a3 : Int) (w : World) (ha0 : SchemaAt w v0 a0) (hi0 : inS a0) (ha1 : StatsAt w v1 a1) (hi1 : inSt a1) (ha2 : ExAt w v2 a2) (hi2 : inE a2) (_ : -9223372036854775808 ≤ a3) (_ : a3 ≤ 9223372036854775807) :
    Calls Try.prog 8 #[v0, v1, v2, .int .i64 a3] w fun e w' => e = .returned (.bool true) ∧ Below w.heap.size w w' := by
  have HHA0 : Hid (∀ W, Below w.heap.size w W → SchemaAt W v0 a0) := fun W h => ha0.later h
  obtain ⟨y1, y2, rfl, rr1, rr2⟩ := id ha0
  obtain ⟨o01, c01, rfl, -, -⟩ := id rr1
  obtain ⟨o02, c02, rfl, -, -⟩ := id rr2
  clear rr1 rr2
  have HHA1 : Hid (∀ W, Below w.heap.size w W → StatsAt W v1 a1) := fun W h => ha1.later h
  obtain ⟨y1, y2, rfl, rr1, rr2⟩ := id ha1
  obtain ⟨o11, c11, rfl, -, -⟩ := id rr1
  obtain ⟨o12, c12, rfl, -, -⟩ := id rr2
  clear rr1 rr2
  have HHA2 : Hid (∀ W, Below w.heap.size w W → ExAt W v2 a2) := fun W h => ha2.later h
  obtain ⟨y1, rfl, rr1⟩ := id ha2
  obtain ⟨o21, c21, rfl, -, -⟩ := id rr1
  clear rr1
  have c0 := fun W (hW : Below w.heap.size w W) => szSchema_row _ a0 1048576 W (ha0.later hW) hi0 (by omega) (by omega)
  have HC1 : Hid (∀ W (r : Int) (_ : 0 ≤ r) (_ : r ≤ 1048576) (_ : Below w.heap.size w W), Calls Try.prog 32 #[.agg #[.slice o11 a1.totals.length c11, .slice o12 a1.cells.length c12], .int .i64 r] W fun e w' => ∃ r' : Int, e = .returned (.int .i64 r') ∧ ((0 ≤ r' ∧ r' ≤ r ∧ fitSt a1) ∨ r' = -1) ∧ Below W.heap.size W w') := fun W r h0 h1 hW => szStats_row _ a1 r W (ha1.later hW) hi1 h0 h1
  have HC2 : Hid (∀ W (r : Int) (_ : 0 ≤ r) (_ : r ≤ 1048576) (_ : Below w.heap.size w W), Calls Try.prog 34 #[.agg #[.slice o21 a2.bins.length c21, .int .i64 a2.cls], .int .i64 r] W fun e w' => ∃ r' : Int, e = .returned (.int .i64 r') ∧ ((0 ≤ r' ∧ r' ≤ r ∧ fitE a2) ∨ r' = -1) ∧ Below W.heap.size W w') := fun W r h0 h1 hW => szEx_row _ a2 r W (ha2.later hW) hi2 h0 h1
  clear ha0 hi0 ha1 hi1 ha2 hi2
  obtain ⟨KA0, KA1, KA2, B⟩ := blk_3 49 57 61 w #[.slice o01 a0.attrs.length c01, .slice o02 a0.classes.length c02] #[.slice o11 a1.totals.length c11, .slice o12 a1.cells.length c12] #[.slice o21 a2.bins.length c21, .int .i64 a2.cls]
  go_enter Try.func8, Try.ntmps8
  go_wp2_with fail
  refine (c0 _ B).mono ?_
  clear c0
  rintro e w1 ⟨r0, rfl, hr, hb⟩
  replace KA0 := KA0.below hb
  replace KA1 := KA1.below hb
  replace KA2 := KA2.below hb
  replace B := B.trans (hb.mono B.size)
  clear hb
  rcases hr with ⟨r00, r01, hf⟩ | rfl
  rotate_left
  · go_wp2
    go_ret
    exact ⟨rfl, B⟩
  have HF0 : Hid (fitS a0) := hf
  clear hf
  have r0n : ¬ r0 < 0 := by omega
  have k0 : w1.cell? ⟨w.heap.size + 1, 0, none⟩ = some (.slice o11 a1.totals.length c11) := KA1.cell 0
  have k1 : w1.cell? ⟨w.heap.size + 1, 1, none⟩ = some (.slice o12 a1.cells.length c12) := KA1.cell 1
  go_wp2_with fail
  refine (HC1.out _ r0 r00 (by omega) B).mono ?_
  clear HC1
  clear k0 k1
  rintro e w2 ⟨r1, rfl, hr, hb⟩
  replace KA0 := KA0.below hb
  replace KA1 := KA1.below hb
  replace KA2 := KA2.below hb
  replace B := B.trans (hb.mono B.size)
  clear hb
  rcases hr with ⟨r10, r11, hf⟩ | rfl
  rotate_left
  · go_wp2
    go_ret
    exact ⟨rfl, B⟩
  have HF1 : Hid (fitSt a1) := hf
  clear hf
  have r1n : ¬ r1 < 0 := by omega
  have k0 : w2.cell? ⟨w.heap.size + 1 + 1, 0, none⟩ = some (.slice o21 a2.bins.length c21) := KA2.cell 0
  have k1 : w2.cell? ⟨w.heap.size + 1 + 1, 1, none⟩ = some (.int .i64 a2.cls) := KA2.cell 1
  go_wp2_with fail
  refine (HC2.out _ r1 r10 (by omega) B).mono ?_
  clear HC2
  clear k0 k1
  rintro e w3 ⟨r2, rfl, hr, hb⟩
  replace KA0 := KA0.below hb
  replace KA1 := KA1.below hb
  replace KA2 := KA2.below hb
  replace B := B.trans (hb.mono B.size)
  clear hb
  rcases hr with ⟨r20, r21, hf⟩ | rfl
  rotate_left
  · go_wp2
    go_ret
    exact ⟨rfl, B⟩
  have HF2 : Hid (fitE a2) := hf
  clear hf
  have r2n : ¬ r2 < 0 := by omega
  have HT0 : Hid (∀ W, Below w.heap.size w W → Calls Try.prog 25 #[.agg #[.slice o01 a0.attrs.length c01, .slice o02 a0.classes.length c02]] W fun e w' => ∃ v', e = .returned v' ∧ OwnSp W.heap.size w' v' a0 ∧ Below W.heap.size W w') := fun W hW => toSchema_sep _ a0 W (HHA0.out W hW) HF0.out
  have HT1 : Hid (∀ W, Below w.heap.size w W → Calls Try.prog 33 #[.agg #[.slice o11 a1.totals.length c11, .slice o12 a1.cells.length c12]] W fun e w' => ∃ v', e = .returned v' ∧ OwnSt W.heap.size w' v' a1 ∧ Below W.heap.size W w') := fun W hW => toStats_row _ a1 W (HHA1.out W hW) HF1.out
  have HT2 : Hid (∀ W, Below w.heap.size w W → Calls Try.prog 35 #[.agg #[.slice o21 a2.bins.length c21, .int .i64 a2.cls]] W fun e w' => ∃ v', e = .returned v' ∧ OwnE W.heap.size w' v' a2 ∧ Below W.heap.size W w') := fun W hW => toEx_row _ a2 W (HHA2.out W hW) HF2.out.bins
  have HI : Hid (∀ W v0 v1 v2 (_ : SchemaAt W v0 a0) (_ : StatsAt W v1 a1) (_ : ExAt W v2 a2), Calls Try.prog 12 #[v0, v1, v2, .int .i64 a3] W fun e w' => ∃ v, e = .returned (.tuple #[v, .bool (addOk a0 a1 a2 a3)]) ∧ OwnSt W.heap.size w' v (statsAdd a0 a1 a2 a3) ∧ Below W.heap.size W w') := fun W v0 v1 v2 h0 h1 h2 => implStatsAdd_any v0 v1 v2 a0 a1 a2 a3 W h0 h1 h2 HF0.out.ok HF1.out.ok (by have := HF2.out.bins; omega)
  have HSP : Hid (∀ W v0 v1 v2 (_ : SchemaAt W v0 a0) (_ : StatsAt W v1 a1) (_ : ExAt W v2 a2), Calls Try.prog 13 #[v0, v1, v2, .int .i64 a3] W fun e w' => ∃ v, e = .returned (.tuple #[v, .bool (addOk a0 a1 a2 a3)]) ∧ OwnSt W.heap.size w' v (statsAdd a0 a1 a2 a3) ∧ Below W.heap.size W w') := fun W v0 v1 v2 h0 h1 h2 => specStatsAdd_any v0 v1 v2 a0 a1 a2 a3 W h0 h1 h2 HF0.out.ok HF1.out.ok (by have := HF2.out.bins; omega)
  have hfG : fitSt (statsAdd a0 a1 a2 a3) := fit_add a0 a1 a2 a3 HF1.out
  generalize statsAdd a0 a1 a2 a3 = G at HI HSP hfG
  generalize addOk a0 a1 a2 a3 = GB at HI HSP
  have HFG : Hid (fitSt G) := hfG
  clear hfG
  go_wp2_with fail
  have HKW : Hid (Blk 49 w3 w.heap.size #[.slice o01 a0.attrs.length c01, .slice o02 a0.classes.length c02] ∧ Blk 57 w3 (w.heap.size + 1) #[.slice o11 a1.totals.length c11, .slice o12 a1.cells.length c12] ∧ Blk 61 w3 (w.heap.size + 1 + 1) #[.slice o21 a2.bins.length c21, .int .i64 a2.cls]) := ⟨KA0, KA1, KA2⟩
  have hzW := KA2.lt
  have HBW : Hid (Below w.heap.size w w3) := B
  refine region_then (fun a a' w' => ∃ (gg bb : Nat) (pW1 pW2 : _) (dW1 dW2 : _) (LW : Nat → Value) (yW : List Value) (z1 z2 z3 : Value), a' = (((((((((((((a.put (some 38) (.agg #[.slice o01 a0.attrs.length c01, .slice o02 a0.classes.length c02])).put (some 39) (z1)).put (some 40) (.agg #[.slice o11 a1.totals.length c11, .slice o12 a1.cells.length c12])).put (some 41) (z2)).put (some 42) (.agg #[.slice o21 a2.bins.length c21, .int .i64 a2.cls])).put (some 43) (z3)).put (some 44) (.int .i64 a3)).put (some 45) (.tuple #[.agg #[.slice pW1 G.totals.length dW1, .slice pW2 G.cells.length dW2], .bool GB])).put (some 37) (.tuple #[.agg #[.slice pW1 G.totals.length dW1, .slice pW2 G.cells.length dW2], .bool GB])).put (some 46) (.agg #[.slice pW1 G.totals.length dW1, .slice pW2 G.cells.length dW2])).put (some 47) (.bool GB)).put (some 10) (.pointer (some ⟨gg, 0, none⟩))).put (some 11) (.bool GB)) ∧ w3.heap.size ≤ gg ∧ w3.heap.size ≤ bb ∧ gg < w'.heap.size ∧ Blk 31 w' gg #[.slice pW1 G.totals.length dW1, .slice pW2 G.cells.length dW2] ∧ w'.ownsRow bb 3 1 (.slice pW1 G.totals.length dW1) G.totals.length (G.totals.map (Value.int .i64)) ∧ SepII bb w' (.slice pW2 G.cells.length dW2) LW yW G.cells G.cells.length ∧ (∀ j x y, j < G.cells.length → (Value.slice pW1 G.totals.length dW1).ownBlock = some x → (LW j).ownBlock = some y → x ≠ y) ∧ Below w3.heap.size w3 w') ?_ ?_
  · clear KA0 KA1 KA2 B
    refine wp_region_held_drew (S := fun w' => Blk 49 w' w.heap.size #[.slice o01 a0.attrs.length c01, .slice o02 a0.classes.length c02] ∧ Blk 57 w' (w.heap.size + 1) #[.slice o11 a1.totals.length c11, .slice o12 a1.cells.length c12] ∧ Blk 61 w' (w.heap.size + 1 + 1) #[.slice o21 a2.bins.length c21, .int .i64 a2.cls]) (by kernel_rfl) HKW.out ?_
    intro hS
    have BV : Below w3.heap.size w3 w3.drew := below_drewN (Below.refl _ _) 1
    generalize w3.drew = V at hS BV
    refine takeL 0 (.agg #[.slice o01 a0.attrs.length c01, .slice o02 a0.classes.length c02]) rfl (by kernel_rfl) (by kernel_rfl) (by kernel_rfl) (fun _ _ _ h => nomatch h.1) (yields_row Try.underlying49 (by kernel_rfl) (by rfl) _ rfl _ rfl (fun _ h => h.1)) hS ?_
    try simp only [Act.put, List.setIfInBounds_toArray, List.set_cons_zero, List.set_cons_succ]
    refine takeL 2 (.agg #[.slice o11 a1.totals.length c11, .slice o12 a1.cells.length c12]) rfl (by kernel_rfl) (by kernel_rfl) (by kernel_rfl) (fun _ _ _ h => nomatch h.1) (yields_row Try.underlying57 (by kernel_rfl) (by rfl) _ rfl _ rfl (fun _ h => h.2.1)) hS ?_
    try simp only [Act.put, List.setIfInBounds_toArray, List.set_cons_zero, List.set_cons_succ]
    refine takeL 4 (.agg #[.slice o21 a2.bins.length c21, .int .i64 a2.cls]) rfl (by kernel_rfl) (by kernel_rfl) (by kernel_rfl) (fun _ _ _ h => nomatch h.1) (yields_row Try.underlying61 (by kernel_rfl) (by rfl) _ rfl _ rfl (fun _ h => h.2.2)) hS ?_
    try simp only [Act.put, List.setIfInBounds_toArray, List.set_cons_zero, List.set_cons_succ]
    refine takeL 6 (.int .i64 a3) rfl (by kernel_rfl) (by kernel_rfl) (by kernel_rfl) (fun _ _ _ h => nomatch h.1) (.inl ⟨by rfl, fun w _ => by rfl⟩) hS ?_
    try simp only [Act.put, List.setIfInBounds_toArray, List.set_cons_zero, List.set_cons_succ]
    refine next2L 1 11 rfl rfl (by kernel_rfl) (by rfl) (by rfl) (fun K hK => ?_) (fun K hK => ?_)
    · have dd := HT0.out V (HBW.out.trans (BV.mono HBW.out.size))
      go_simp
      refine dd.mono ?_
      rintro e U1 ⟨z1, rfl, oz, hb⟩
      refine hK _ _ ⟨hS.1.below hb, hS.2.1.below hb, hS.2.2.below hb⟩ ?_
      clear hK K dd hS
      intro hS
      replace BV := BV.trans (hb.mono BV.size)
      have x0 := oz.own.at
      clear oz
      clear hb
      refine next2L 3 11 rfl rfl (by kernel_rfl) (by rfl) (by rfl) (fun K hK => ?_) (fun K hK => ?_)
      · have dd := HT1.out U1 (HBW.out.trans (BV.mono HBW.out.size))
        go_simp
        refine dd.mono ?_
        rintro e U2 ⟨z2, rfl, oz, hb⟩
        refine hK _ _ ⟨hS.1.below hb, hS.2.1.below hb, hS.2.2.below hb⟩ ?_
        clear hK K dd hS
        intro hS
        replace BV := BV.trans (hb.mono BV.size)
        replace x0 := x0.later hb
        have x1 := oz.at
        clear oz
        clear hb
        refine next2L 5 11 rfl rfl (by kernel_rfl) (by rfl) (by rfl) (fun K hK => ?_) (fun K hK => ?_)
        · have dd := HT2.out U2 (HBW.out.trans (BV.mono HBW.out.size))
          go_simp
          refine dd.mono ?_
          rintro e U3 ⟨z3, rfl, oz, hb⟩
          refine hK _ _ ⟨hS.1.below hb, hS.2.1.below hb, hS.2.2.below hb⟩ ?_
          clear hK K dd hS
          intro hS
          replace BV := BV.trans (hb.mono BV.size)
          replace x0 := x0.later hb
          replace x1 := x1.later hb
          have x2 := oz.at
          clear oz
          clear hb
          refine next2L 7 11 rfl rfl (by kernel_rfl) (by rfl) (by rfl) (fun K hK => ?_) (fun K hK => ?_)
          · have dd := HSP.out U3 _ _ _ x0 x1 x2
            go_simp
            refine dd.mono ?_
            rintro e U4 ⟨v, rfl, hO, hb⟩
            refine hK _ _ ⟨hS.1.below hb, hS.2.1.below hb, hS.2.2.below hb⟩ ?_
            clear hK K dd hS
            intro hS
            obtain ⟨t9, c9, LW, yW, rfl, oW, sW, neW⟩ := hO
            obtain ⟨pW1, dW1, rfl⟩ := own_slice oW
            obtain ⟨pW2, dW2, rfl⟩ := own_slice sW.row
            have hbb := BV.size
            obtain ⟨bb, hbe⟩ : ∃ b, U3.heap.size = b := ⟨_, rfl⟩
            have HAL := all_st oW sW
            rw [hbe] at oW sW hbb
            clear x0 x1 x2
            replace BV := BV.trans (hb.mono BV.size)
            clear hbe hb
            refine takeL 8 (.tuple #[.agg #[.slice pW1 G.totals.length dW1, .slice pW2 G.cells.length dW2], .bool GB]) rfl (by kernel_rfl) (by kernel_rfl) (by kernel_rfl) (fun _ _ _ h => nomatch h.1) (.inl ⟨by rfl, fun w _ => by rfl⟩) hS ?_
            try simp only [Act.put, List.setIfInBounds_toArray, List.set_cons_zero, List.set_cons_succ]
            refine takeL 9 (.agg #[.slice pW1 G.totals.length dW1, .slice pW2 G.cells.length dW2]) rfl (by kernel_rfl) (by kernel_rfl) (by kernel_rfl) (fun _ _ _ h => nomatch h.1) (.inl ⟨by rfl, fun w _ => by rfl⟩) hS ?_
            try simp only [Act.put, List.setIfInBounds_toArray, List.set_cons_zero, List.set_cons_succ]
            refine takeL 10 (.bool GB) rfl (by kernel_rfl) (by kernel_rfl) (by kernel_rfl) (fun _ _ _ h => nomatch h.1) (.inl ⟨by rfl, fun w _ => by rfl⟩) hS ?_
            try simp only [Act.put, List.setIfInBounds_toArray, List.set_cons_zero, List.set_cons_succ]
            refine nextL 11 rfl (by kernel_rfl) (by rfl) fun K hK => ?_
            go_simp
            obtain ⟨T1, BN⟩ := blk_1 31 U4 #[.slice none 0 0, .slice none 0 0]
            have hg1 := BV.size
            refine hK _ _ ⟨hS.1.below BN, hS.2.1.below BN, hS.2.2.below BN⟩ ?_
            clear hK K hS
            intro hS
            replace BV := BV.trans (BN.mono BV.size)
            have HNE : ∀ k, AllSt (.slice pW1 G.totals.length dW1) (.slice pW2 G.cells.length dW2) LW G.cells.length k → k ≠ U4.heap.size := fun k hk => by have := all_st oW sW k hk; omega
            replace oW := own_below oW BN
            replace sW := sW.below BN
            obtain ⟨g, hg⟩ : ∃ g, U4.heap.size = g := ⟨_, rfl⟩
            rw [hg] at T1 hg1 HNE ⊢
            clear BN
            generalize U4.alloc (.cells #[.slice none 0 0, .slice none 0 0] 31) = U5 at hS T1 BV  oW sW
            clear hg
            refine nextL 12 rfl (by kernel_rfl) (by rfl) fun K hK => ?_
            refine wp_st_step _ _ rfl g _ _ _ _ _ _ _ _ rfl rfl T1 ?_
            simp only [Act.put]
            replace T1 := T1.setRow #[.slice pW1 G.totals.length dW1, .slice pW2 G.cells.length dW2]
            replace BV := below_row BV hg1 #[.slice pW1 G.totals.length dW1, .slice pW2 G.cells.length dW2]
            replace oW := own_setRowN oW g #[.slice pW1 G.totals.length dW1, .slice pW2 G.cells.length dW2] (fun h => HNE g (.inl h) rfl)
            replace sW := sW.setRowN g #[.slice pW1 G.totals.length dW1, .slice pW2 G.cells.length dW2] (fun h => HNE g (.inr (.inl h)) rfl) (fun j hj h => HNE g (.inr (.inr ⟨j, hj, h⟩)) rfl)
            refine hK _ _ ⟨Blk.setRow_other hS.1 _ (by omega), Blk.setRow_other hS.2.1 _ (by omega), Blk.setRow_other hS.2.2 _ (by omega)⟩ ?_
            clear hK K hS
            intro hS
            refine takeL 13 (.bool GB) rfl (by kernel_rfl) (by kernel_rfl) (by kernel_rfl) (fun _ _ _ h => nomatch h.1) (.inl ⟨by rfl, fun w _ => by rfl⟩) hS ?_
            try simp only [Act.put, List.setIfInBounds_toArray, List.set_cons_zero, List.set_cons_succ]
            refine wpAnyH_done (by kernel_rfl) ?_ _
            have hlt := T1.lt
            exact ⟨rfl, g, bb, _, _, _, _, _, _, z1, z2, z3, by simp only [Act.put, List.setIfInBounds_toArray, List.set_cons_zero, List.set_cons_succ], hg1, hbb, hlt, T1, oW, sW, neW, BV⟩
          · go_simp
            obtain ⟨T1, BN⟩ := blk_1 31 U3 #[.slice none 0 0, .slice none 0 0]
            have hg1 := BV.size
            refine hK _ _ ⟨hS.1.below BN, hS.2.1.below BN, hS.2.2.below BN⟩ ?_
            clear hK K hS
            intro hS
            replace BV := BV.trans (BN.mono BV.size)
            replace x0 := x0.later BN
            replace x1 := x1.later BN
            replace x2 := x2.later BN
            obtain ⟨g, hg⟩ : ∃ g, U3.heap.size = g := ⟨_, rfl⟩
            rw [hg] at T1 hg1 ⊢
            clear BN
            generalize U3.alloc (.cells #[.slice none 0 0, .slice none 0 0] 31) = U6 at hS T1 BV x0 x1 x2 
            clear hg
            refine nextL 7 rfl (by kernel_rfl) (by rfl) fun K hK => ?_
            have hgl := T1.lt
            have dd := HSP.out U6 _ _ _ x0 x1 x2
            go_simp
            refine dd.mono ?_
            rintro e U7 ⟨v, rfl, hO, hb⟩
            refine hK _ _ ⟨hS.1.below hb, hS.2.1.below hb, hS.2.2.below hb⟩ ?_
            clear hK K dd hS
            intro hS
            obtain ⟨t9, c9, LW, yW, rfl, oW, sW, neW⟩ := hO
            obtain ⟨pW1, dW1, rfl⟩ := own_slice oW
            obtain ⟨pW2, dW2, rfl⟩ := own_slice sW.row
            have hbb := BV.size
            obtain ⟨bb, hbe⟩ : ∃ b, U6.heap.size = b := ⟨_, rfl⟩
            have HAL := all_st oW sW
            have HNE : ∀ k, AllSt (.slice pW1 G.totals.length dW1) (.slice pW2 G.cells.length dW2) LW G.cells.length k → k ≠ g := fun k hk => by have := HAL k hk; omega
            rw [hbe] at oW sW hbb
            clear x0 x1 x2
            replace BV := BV.trans (hb.mono BV.size)
            replace T1 := T1.below hb
            clear hbe hb
            refine takeL 8 (.tuple #[.agg #[.slice pW1 G.totals.length dW1, .slice pW2 G.cells.length dW2], .bool GB]) rfl (by kernel_rfl) (by kernel_rfl) (by kernel_rfl) (fun _ _ _ h => nomatch h.1) (.inl ⟨by rfl, fun w _ => by rfl⟩) hS ?_
            try simp only [Act.put, List.setIfInBounds_toArray, List.set_cons_zero, List.set_cons_succ]
            refine takeL 9 (.agg #[.slice pW1 G.totals.length dW1, .slice pW2 G.cells.length dW2]) rfl (by kernel_rfl) (by kernel_rfl) (by kernel_rfl) (fun _ _ _ h => nomatch h.1) (.inl ⟨by rfl, fun w _ => by rfl⟩) hS ?_
            try simp only [Act.put, List.setIfInBounds_toArray, List.set_cons_zero, List.set_cons_succ]
            refine takeL 10 (.bool GB) rfl (by kernel_rfl) (by kernel_rfl) (by kernel_rfl) (fun _ _ _ h => nomatch h.1) (.inl ⟨by rfl, fun w _ => by rfl⟩) hS ?_
            try simp only [Act.put, List.setIfInBounds_toArray, List.set_cons_zero, List.set_cons_succ]
            refine nextL 12 rfl (by kernel_rfl) (by rfl) fun K hK => ?_
            refine wp_st_step _ _ rfl g _ _ _ _ _ _ _ _ rfl rfl T1 ?_
            simp only [Act.put]
            replace T1 := T1.setRow #[.slice pW1 G.totals.length dW1, .slice pW2 G.cells.length dW2]
            replace BV := below_row BV hg1 #[.slice pW1 G.totals.length dW1, .slice pW2 G.cells.length dW2]
            replace oW := own_setRowN oW g #[.slice pW1 G.totals.length dW1, .slice pW2 G.cells.length dW2] (fun h => HNE g (.inl h) rfl)
            replace sW := sW.setRowN g #[.slice pW1 G.totals.length dW1, .slice pW2 G.cells.length dW2] (fun h => HNE g (.inr (.inl h)) rfl) (fun j hj h => HNE g (.inr (.inr ⟨j, hj, h⟩)) rfl)
            refine hK _ _ ⟨Blk.setRow_other hS.1 _ (by omega), Blk.setRow_other hS.2.1 _ (by omega), Blk.setRow_other hS.2.2 _ (by omega)⟩ ?_
            clear hK K hS
            intro hS
            refine takeL 13 (.bool GB) rfl (by kernel_rfl) (by kernel_rfl) (by kernel_rfl) (fun _ _ _ h => nomatch h.1) (.inl ⟨by rfl, fun w _ => by rfl⟩) hS ?_
            try simp only [Act.put, List.setIfInBounds_toArray, List.set_cons_zero, List.set_cons_succ]
            refine wpAnyH_done (by kernel_rfl) ?_ _
            have hlt := T1.lt
            exact ⟨rfl, g, bb, _, _, _, _, _, _, z1, z2, z3, by simp only [Act.put, List.setIfInBounds_toArray, List.set_cons_zero, List.set_cons_succ], hg1, hbb, hlt, T1, oW, sW, neW, BV⟩
        · go_simp
          obtain ⟨T1, BN⟩ := blk_1 31 U2 #[.slice none 0 0, .slice none 0 0]
          have hg1 := BV.size
          refine hK _ _ ⟨hS.1.below BN, hS.2.1.below BN, hS.2.2.below BN⟩ ?_
          clear hK K hS
          intro hS
          replace BV := BV.trans (BN.mono BV.size)
          replace x0 := x0.later BN
          replace x1 := x1.later BN
          obtain ⟨g, hg⟩ : ∃ g, U2.heap.size = g := ⟨_, rfl⟩
          rw [hg] at T1 hg1 ⊢
          clear BN
          generalize U2.alloc (.cells #[.slice none 0 0, .slice none 0 0] 31) = U8 at hS T1 BV x0 x1 
          clear hg
          refine nextL 5 rfl (by kernel_rfl) (by rfl) fun K hK => ?_
          have dd := HT2.out U8 (HBW.out.trans (BV.mono HBW.out.size))
          go_simp
          refine dd.mono ?_
          rintro e U9 ⟨z3, rfl, oz, hb⟩
          refine hK _ _ ⟨hS.1.below hb, hS.2.1.below hb, hS.2.2.below hb⟩ ?_
          clear hK K dd hS
          intro hS
          replace BV := BV.trans (hb.mono BV.size)
          replace x0 := x0.later hb
          replace x1 := x1.later hb
          have x2 := oz.at
          clear oz
          replace T1 := T1.below hb
          clear hb
          refine nextL 7 rfl (by kernel_rfl) (by rfl) fun K hK => ?_
          have hgl := T1.lt
          have dd := HSP.out U9 _ _ _ x0 x1 x2
          go_simp
          refine dd.mono ?_
          rintro e U10 ⟨v, rfl, hO, hb⟩
          refine hK _ _ ⟨hS.1.below hb, hS.2.1.below hb, hS.2.2.below hb⟩ ?_
          clear hK K dd hS
          intro hS
          obtain ⟨t9, c9, LW, yW, rfl, oW, sW, neW⟩ := hO
          obtain ⟨pW1, dW1, rfl⟩ := own_slice oW
          obtain ⟨pW2, dW2, rfl⟩ := own_slice sW.row
          have hbb := BV.size
          obtain ⟨bb, hbe⟩ : ∃ b, U9.heap.size = b := ⟨_, rfl⟩
          have HAL := all_st oW sW
          have HNE : ∀ k, AllSt (.slice pW1 G.totals.length dW1) (.slice pW2 G.cells.length dW2) LW G.cells.length k → k ≠ g := fun k hk => by have := HAL k hk; omega
          rw [hbe] at oW sW hbb
          clear x0 x1 x2
          replace BV := BV.trans (hb.mono BV.size)
          replace T1 := T1.below hb
          clear hbe hb
          refine takeL 8 (.tuple #[.agg #[.slice pW1 G.totals.length dW1, .slice pW2 G.cells.length dW2], .bool GB]) rfl (by kernel_rfl) (by kernel_rfl) (by kernel_rfl) (fun _ _ _ h => nomatch h.1) (.inl ⟨by rfl, fun w _ => by rfl⟩) hS ?_
          try simp only [Act.put, List.setIfInBounds_toArray, List.set_cons_zero, List.set_cons_succ]
          refine takeL 9 (.agg #[.slice pW1 G.totals.length dW1, .slice pW2 G.cells.length dW2]) rfl (by kernel_rfl) (by kernel_rfl) (by kernel_rfl) (fun _ _ _ h => nomatch h.1) (.inl ⟨by rfl, fun w _ => by rfl⟩) hS ?_
          try simp only [Act.put, List.setIfInBounds_toArray, List.set_cons_zero, List.set_cons_succ]
          refine takeL 10 (.bool GB) rfl (by kernel_rfl) (by kernel_rfl) (by kernel_rfl) (fun _ _ _ h => nomatch h.1) (.inl ⟨by rfl, fun w _ => by rfl⟩) hS ?_
          try simp only [Act.put, List.setIfInBounds_toArray, List.set_cons_zero, List.set_cons_succ]
          refine nextL 12 rfl (by kernel_rfl) (by rfl) fun K hK => ?_
          refine wp_st_step _ _ rfl g _ _ _ _ _ _ _ _ rfl rfl T1 ?_
          simp only [Act.put]
          replace T1 := T1.setRow #[.slice pW1 G.totals.length dW1, .slice pW2 G.cells.length dW2]
          replace BV := below_row BV hg1 #[.slice pW1 G.totals.length dW1, .slice pW2 G.cells.length dW2]
          replace oW := own_setRowN oW g #[.slice pW1 G.totals.length dW1, .slice pW2 G.cells.length dW2] (fun h => HNE g (.inl h) rfl)
          replace sW := sW.setRowN g #[.slice pW1 G.totals.length dW1, .slice pW2 G.cells.length dW2] (fun h => HNE g (.inr (.inl h)) rfl) (fun j hj h => HNE g (.inr (.inr ⟨j, hj, h⟩)) rfl)
          refine hK _ _ ⟨Blk.setRow_other hS.1 _ (by omega), Blk.setRow_other hS.2.1 _ (by omega), Blk.setRow_other hS.2.2 _ (by omega)⟩ ?_
          clear hK K hS
          intro hS
          refine takeL 13 (.bool GB) rfl (by kernel_rfl) (by kernel_rfl) (by kernel_rfl) (fun _ _ _ h => nomatch h.1) (.inl ⟨by rfl, fun w _ => by rfl⟩) hS ?_
          try simp only [Act.put, List.setIfInBounds_toArray, List.set_cons_zero, List.set_cons_succ]
          refine wpAnyH_done (by kernel_rfl) ?_ _
          have hlt := T1.lt
          exact ⟨rfl, g, bb, _, _, _, _, _, _, z1, z2, z3, by simp only [Act.put, List.setIfInBounds_toArray, List.set_cons_zero, List.set_cons_succ], hg1, hbb, hlt, T1, oW, sW, neW, BV⟩
      · go_simp
        obtain ⟨T1, BN⟩ := blk_1 31 U1 #[.slice none 0 0, .slice none 0 0]
        have hg1 := BV.size
        refine hK _ _ ⟨hS.1.below BN, hS.2.1.below BN, hS.2.2.below BN⟩ ?_
        clear hK K hS
        intro hS
        replace BV := BV.trans (BN.mono BV.size)
        replace x0 := x0.later BN
        obtain ⟨g, hg⟩ : ∃ g, U1.heap.size = g := ⟨_, rfl⟩
        rw [hg] at T1 hg1 ⊢
        clear BN
        generalize U1.alloc (.cells #[.slice none 0 0, .slice none 0 0] 31) = U11 at hS T1 BV x0 
        clear hg
        refine nextL 3 rfl (by kernel_rfl) (by rfl) fun K hK => ?_
        have dd := HT1.out U11 (HBW.out.trans (BV.mono HBW.out.size))
        go_simp
        refine dd.mono ?_
        rintro e U12 ⟨z2, rfl, oz, hb⟩
        refine hK _ _ ⟨hS.1.below hb, hS.2.1.below hb, hS.2.2.below hb⟩ ?_
        clear hK K dd hS
        intro hS
        replace BV := BV.trans (hb.mono BV.size)
        replace x0 := x0.later hb
        have x1 := oz.at
        clear oz
        replace T1 := T1.below hb
        clear hb
        refine nextL 5 rfl (by kernel_rfl) (by rfl) fun K hK => ?_
        have dd := HT2.out U12 (HBW.out.trans (BV.mono HBW.out.size))
        go_simp
        refine dd.mono ?_
        rintro e U13 ⟨z3, rfl, oz, hb⟩
        refine hK _ _ ⟨hS.1.below hb, hS.2.1.below hb, hS.2.2.below hb⟩ ?_
        clear hK K dd hS
        intro hS
        replace BV := BV.trans (hb.mono BV.size)
        replace x0 := x0.later hb
        replace x1 := x1.later hb
        have x2 := oz.at
        clear oz
        replace T1 := T1.below hb
        clear hb
        refine nextL 7 rfl (by kernel_rfl) (by rfl) fun K hK => ?_
        have hgl := T1.lt
        have dd := HSP.out U13 _ _ _ x0 x1 x2
        go_simp
        refine dd.mono ?_
        rintro e U14 ⟨v, rfl, hO, hb⟩
        refine hK _ _ ⟨hS.1.below hb, hS.2.1.below hb, hS.2.2.below hb⟩ ?_
        clear hK K dd hS
        intro hS
        obtain ⟨t9, c9, LW, yW, rfl, oW, sW, neW⟩ := hO
        obtain ⟨pW1, dW1, rfl⟩ := own_slice oW
        obtain ⟨pW2, dW2, rfl⟩ := own_slice sW.row
        have hbb := BV.size
        obtain ⟨bb, hbe⟩ : ∃ b, U13.heap.size = b := ⟨_, rfl⟩
        have HAL := all_st oW sW
        have HNE : ∀ k, AllSt (.slice pW1 G.totals.length dW1) (.slice pW2 G.cells.length dW2) LW G.cells.length k → k ≠ g := fun k hk => by have := HAL k hk; omega
        rw [hbe] at oW sW hbb
        clear x0 x1 x2
        replace BV := BV.trans (hb.mono BV.size)
        replace T1 := T1.below hb
        clear hbe hb
        refine takeL 8 (.tuple #[.agg #[.slice pW1 G.totals.length dW1, .slice pW2 G.cells.length dW2], .bool GB]) rfl (by kernel_rfl) (by kernel_rfl) (by kernel_rfl) (fun _ _ _ h => nomatch h.1) (.inl ⟨by rfl, fun w _ => by rfl⟩) hS ?_
        try simp only [Act.put, List.setIfInBounds_toArray, List.set_cons_zero, List.set_cons_succ]
        refine takeL 9 (.agg #[.slice pW1 G.totals.length dW1, .slice pW2 G.cells.length dW2]) rfl (by kernel_rfl) (by kernel_rfl) (by kernel_rfl) (fun _ _ _ h => nomatch h.1) (.inl ⟨by rfl, fun w _ => by rfl⟩) hS ?_
        try simp only [Act.put, List.setIfInBounds_toArray, List.set_cons_zero, List.set_cons_succ]
        refine takeL 10 (.bool GB) rfl (by kernel_rfl) (by kernel_rfl) (by kernel_rfl) (fun _ _ _ h => nomatch h.1) (.inl ⟨by rfl, fun w _ => by rfl⟩) hS ?_
        try simp only [Act.put, List.setIfInBounds_toArray, List.set_cons_zero, List.set_cons_succ]
        refine nextL 12 rfl (by kernel_rfl) (by rfl) fun K hK => ?_
        refine wp_st_step _ _ rfl g _ _ _ _ _ _ _ _ rfl rfl T1 ?_
        simp only [Act.put]
        replace T1 := T1.setRow #[.slice pW1 G.totals.length dW1, .slice pW2 G.cells.length dW2]
        replace BV := below_row BV hg1 #[.slice pW1 G.totals.length dW1, .slice pW2 G.cells.length dW2]
        replace oW := own_setRowN oW g #[.slice pW1 G.totals.length dW1, .slice pW2 G.cells.length dW2] (fun h => HNE g (.inl h) rfl)
        replace sW := sW.setRowN g #[.slice pW1 G.totals.length dW1, .slice pW2 G.cells.length dW2] (fun h => HNE g (.inr (.inl h)) rfl) (fun j hj h => HNE g (.inr (.inr ⟨j, hj, h⟩)) rfl)
        refine hK _ _ ⟨Blk.setRow_other hS.1 _ (by omega), Blk.setRow_other hS.2.1 _ (by omega), Blk.setRow_other hS.2.2 _ (by omega)⟩ ?_
        clear hK K hS
        intro hS
        refine takeL 13 (.bool GB) rfl (by kernel_rfl) (by kernel_rfl) (by kernel_rfl) (fun _ _ _ h => nomatch h.1) (.inl ⟨by rfl, fun w _ => by rfl⟩) hS ?_
        try simp only [Act.put, List.setIfInBounds_toArray, List.set_cons_zero, List.set_cons_succ]
        refine wpAnyH_done (by kernel_rfl) ?_ _
        have hlt := T1.lt
        exact ⟨rfl, g, bb, _, _, _, _, _, _, z1, z2, z3, by simp only [Act.put, List.setIfInBounds_toArray, List.set_cons_zero, List.set_cons_succ], hg1, hbb, hlt, T1, oW, sW, neW, BV⟩
    · go_simp
      obtain ⟨T1, BN⟩ := blk_1 31 V #[.slice none 0 0, .slice none 0 0]
      have hg1 := BV.size
      refine hK _ _ ⟨hS.1.below BN, hS.2.1.below BN, hS.2.2.below BN⟩ ?_
      clear hK K hS
      intro hS
      replace BV := BV.trans (BN.mono BV.size)
      obtain ⟨g, hg⟩ : ∃ g, V.heap.size = g := ⟨_, rfl⟩
      rw [hg] at T1 hg1 ⊢
      clear BN
      generalize V.alloc (.cells #[.slice none 0 0, .slice none 0 0] 31) = U15 at hS T1 BV  
      clear hg
      refine nextL 1 rfl (by kernel_rfl) (by rfl) fun K hK => ?_
      have dd := HT0.out U15 (HBW.out.trans (BV.mono HBW.out.size))
      go_simp
      refine dd.mono ?_
      rintro e U16 ⟨z1, rfl, oz, hb⟩
      refine hK _ _ ⟨hS.1.below hb, hS.2.1.below hb, hS.2.2.below hb⟩ ?_
      clear hK K dd hS
      intro hS
      replace BV := BV.trans (hb.mono BV.size)
      have x0 := oz.own.at
      clear oz
      replace T1 := T1.below hb
      clear hb
      refine nextL 3 rfl (by kernel_rfl) (by rfl) fun K hK => ?_
      have dd := HT1.out U16 (HBW.out.trans (BV.mono HBW.out.size))
      go_simp
      refine dd.mono ?_
      rintro e U17 ⟨z2, rfl, oz, hb⟩
      refine hK _ _ ⟨hS.1.below hb, hS.2.1.below hb, hS.2.2.below hb⟩ ?_
      clear hK K dd hS
      intro hS
      replace BV := BV.trans (hb.mono BV.size)
      replace x0 := x0.later hb
      have x1 := oz.at
      clear oz
      replace T1 := T1.below hb
      clear hb
      refine nextL 5 rfl (by kernel_rfl) (by rfl) fun K hK => ?_
      have dd := HT2.out U17 (HBW.out.trans (BV.mono HBW.out.size))
      go_simp
      refine dd.mono ?_
      rintro e U18 ⟨z3, rfl, oz, hb⟩
      refine hK _ _ ⟨hS.1.below hb, hS.2.1.below hb, hS.2.2.below hb⟩ ?_
      clear hK K dd hS
      intro hS
      replace BV := BV.trans (hb.mono BV.size)
      replace x0 := x0.later hb
      replace x1 := x1.later hb
      have x2 := oz.at
      clear oz
      replace T1 := T1.below hb
      clear hb
      refine nextL 7 rfl (by kernel_rfl) (by rfl) fun K hK => ?_
      have hgl := T1.lt
      have dd := HSP.out U18 _ _ _ x0 x1 x2
      go_simp
      refine dd.mono ?_
      rintro e U19 ⟨v, rfl, hO, hb⟩
      refine hK _ _ ⟨hS.1.below hb, hS.2.1.below hb, hS.2.2.below hb⟩ ?_
      clear hK K dd hS
      intro hS
      obtain ⟨t9, c9, LW, yW, rfl, oW, sW, neW⟩ := hO
      obtain ⟨pW1, dW1, rfl⟩ := own_slice oW
      obtain ⟨pW2, dW2, rfl⟩ := own_slice sW.row
      have hbb := BV.size
      obtain ⟨bb, hbe⟩ : ∃ b, U18.heap.size = b := ⟨_, rfl⟩
      have HAL := all_st oW sW
      have HNE : ∀ k, AllSt (.slice pW1 G.totals.length dW1) (.slice pW2 G.cells.length dW2) LW G.cells.length k → k ≠ g := fun k hk => by have := HAL k hk; omega
      rw [hbe] at oW sW hbb
      clear x0 x1 x2
      replace BV := BV.trans (hb.mono BV.size)
      replace T1 := T1.below hb
      clear hbe hb
      refine takeL 8 (.tuple #[.agg #[.slice pW1 G.totals.length dW1, .slice pW2 G.cells.length dW2], .bool GB]) rfl (by kernel_rfl) (by kernel_rfl) (by kernel_rfl) (fun _ _ _ h => nomatch h.1) (.inl ⟨by rfl, fun w _ => by rfl⟩) hS ?_
      try simp only [Act.put, List.setIfInBounds_toArray, List.set_cons_zero, List.set_cons_succ]
      refine takeL 9 (.agg #[.slice pW1 G.totals.length dW1, .slice pW2 G.cells.length dW2]) rfl (by kernel_rfl) (by kernel_rfl) (by kernel_rfl) (fun _ _ _ h => nomatch h.1) (.inl ⟨by rfl, fun w _ => by rfl⟩) hS ?_
      try simp only [Act.put, List.setIfInBounds_toArray, List.set_cons_zero, List.set_cons_succ]
      refine takeL 10 (.bool GB) rfl (by kernel_rfl) (by kernel_rfl) (by kernel_rfl) (fun _ _ _ h => nomatch h.1) (.inl ⟨by rfl, fun w _ => by rfl⟩) hS ?_
      try simp only [Act.put, List.setIfInBounds_toArray, List.set_cons_zero, List.set_cons_succ]
      refine nextL 12 rfl (by kernel_rfl) (by rfl) fun K hK => ?_
      refine wp_st_step _ _ rfl g _ _ _ _ _ _ _ _ rfl rfl T1 ?_
      simp only [Act.put]
      replace T1 := T1.setRow #[.slice pW1 G.totals.length dW1, .slice pW2 G.cells.length dW2]
      replace BV := below_row BV hg1 #[.slice pW1 G.totals.length dW1, .slice pW2 G.cells.length dW2]
      replace oW := own_setRowN oW g #[.slice pW1 G.totals.length dW1, .slice pW2 G.cells.length dW2] (fun h => HNE g (.inl h) rfl)
      replace sW := sW.setRowN g #[.slice pW1 G.totals.length dW1, .slice pW2 G.cells.length dW2] (fun h => HNE g (.inr (.inl h)) rfl) (fun j hj h => HNE g (.inr (.inr ⟨j, hj, h⟩)) rfl)
      refine hK _ _ ⟨Blk.setRow_other hS.1 _ (by omega), Blk.setRow_other hS.2.1 _ (by omega), Blk.setRow_other hS.2.2 _ (by omega)⟩ ?_
      clear hK K hS
      intro hS
      refine takeL 13 (.bool GB) rfl (by kernel_rfl) (by kernel_rfl) (by kernel_rfl) (fun _ _ _ h => nomatch h.1) (.inl ⟨by rfl, fun w _ => by rfl⟩) hS ?_
      try simp only [Act.put, List.setIfInBounds_toArray, List.set_cons_zero, List.set_cons_succ]
      refine wpAnyH_done (by kernel_rfl) ?_ _
      have hlt := T1.lt
      exact ⟨rfl, g, bb, _, _, _, _, _, _, z1, z2, z3, by simp only [Act.put, List.setIfInBounds_toArray, List.set_cons_zero, List.set_cons_succ], hg1, hbb, hlt, T1, oW, sW, neW, BV⟩
  rintro a9 w4 ⟨gW, bbW, pW1, pW2, dW1, dW2, LW, yW, z1, z2, z3, rfl, hgW, hbbW, hglW, KW, oW, sW, neW, hb⟩
  simp only [Act.put, List.setIfInBounds_toArray, List.set_cons_zero, List.set_cons_succ]
  replace KA0 := KA0.below hb
  replace KA1 := KA1.below hb
  replace KA2 := KA2.below hb
  replace B := B.trans (hb.mono B.size)
  have HLW : Hid (∀ k, AllSt (.slice pW1 G.totals.length dW1) (.slice pW2 G.cells.length dW2) LW G.cells.length k → bbW ≤ k ∧ k < w4.heap.size) := all_st oW sW
  clear hb HKW HBW
  have k0 : w4.cell? ⟨w.heap.size, 0, none⟩ = some (.slice o01 a0.attrs.length c01) := KA0.cell 0
  have k1 : w4.cell? ⟨w.heap.size, 1, none⟩ = some (.slice o02 a0.classes.length c02) := KA0.cell 1
  have cc := HT0.out _ B
  go_wp2_with fail
  refine cc.mono ?_
  clear cc
  rintro e w5 ⟨v5, rfl, ho, hb⟩
  clear k0 k1
  replace KA0 := KA0.below hb
  replace KA1 := KA1.below hb
  replace KA2 := KA2.below hb
  replace B := B.trans (hb.mono B.size)
  replace oW := own_below oW hb
  replace sW := sW.below hb
  replace KW := KW.below hb
  have hsX0 := hb.size
  have hx0 := ho.own.at
  obtain ⟨y1, y2, LL0, ys0, rfl, sp0, cl0, hod⟩ := ho
  obtain ⟨p01, d01, hp1⟩ := own_form sp0.row
  obtain ⟨p02, d02, hp2⟩ := own_form cl0
  subst hp1 hp2
  have HOD0 : Hid (∀ j c b, j < a0.attrs.length → (Value.slice p02 a0.classes.length d02).ownBlock = some c → (LL0 j).2.ownBlock = some b → c ≠ b) := hod
  clear hod
  have HLX0 : Hid (∀ k, InS (.slice p01 a0.attrs.length d01) (.slice p02 a0.classes.length d02) LL0 a0.attrs.length k → w4.heap.size ≤ k ∧ k < w5.heap.size) := in_sp sp0 cl0
  clear hb
  obtain ⟨KX0, BN⟩ := blk_1 27 w5 #[.slice p01 a0.attrs.length d01, .slice p02 a0.classes.length d02]
  replace KA0 := KA0.below BN
  replace KA1 := KA1.below BN
  replace KA2 := KA2.below BN
  replace B := B.trans (BN.mono B.size)
  replace oW := own_below oW BN
  replace sW := sW.below BN
  replace KW := KW.below BN
  replace sp0 := sp0.below BN
  replace cl0 := own_below cl0 BN
  replace hx0 := hx0.later BN
  clear BN
  have k0 : (w5.alloc (.cells #[.slice p01 a0.attrs.length d01, .slice p02 a0.classes.length d02] 27)).cell? ⟨w.heap.size + 1, 0, none⟩ = some (.slice o11 a1.totals.length c11) := KA1.cell 0
  have k1 : (w5.alloc (.cells #[.slice p01 a0.attrs.length d01, .slice p02 a0.classes.length d02] 27)).cell? ⟨w.heap.size + 1, 1, none⟩ = some (.slice o12 a1.cells.length c12) := KA1.cell 1
  have cc := HT1.out _ B
  go_wp2_with fail
  refine cc.mono ?_
  clear cc
  rintro e w6 ⟨v5, rfl, ho, hb⟩
  clear k0 k1
  replace KA0 := KA0.below hb
  replace KA1 := KA1.below hb
  replace KA2 := KA2.below hb
  replace B := B.trans (hb.mono B.size)
  replace oW := own_below oW hb
  replace sW := sW.below hb
  replace KW := KW.below hb
  replace sp0 := sp0.below hb
  replace cl0 := own_below cl0 hb
  replace hx0 := hx0.later hb
  replace KX0 := KX0.below hb
  have hsX1 := hb.size
  rw [World.size_alloc] at hsX1 ho
  have hx1 := ho.at
  obtain ⟨tX1, cX1, LX1, yX1, rfl, oX1, sX1, neX1⟩ := ho
  obtain ⟨pX11, dX11, rfl⟩ := own_slice oX1
  obtain ⟨pX12, dX12, rfl⟩ := own_slice sX1.row
  have HLX1 : Hid (∀ k, AllSt (.slice pX11 a1.totals.length dX11) (.slice pX12 a1.cells.length dX12) LX1 a1.cells.length k → w5.heap.size + 1 ≤ k ∧ k < w6.heap.size) := all_st oX1 sX1
  clear hb
  obtain ⟨KX1, BN⟩ := blk_1 31 w6 #[.slice pX11 a1.totals.length dX11, .slice pX12 a1.cells.length dX12]
  replace KA0 := KA0.below BN
  replace KA1 := KA1.below BN
  replace KA2 := KA2.below BN
  replace B := B.trans (BN.mono B.size)
  replace oW := own_below oW BN
  replace sW := sW.below BN
  replace KW := KW.below BN
  replace sp0 := sp0.below BN
  replace cl0 := own_below cl0 BN
  replace hx0 := hx0.later BN
  replace KX0 := KX0.below BN
  replace oX1 := own_below oX1 BN
  replace sX1 := sX1.below BN
  replace hx1 := hx1.later BN
  clear BN
  have k0 : (w6.alloc (.cells #[.slice pX11 a1.totals.length dX11, .slice pX12 a1.cells.length dX12] 31)).cell? ⟨w.heap.size + 1 + 1, 0, none⟩ = some (.slice o21 a2.bins.length c21) := KA2.cell 0
  have k1 : (w6.alloc (.cells #[.slice pX11 a1.totals.length dX11, .slice pX12 a1.cells.length dX12] 31)).cell? ⟨w.heap.size + 1 + 1, 1, none⟩ = some (.int .i64 a2.cls) := KA2.cell 1
  have cc := HT2.out _ B
  go_wp2_with fail
  refine cc.mono ?_
  clear cc
  rintro e w7 ⟨v5, rfl, ho, hb⟩
  clear k0 k1
  replace KA0 := KA0.below hb
  replace KA1 := KA1.below hb
  replace KA2 := KA2.below hb
  replace B := B.trans (hb.mono B.size)
  replace oW := own_below oW hb
  replace sW := sW.below hb
  replace KW := KW.below hb
  replace sp0 := sp0.below hb
  replace cl0 := own_below cl0 hb
  replace hx0 := hx0.later hb
  replace KX0 := KX0.below hb
  replace oX1 := own_below oX1 hb
  replace sX1 := sX1.below hb
  replace hx1 := hx1.later hb
  replace KX1 := KX1.below hb
  have hsX2 := hb.size
  rw [World.size_alloc] at hsX2 ho
  have hx2 := ho.at
  obtain ⟨y1, rfl, oX2⟩ := ho
  obtain ⟨pX21, dX21, rfl⟩ := own_slice oX2
  have HLX2 : Hid (∀ k, (Value.slice pX21 a2.bins.length dX21).ownBlock = some k → w6.heap.size + 1 ≤ k ∧ k < w7.heap.size) := oX2.lt
  clear hb
  obtain ⟨KX2, BN⟩ := blk_1 33 w7 #[.slice pX21 a2.bins.length dX21, .int .i64 a2.cls]
  replace KA0 := KA0.below BN
  replace KA1 := KA1.below BN
  replace KA2 := KA2.below BN
  replace B := B.trans (BN.mono B.size)
  replace oW := own_below oW BN
  replace sW := sW.below BN
  replace KW := KW.below BN
  replace sp0 := sp0.below BN
  replace cl0 := own_below cl0 BN
  replace hx0 := hx0.later BN
  replace KX0 := KX0.below BN
  replace oX1 := own_below oX1 BN
  replace sX1 := sX1.below BN
  replace hx1 := hx1.later BN
  replace KX1 := KX1.below BN
  replace oX2 := own_below oX2 BN
  replace hx2 := hx2.later BN
  clear BN
  have k00 : (w7.alloc (.cells #[.slice pX21 a2.bins.length dX21, .int .i64 a2.cls] 33)).cell? ⟨w5.heap.size, 0, none⟩ = some (.slice p01 a0.attrs.length d01) := KX0.cell 0
  have k01 : (w7.alloc (.cells #[.slice pX21 a2.bins.length dX21, .int .i64 a2.cls] 33)).cell? ⟨w5.heap.size, 1, none⟩ = some (.slice p02 a0.classes.length d02) := KX0.cell 1
  have k10 : (w7.alloc (.cells #[.slice pX21 a2.bins.length dX21, .int .i64 a2.cls] 33)).cell? ⟨w6.heap.size, 0, none⟩ = some (.slice pX11 a1.totals.length dX11) := KX1.cell 0
  have k11 : (w7.alloc (.cells #[.slice pX21 a2.bins.length dX21, .int .i64 a2.cls] 33)).cell? ⟨w6.heap.size, 1, none⟩ = some (.slice pX12 a1.cells.length dX12) := KX1.cell 1
  have k20 : (w7.alloc (.cells #[.slice pX21 a2.bins.length dX21, .int .i64 a2.cls] 33)).cell? ⟨w7.heap.size, 0, none⟩ = some (.slice pX21 a2.bins.length dX21) := KX2.cell 0
  have k21 : (w7.alloc (.cells #[.slice pX21 a2.bins.length dX21, .int .i64 a2.cls] 33)).cell? ⟨w7.heap.size, 1, none⟩ = some (.int .i64 a2.cls) := KX2.cell 1
  have cc := HI.out _ _ _ _ hx0 hx1 hx2
  go_wp2_with fail
  refine cc.mono ?_
  clear cc
  rintro e w8 ⟨v7, rfl, hO, hb⟩
  clear k00 k01
  clear k10 k11
  clear k20 k21
  obtain ⟨tG, cG, LG, yG, rfl, oG, sG, neG⟩ := hO
  obtain ⟨pG1, dG1, rfl⟩ := own_slice oG
  obtain ⟨pG2, dG2, rfl⟩ := own_slice sG.row
  replace KA0 := KA0.below hb
  replace KA1 := KA1.below hb
  replace KA2 := KA2.below hb
  replace B := B.trans (hb.mono B.size)
  replace oW := own_below oW hb
  replace sW := sW.below hb
  replace KW := KW.below hb
  replace sp0 := sp0.below hb
  replace cl0 := own_below cl0 hb
  replace hx0 := hx0.later hb
  replace KX0 := KX0.below hb
  replace oX1 := own_below oX1 hb
  replace sX1 := sX1.below hb
  replace hx1 := hx1.later hb
  replace KX1 := KX1.below hb
  replace oX2 := own_below oX2 hb
  replace hx2 := hx2.later hb
  replace KX2 := KX2.below hb
  have hsG := hb.size
  rw [World.size_alloc] at hsG
  have HLG : Hid (∀ k, AllSt (.slice pG1 G.totals.length dG1) (.slice pG2 G.cells.length dG2) LG G.cells.length k → w7.heap.size + 1 ≤ k ∧ k < w8.heap.size) := fun k hk => by have h := all_st oG sG k hk; simpa using h
  clear hb
  obtain ⟨KG, BN⟩ := blk_1 31 w8 #[.slice pG1 G.totals.length dG1, .slice pG2 G.cells.length dG2]
  replace KA0 := KA0.below BN
  replace KA1 := KA1.below BN
  replace KA2 := KA2.below BN
  replace B := B.trans (BN.mono B.size)
  replace oW := own_below oW BN
  replace sW := sW.below BN
  replace KW := KW.below BN
  replace sp0 := sp0.below BN
  replace cl0 := own_below cl0 BN
  replace hx0 := hx0.later BN
  replace KX0 := KX0.below BN
  replace oX1 := own_below oX1 BN
  replace sX1 := sX1.below BN
  replace hx1 := hx1.later BN
  replace KX1 := KX1.below BN
  replace oX2 := own_below oX2 BN
  replace hx2 := hx2.later BN
  replace KX2 := KX2.below BN
  replace oG := own_below oG BN
  replace sG := sG.below BN
  clear BN
  have kw0 : (w8.alloc (.cells #[.slice pG1 G.totals.length dG1, .slice pG2 G.cells.length dG2] 31)).cell? ⟨gW, 0, none⟩ = some (.slice pW1 G.totals.length dW1) := KW.cell 0
  have kw1 : (w8.alloc (.cells #[.slice pG1 G.totals.length dG1, .slice pG2 G.cells.length dG2] 31)).cell? ⟨gW, 1, none⟩ = some (.slice pW2 G.cells.length dW2) := KW.cell 1
  have kg0 : (w8.alloc (.cells #[.slice pG1 G.totals.length dG1, .slice pG2 G.cells.length dG2] 31)).cell? ⟨w8.heap.size, 0, none⟩ = some (.slice pG1 G.totals.length dG1) := KG.cell 0
  have kg1 : (w8.alloc (.cells #[.slice pG1 G.totals.length dG1, .slice pG2 G.cells.length dG2] 31)).cell? ⟨w8.heap.size, 1, none⟩ = some (.slice pG2 G.cells.length dG2) := KG.cell 1
  have cc := eqStats_row (.agg #[.slice pG1 G.totals.length dG1, .slice pG2 G.cells.length dG2]) (.agg #[.slice pW1 G.totals.length dW1, .slice pW2 G.cells.length dW2]) G (w8.alloc (.cells #[.slice pG1 G.totals.length dG1, .slice pG2 G.cells.length dG2] 31)) ⟨_, _, rfl, RowI.of_own oG rfl, sG.at⟩ ⟨_, _, rfl, RowI.of_own oW rfl, sW.at⟩ HFG.out.ok
  go_wp2_with fail
  refine cc.mono ?_
  clear cc
  rintro e w9 ⟨rfl, hb⟩
  clear kw0 kw1
  clear kg0 kg1
  replace KA0 := KA0.below hb
  replace KA1 := KA1.below hb
  replace KA2 := KA2.below hb
  replace B := B.trans (hb.mono B.size)
  replace oW := own_below oW hb
  replace sW := sW.below hb
  replace KW := KW.below hb
  replace sp0 := sp0.below hb
  replace cl0 := own_below cl0 hb
  replace hx0 := hx0.later hb
  replace KX0 := KX0.below hb
  replace oX1 := own_below oX1 hb
  replace sX1 := sX1.below hb
  replace hx1 := hx1.later hb
  replace KX1 := KX1.below hb
  replace oX2 := own_below oX2 hb
  replace hx2 := hx2.later hb
  replace KX2 := KX2.below hb
  replace oG := own_below oG hb
  replace sG := sG.below hb
  replace KG := KG.below hb
  clear hb
  go_wp2_with fail
  refine wp_region_held_drew (S := fun w' => Blk 49 w' (w.heap.size) #[.slice o01 a0.attrs.length c01, .slice o02 a0.classes.length c02] ∧ Blk 27 w' w5.heap.size #[.slice p01 a0.attrs.length d01, .slice p02 a0.classes.length d02]) (by kernel_rfl) ⟨KA0, KX0⟩ ?_
  intro hS
  have bd : Below w9.heap.size w9 w9.drew := below_drewN (Below.refl _ _) 1
  replace KA0 := KA0.below bd
  replace KA1 := KA1.below bd
  replace KA2 := KA2.below bd
  replace B := B.trans (bd.mono B.size)
  replace oW := own_below oW bd
  replace sW := sW.below bd
  replace KW := KW.below bd
  replace sp0 := sp0.below bd
  replace cl0 := own_below cl0 bd
  replace hx0 := hx0.later bd
  replace KX0 := KX0.below bd
  replace oX1 := own_below oX1 bd
  replace sX1 := sX1.below bd
  replace hx1 := hx1.later bd
  replace KX1 := KX1.below bd
  replace oX2 := own_below oX2 bd
  replace hx2 := hx2.later bd
  replace KX2 := KX2.below bd
  replace oG := own_below oG bd
  replace sG := sG.below bd
  replace KG := KG.below bd
  clear bd
  generalize w9.drew = w10 at hS KA0 KA1 KA2 B oW sW KW sp0 cl0 hx0 KX0 oX1 sX1 hx1 KX1 oX2 hx2 KX2 oG sG KG
  refine takeL 0 (.agg #[.slice p01 a0.attrs.length d01, .slice p02 a0.classes.length d02]) rfl (by kernel_rfl) (by kernel_rfl) (by kernel_rfl) (fun _ _ _ h => h) (yields_row Try.underlying27 (by kernel_rfl) (by rfl) _ rfl _ rfl (fun _ h => h.2)) hS ?_
  try simp only [Act.put, List.setIfInBounds_toArray, List.set_cons_zero, List.set_cons_succ]
  refine takeL 1 (.agg #[.slice o01 a0.attrs.length c01, .slice o02 a0.classes.length c02]) rfl (by kernel_rfl) (by kernel_rfl) (by kernel_rfl) (fun _ _ _ h => h) (yields_row Try.underlying49 (by kernel_rfl) (by rfl) _ rfl _ rfl (fun _ h => h.1)) hS ?_
  try simp only [Act.put, List.setIfInBounds_toArray, List.set_cons_zero, List.set_cons_succ]
  refine nextL 2 rfl (by kernel_rfl) (by rfl) fun K hK => ?_
  have dd := HT0.out w10 B
  go_simp
  refine dd.mono ?_
  rintro e w11 ⟨zz, rfl, hzz, hb⟩
  refine hK _ _ ⟨hS.1.below hb, hS.2.below hb⟩ ?_
  clear hK K dd
  intro hS
  replace KA0 := KA0.below hb
  replace KA1 := KA1.below hb
  replace KA2 := KA2.below hb
  replace B := B.trans (hb.mono B.size)
  replace oW := own_below oW hb
  replace sW := sW.below hb
  replace KW := KW.below hb
  replace sp0 := sp0.below hb
  replace cl0 := own_below cl0 hb
  replace hx0 := hx0.later hb
  replace KX0 := KX0.below hb
  replace oX1 := own_below oX1 hb
  replace sX1 := sX1.below hb
  replace hx1 := hx1.later hb
  replace KX1 := KX1.below hb
  replace oX2 := own_below oX2 hb
  replace hx2 := hx2.later hb
  replace KX2 := KX2.below hb
  replace oG := own_below oG hb
  replace sG := sG.below hb
  replace KG := KG.below hb
  clear hb
  refine nextL 3 rfl (by kernel_rfl) (by rfl) fun K hK => ?_
  have dd := eqSchema_row _ zz a0 w11 hx0 hzz.own.at HF0.out.ok
  go_simp
  refine dd.mono ?_
  rintro e w12 ⟨rfl, hb⟩
  refine hK _ _ ⟨hS.1.below hb, hS.2.below hb⟩ ?_
  clear hK K dd hzz
  intro hS
  replace KA0 := KA0.below hb
  replace KA1 := KA1.below hb
  replace KA2 := KA2.below hb
  replace B := B.trans (hb.mono B.size)
  replace oW := own_below oW hb
  replace sW := sW.below hb
  replace KW := KW.below hb
  replace sp0 := sp0.below hb
  replace cl0 := own_below cl0 hb
  replace hx0 := hx0.later hb
  replace KX0 := KX0.below hb
  replace oX1 := own_below oX1 hb
  replace sX1 := sX1.below hb
  replace hx1 := hx1.later hb
  replace KX1 := KX1.below hb
  replace oX2 := own_below oX2 hb
  replace hx2 := hx2.later hb
  replace KX2 := KX2.below hb
  replace oG := own_below oG hb
  replace sG := sG.below hb
  replace KG := KG.below hb
  clear hb
  refine takeL 4 (.bool false) rfl (by kernel_rfl) (by kernel_rfl) (by kernel_rfl) (fun _ _ _ h => h) (.inl ⟨by rfl, fun w _ => by rfl⟩) hS ?_
  try simp only [Act.put, List.setIfInBounds_toArray, List.set_cons_zero, List.set_cons_succ]
  refine wpAnyH_done (by kernel_rfl) ?_ _
  clear hS
  go_wp2_with fail
  refine wp_region_held_drew (S := fun w' => Blk 57 w' (w.heap.size + 1) #[.slice o11 a1.totals.length c11, .slice o12 a1.cells.length c12] ∧ Blk 31 w' w6.heap.size #[.slice pX11 a1.totals.length dX11, .slice pX12 a1.cells.length dX12]) (by kernel_rfl) ⟨KA1, KX1⟩ ?_
  intro hS
  have bd : Below w12.heap.size w12 w12.drew := below_drewN (Below.refl _ _) 1
  replace KA0 := KA0.below bd
  replace KA1 := KA1.below bd
  replace KA2 := KA2.below bd
  replace B := B.trans (bd.mono B.size)
  replace oW := own_below oW bd
  replace sW := sW.below bd
  replace KW := KW.below bd
  replace sp0 := sp0.below bd
  replace cl0 := own_below cl0 bd
  replace hx0 := hx0.later bd
  replace KX0 := KX0.below bd
  replace oX1 := own_below oX1 bd
  replace sX1 := sX1.below bd
  replace hx1 := hx1.later bd
  replace KX1 := KX1.below bd
  replace oX2 := own_below oX2 bd
  replace hx2 := hx2.later bd
  replace KX2 := KX2.below bd
  replace oG := own_below oG bd
  replace sG := sG.below bd
  replace KG := KG.below bd
  clear bd
  generalize w12.drew = w13 at hS KA0 KA1 KA2 B oW sW KW sp0 cl0 hx0 KX0 oX1 sX1 hx1 KX1 oX2 hx2 KX2 oG sG KG
  refine takeL 0 (.agg #[.slice pX11 a1.totals.length dX11, .slice pX12 a1.cells.length dX12]) rfl (by kernel_rfl) (by kernel_rfl) (by kernel_rfl) (fun _ _ _ h => h) (yields_row Try.underlying31 (by kernel_rfl) (by rfl) _ rfl _ rfl (fun _ h => h.2)) hS ?_
  try simp only [Act.put, List.setIfInBounds_toArray, List.set_cons_zero, List.set_cons_succ]
  refine takeL 1 (.agg #[.slice o11 a1.totals.length c11, .slice o12 a1.cells.length c12]) rfl (by kernel_rfl) (by kernel_rfl) (by kernel_rfl) (fun _ _ _ h => h) (yields_row Try.underlying57 (by kernel_rfl) (by rfl) _ rfl _ rfl (fun _ h => h.1)) hS ?_
  try simp only [Act.put, List.setIfInBounds_toArray, List.set_cons_zero, List.set_cons_succ]
  refine nextL 2 rfl (by kernel_rfl) (by rfl) fun K hK => ?_
  have dd := HT1.out w13 B
  go_simp
  refine dd.mono ?_
  rintro e w14 ⟨zz, rfl, hzz, hb⟩
  refine hK _ _ ⟨hS.1.below hb, hS.2.below hb⟩ ?_
  clear hK K dd
  intro hS
  replace KA0 := KA0.below hb
  replace KA1 := KA1.below hb
  replace KA2 := KA2.below hb
  replace B := B.trans (hb.mono B.size)
  replace oW := own_below oW hb
  replace sW := sW.below hb
  replace KW := KW.below hb
  replace sp0 := sp0.below hb
  replace cl0 := own_below cl0 hb
  replace hx0 := hx0.later hb
  replace KX0 := KX0.below hb
  replace oX1 := own_below oX1 hb
  replace sX1 := sX1.below hb
  replace hx1 := hx1.later hb
  replace KX1 := KX1.below hb
  replace oX2 := own_below oX2 hb
  replace hx2 := hx2.later hb
  replace KX2 := KX2.below hb
  replace oG := own_below oG hb
  replace sG := sG.below hb
  replace KG := KG.below hb
  clear hb
  refine nextL 3 rfl (by kernel_rfl) (by rfl) fun K hK => ?_
  have dd := eqStats_row _ zz a1 w14 hx1 hzz.at HF1.out.ok
  go_simp
  refine dd.mono ?_
  rintro e w15 ⟨rfl, hb⟩
  refine hK _ _ ⟨hS.1.below hb, hS.2.below hb⟩ ?_
  clear hK K dd hzz
  intro hS
  replace KA0 := KA0.below hb
  replace KA1 := KA1.below hb
  replace KA2 := KA2.below hb
  replace B := B.trans (hb.mono B.size)
  replace oW := own_below oW hb
  replace sW := sW.below hb
  replace KW := KW.below hb
  replace sp0 := sp0.below hb
  replace cl0 := own_below cl0 hb
  replace hx0 := hx0.later hb
  replace KX0 := KX0.below hb
  replace oX1 := own_below oX1 hb
  replace sX1 := sX1.below hb
  replace hx1 := hx1.later hb
  replace KX1 := KX1.below hb
  replace oX2 := own_below oX2 hb
  replace hx2 := hx2.later hb
  replace KX2 := KX2.below hb
  replace oG := own_below oG hb
  replace sG := sG.below hb
  replace KG := KG.below hb
  clear hb
  refine takeL 4 (.bool false) rfl (by kernel_rfl) (by kernel_rfl) (by kernel_rfl) (fun _ _ _ h => h) (.inl ⟨by rfl, fun w _ => by rfl⟩) hS ?_
  try simp only [Act.put, List.setIfInBounds_toArray, List.set_cons_zero, List.set_cons_succ]
  refine wpAnyH_done (by kernel_rfl) ?_ _
  clear hS
  go_wp2_with fail
  refine wp_region_held_drew (S := fun w' => Blk 61 w' (w.heap.size + 1 + 1) #[.slice o21 a2.bins.length c21, .int .i64 a2.cls] ∧ Blk 33 w' w7.heap.size #[.slice pX21 a2.bins.length dX21, .int .i64 a2.cls]) (by kernel_rfl) ⟨KA2, KX2⟩ ?_
  intro hS
  have bd : Below w15.heap.size w15 w15.drew := below_drewN (Below.refl _ _) 1
  replace KA0 := KA0.below bd
  replace KA1 := KA1.below bd
  replace KA2 := KA2.below bd
  replace B := B.trans (bd.mono B.size)
  replace oW := own_below oW bd
  replace sW := sW.below bd
  replace KW := KW.below bd
  replace sp0 := sp0.below bd
  replace cl0 := own_below cl0 bd
  replace hx0 := hx0.later bd
  replace KX0 := KX0.below bd
  replace oX1 := own_below oX1 bd
  replace sX1 := sX1.below bd
  replace hx1 := hx1.later bd
  replace KX1 := KX1.below bd
  replace oX2 := own_below oX2 bd
  replace hx2 := hx2.later bd
  replace KX2 := KX2.below bd
  replace oG := own_below oG bd
  replace sG := sG.below bd
  replace KG := KG.below bd
  clear bd
  generalize w15.drew = w16 at hS KA0 KA1 KA2 B oW sW KW sp0 cl0 hx0 KX0 oX1 sX1 hx1 KX1 oX2 hx2 KX2 oG sG KG
  refine takeL 0 (.agg #[.slice pX21 a2.bins.length dX21, .int .i64 a2.cls]) rfl (by kernel_rfl) (by kernel_rfl) (by kernel_rfl) (fun _ _ _ h => h) (yields_row Try.underlying33 (by kernel_rfl) (by rfl) _ rfl _ rfl (fun _ h => h.2)) hS ?_
  try simp only [Act.put, List.setIfInBounds_toArray, List.set_cons_zero, List.set_cons_succ]
  refine takeL 1 (.agg #[.slice o21 a2.bins.length c21, .int .i64 a2.cls]) rfl (by kernel_rfl) (by kernel_rfl) (by kernel_rfl) (fun _ _ _ h => h) (yields_row Try.underlying61 (by kernel_rfl) (by rfl) _ rfl _ rfl (fun _ h => h.1)) hS ?_
  try simp only [Act.put, List.setIfInBounds_toArray, List.set_cons_zero, List.set_cons_succ]
  refine nextL 2 rfl (by kernel_rfl) (by rfl) fun K hK => ?_
  have dd := HT2.out w16 B
  go_simp
  refine dd.mono ?_
  rintro e w17 ⟨zz, rfl, hzz, hb⟩
  refine hK _ _ ⟨hS.1.below hb, hS.2.below hb⟩ ?_
  clear hK K dd
  intro hS
  replace KA0 := KA0.below hb
  replace KA1 := KA1.below hb
  replace KA2 := KA2.below hb
  replace B := B.trans (hb.mono B.size)
  replace oW := own_below oW hb
  replace sW := sW.below hb
  replace KW := KW.below hb
  replace sp0 := sp0.below hb
  replace cl0 := own_below cl0 hb
  replace hx0 := hx0.later hb
  replace KX0 := KX0.below hb
  replace oX1 := own_below oX1 hb
  replace sX1 := sX1.below hb
  replace hx1 := hx1.later hb
  replace KX1 := KX1.below hb
  replace oX2 := own_below oX2 hb
  replace hx2 := hx2.later hb
  replace KX2 := KX2.below hb
  replace oG := own_below oG hb
  replace sG := sG.below hb
  replace KG := KG.below hb
  clear hb
  refine nextL 3 rfl (by kernel_rfl) (by rfl) fun K hK => ?_
  have dd := eqEx_row _ zz a2 w17 hx2 hzz.at (by have := HF2.out.bins; omega)
  go_simp
  refine dd.mono ?_
  rintro e w18 ⟨rfl, hb⟩
  refine hK _ _ ⟨hS.1.below hb, hS.2.below hb⟩ ?_
  clear hK K dd hzz
  intro hS
  replace KA0 := KA0.below hb
  replace KA1 := KA1.below hb
  replace KA2 := KA2.below hb
  replace B := B.trans (hb.mono B.size)
  replace oW := own_below oW hb
  replace sW := sW.below hb
  replace KW := KW.below hb
  replace sp0 := sp0.below hb
  replace cl0 := own_below cl0 hb
  replace hx0 := hx0.later hb
  replace KX0 := KX0.below hb
  replace oX1 := own_below oX1 hb
  replace sX1 := sX1.below hb
  replace hx1 := hx1.later hb
  replace KX1 := KX1.below hb
  replace oX2 := own_below oX2 hb
  replace hx2 := hx2.later hb
  replace KX2 := KX2.below hb
  replace oG := own_below oG hb
  replace sG := sG.below hb
  replace KG := KG.below hb
  clear hb
  refine takeL 4 (.bool false) rfl (by kernel_rfl) (by kernel_rfl) (by kernel_rfl) (fun _ _ _ h => h) (.inl ⟨by rfl, fun w _ => by rfl⟩) hS ?_
  try simp only [Act.put, List.setIfInBounds_toArray, List.set_cons_zero, List.set_cons_succ]
  refine wpAnyH_done (by kernel_rfl) ?_ _
  clear hS
  clear hx0 hx1 hx2
  have HN : Hid (w.heap.size + 1 + 1 < gW ∧ gW < w4.heap.size ∧ w4.heap.size ≤ w5.heap.size ∧ w5.heap.size + 1 ≤ w6.heap.size ∧ w6.heap.size + 1 ≤ w7.heap.size ∧ w7.heap.size + 1 ≤ w8.heap.size) := ⟨by omega, by omega, by omega, by omega, by omega, by omega⟩
  have k0 : w18.cell? ⟨w5.heap.size, 0, none⟩ = some (.slice p01 a0.attrs.length d01) := KX0.cell 0
  have k1 : w18.cell? ⟨w5.heap.size, 1, none⟩ = some (.slice p02 a0.classes.length d02) := KX0.cell 1
  have hK0 := fit_mark HF0.out
  have hfc := HF0.out.classes
  have cM := markSchema_any _ _ LL0 ys0 _ a0.attrs a0.attrs.length a0.classes.length (_) 1 w18 sp0 cl0 (fun j x y hj hx hy => HOD0.out j x y hj hx hy) HF0.out.attrs HF0.out.classes (by omega) (by omega)
  generalize hZ0 : mkK 1 (pOf a0.attrs) (qOf a0.attrs) a0.attrs.length = KN0 at cM hK0
  clear hZ0
  obtain ⟨Z0, hZ0⟩ : ∃ Z, Z = KN0 + a0.classes.length := ⟨_, rfl⟩
  rw [← hZ0] at cM
  have hb0 : Z0 ≤ 17592186044416 + 1048576 := by omega
  clear hZ0
  go_wp2_with fail
  refine cM.mono ?_
  rintro e w19 ⟨rfl, -, hg⟩
  clear cM
  clear k0 k1
  clear sp0 cl0 KX0
  replace KA0 := hg.blk KA0 (fun e => by have h := HLX0.out _ e; have hN := HN.out; omega)
  replace KA1 := hg.blk KA1 (fun e => by have h := HLX0.out _ e; have hN := HN.out; omega)
  replace KA2 := hg.blk KA2 (fun e => by have h := HLX0.out _ e; have hN := HN.out; omega)
  replace B := hg.below B B.size (fun k hk => by have h := HLX0.out k hk; have hN := HN.out; omega)
  replace oW := own_keptS oW hg (fun k hk e => by have h := HLX0.out _ e; have h2 := HLW.out k (.inl hk); have hN := HN.out; omega)
  replace sW := sW.keptS hg (fun k hk e => by have h := HLX0.out _ e; have h2 := HLW.out k (.inr (.inl hk)); have hN := HN.out; omega) (fun k hk e => by have h := HLX0.out _ e; have h2 := HLW.out k (.inr (.inr hk)); have hN := HN.out; omega)
  replace KW := hg.blk KW (fun e => by have h := HLX0.out _ e; have hN := HN.out; omega)
  replace oX1 := own_keptS oX1 hg (fun k hk e => by have h := HLX0.out _ e; have h2 := HLX1.out k (.inl hk); have hN := HN.out; omega)
  replace sX1 := sX1.keptS hg (fun k hk e => by have h := HLX0.out _ e; have h2 := HLX1.out k (.inr (.inl hk)); have hN := HN.out; omega) (fun k hk e => by have h := HLX0.out _ e; have h2 := HLX1.out k (.inr (.inr hk)); have hN := HN.out; omega)
  replace KX1 := hg.blk KX1 (fun e => by have h := HLX0.out _ e; have hN := HN.out; omega)
  replace oX2 := own_keptS oX2 hg (fun k hk e => by have h := HLX0.out _ e; have h2 := HLX2.out k (hk); have hN := HN.out; omega)
  replace KX2 := hg.blk KX2 (fun e => by have h := HLX0.out _ e; have hN := HN.out; omega)
  replace oG := own_keptS oG hg (fun k hk e => by have h := HLX0.out _ e; have h2 := HLG.out k (.inl hk); have hN := HN.out; omega)
  replace sG := sG.keptS hg (fun k hk e => by have h := HLX0.out _ e; have h2 := HLG.out k (.inr (.inl hk)); have hN := HN.out; omega) (fun k hk e => by have h := HLX0.out _ e; have h2 := HLG.out k (.inr (.inr hk)); have hN := HN.out; omega)
  replace KG := hg.blk KG (fun e => by have h := HLX0.out _ e; have hN := HN.out; omega)
  clear hg
  have k0 : w19.cell? ⟨w6.heap.size, 0, none⟩ = some (.slice pX11 a1.totals.length dX11) := KX1.cell 0
  have k1 : w19.cell? ⟨w6.heap.size, 1, none⟩ = some (.slice pX12 a1.cells.length dX12) := KX1.cell 1
  have hK1 := fitSt_mark HF1.out (Z0 + a1.totals.length)
  have hft := HF1.out.totals
  have cM := markStats_any _ _ LX1 _ yX1 a1.cells a1.cells.length a1.totals.length (_) Z0 w19 oX1 sX1 (fun j x y hj hx hy => neX1 j x y hj hx hy) HF1.out.cells HF1.out.totals (by omega)
  generalize mkC (Z0 + a1.totals.length) (lenL a1.cells) a1.cells.length = Z1 at cM hK1
  have hb1 : Z1 ≤ 17592186044416 + 1048576 + 1048576 + 1099511627776 := by omega
  go_wp2_with fail
  refine cM.mono ?_
  rintro e w20 ⟨rfl, -, hg⟩
  clear cM
  clear k0 k1
  clear oX1 sX1 KX1
  replace KA0 := hg.blk KA0 (fun e => by have h := HLX1.out _ (in_all e); have hN := HN.out; omega)
  replace KA1 := hg.blk KA1 (fun e => by have h := HLX1.out _ (in_all e); have hN := HN.out; omega)
  replace KA2 := hg.blk KA2 (fun e => by have h := HLX1.out _ (in_all e); have hN := HN.out; omega)
  replace B := hg.below B B.size (fun k hk => by have h := HLX1.out k (in_all hk); have hN := HN.out; omega)
  replace oW := own_keptS oW hg (fun k hk e => by have h := HLX1.out _ (in_all e); have h2 := HLW.out k (.inl hk); have hN := HN.out; omega)
  replace sW := sW.keptS hg (fun k hk e => by have h := HLX1.out _ (in_all e); have h2 := HLW.out k (.inr (.inl hk)); have hN := HN.out; omega) (fun k hk e => by have h := HLX1.out _ (in_all e); have h2 := HLW.out k (.inr (.inr hk)); have hN := HN.out; omega)
  replace KW := hg.blk KW (fun e => by have h := HLX1.out _ (in_all e); have hN := HN.out; omega)
  replace oX2 := own_keptS oX2 hg (fun k hk e => by have h := HLX1.out _ (in_all e); have h2 := HLX2.out k (hk); have hN := HN.out; omega)
  replace KX2 := hg.blk KX2 (fun e => by have h := HLX1.out _ (in_all e); have hN := HN.out; omega)
  replace oG := own_keptS oG hg (fun k hk e => by have h := HLX1.out _ (in_all e); have h2 := HLG.out k (.inl hk); have hN := HN.out; omega)
  replace sG := sG.keptS hg (fun k hk e => by have h := HLX1.out _ (in_all e); have h2 := HLG.out k (.inr (.inl hk)); have hN := HN.out; omega) (fun k hk e => by have h := HLX1.out _ (in_all e); have h2 := HLG.out k (.inr (.inr hk)); have hN := HN.out; omega)
  replace KG := hg.blk KG (fun e => by have h := HLX1.out _ (in_all e); have hN := HN.out; omega)
  clear hg
  have k0 : w20.cell? ⟨w7.heap.size, 0, none⟩ = some (.slice pX21 a2.bins.length dX21) := KX2.cell 0
  have k1 : w20.cell? ⟨w7.heap.size, 1, none⟩ = some (.int .i64 a2.cls) := KX2.cell 1
  have hfe := HF2.out.bins
  have cM := markEx_any (.slice pX21 a2.bins.length dX21) a2.cls a2.bins.length Z1 _ _ w20 oX2 (by omega) (by omega)
  obtain ⟨Z2, hZ2⟩ : ∃ Z, Z = Z1 + a2.bins.length := ⟨_, rfl⟩
  have hZ2c : ((Z1 : Nat) : Int) + (a2.bins.length : Int) = (Z2 : Int) := by omega
  rw [hZ2c] at cM
  clear hZ2c hZ2
  go_wp2_with fail
  refine cM.mono ?_
  rintro e w21 ⟨rfl, -, hg⟩
  clear cM
  clear k0 k1
  clear oX2 KX2
  replace KA0 := KA0.kept hg (fun e => by have h := HLX2.out _ e; have hN := HN.out; omega)
  replace KA1 := KA1.kept hg (fun e => by have h := HLX2.out _ e; have hN := HN.out; omega)
  replace KA2 := KA2.kept hg (fun e => by have h := HLX2.out _ e; have hN := HN.out; omega)
  replace B := B.grown hg B.size (fun k hk => by have h := HLX2.out k hk; have hN := HN.out; omega)
  replace oW := oW.kept hg (ne_of_ord fun x y hx hy => by have h := HLX2.out y hy; have h2 := HLW.out x (.inl hx); have hN := HN.out; omega)
  replace sW := sW.keptG hg (fun k hk e => by have h := HLX2.out _ e; have h2 := HLW.out k (.inr (.inl hk)); have hN := HN.out; omega) (fun k hk e => by have h := HLX2.out _ e; have h2 := HLW.out k (.inr (.inr hk)); have hN := HN.out; omega)
  replace KW := KW.kept hg (fun e => by have h := HLX2.out _ e; have hN := HN.out; omega)
  replace oG := oG.kept hg (ne_of_ord fun x y hx hy => by have h := HLX2.out y hy; have h2 := HLG.out x (.inl hx); have hN := HN.out; omega)
  replace sG := sG.keptG hg (fun k hk e => by have h := HLX2.out _ e; have h2 := HLG.out k (.inr (.inl hk)); have hN := HN.out; omega) (fun k hk e => by have h := HLX2.out _ e; have h2 := HLG.out k (.inr (.inr hk)); have hN := HN.out; omega)
  replace KG := KG.kept hg (fun e => by have h := HLX2.out _ e; have hN := HN.out; omega)
  clear hg
  have kn0 : ¬ (Z2 : Int) < 0 := by omega
  have kw0 : w21.cell? ⟨gW, 0, none⟩ = some (.slice pW1 G.totals.length dW1) := KW.cell 0
  have kw1 : w21.cell? ⟨gW, 1, none⟩ = some (.slice pW2 G.cells.length dW2) := KW.cell 1
  have kg0 : w21.cell? ⟨w8.heap.size, 0, none⟩ = some (.slice pG1 G.totals.length dG1) := KG.cell 0
  have kg1 : w21.cell? ⟨w8.heap.size, 1, none⟩ = some (.slice pG2 G.cells.length dG2) := KG.cell 1
  have cc := eqStats_row (.agg #[.slice pG1 G.totals.length dG1, .slice pG2 G.cells.length dG2]) (.agg #[.slice pW1 G.totals.length dW1, .slice pW2 G.cells.length dW2]) G w21 ⟨_, _, rfl, RowI.of_own oG rfl, sG.at⟩ ⟨_, _, rfl, RowI.of_own oW rfl, sW.at⟩ HFG.out.ok
  go_wp2_with fail
  refine cc.mono ?_
  clear cc
  rintro e w22 ⟨rfl, hb⟩
  clear kw0 kw1
  clear kg0 kg1
  replace KA0 := KA0.below hb
  replace KA1 := KA1.below hb
  replace KA2 := KA2.below hb
  replace B := B.trans (hb.mono B.size)
  replace oW := own_below oW hb
  replace sW := sW.below hb
  replace KW := KW.below hb
  replace oG := own_below oG hb
  replace sG := sG.below hb
  replace KG := KG.below hb
  clear hb
  have kg0 : w22.cell? ⟨w8.heap.size, 0, none⟩ = some (.slice pG1 G.totals.length dG1) := KG.cell 0
  have kg1 : w22.cell? ⟨w8.heap.size, 1, none⟩ = some (.slice pG2 G.cells.length dG2) := KG.cell 1
  have hKG := fitSt_mark HFG.out (1 + G.totals.length)
  have hftG := HFG.out.totals
  have cM := markStats_any _ _ LG _ yG G.cells G.cells.length G.totals.length (_) 1 w22 oG sG (fun j x y hj hx hy => neG j x y hj hx hy) HFG.out.cells HFG.out.totals (by omega)
  have cHH := fun W b (hm : MarkSt b W (.slice pG1 G.totals.length dG1) (.slice pG2 G.cells.length dG2) LG (lenL G.cells) G.totals.length G.cells.length 1) => heldStats_any (.slice pG1 G.totals.length dG1) (.slice pG2 G.cells.length dG2) LG (lenL G.cells) G.totals.length G.cells.length 1 b W hm HFG.out.totals HFG.out.cells (by omega)
  generalize mkC (1 + G.totals.length) (lenL G.cells) G.cells.length = ZG at cM hKG cHH
  have HHH : Hid _ := cHH
  clear cHH
  go_wp2_with fail
  refine cM.mono ?_
  rintro e w23 ⟨rfl, hm, hg⟩
  clear cM
  clear kg0 kg1
  clear oG sG
  replace KA0 := hg.blk KA0 (fun e => by have h := HLG.out _ (in_all e); have hN := HN.out; omega)
  replace KA1 := hg.blk KA1 (fun e => by have h := HLG.out _ (in_all e); have hN := HN.out; omega)
  replace KA2 := hg.blk KA2 (fun e => by have h := HLG.out _ (in_all e); have hN := HN.out; omega)
  replace B := hg.below B B.size (fun k hk => by have h := HLG.out k (in_all hk); have hN := HN.out; omega)
  replace oW := own_keptS oW hg (fun k hk e => by have h := HLG.out _ (in_all e); have h2 := HLW.out k (.inl hk); have hN := HN.out; omega)
  replace sW := sW.keptS hg (fun k hk e => by have h := HLG.out _ (in_all e); have h2 := HLW.out k (.inr (.inl hk)); have hN := HN.out; omega) (fun k hk e => by have h := HLG.out _ (in_all e); have h2 := HLW.out k (.inr (.inr hk)); have hN := HN.out; omega)
  replace KW := hg.blk KW (fun e => by have h := HLG.out _ (in_all e); have hN := HN.out; omega)
  replace KG := hg.blk KG (fun e => by have h := HLG.out _ (in_all e); have hN := HN.out; omega)
  clear hg
  have zn0 : ¬ (ZG : Int) < 0 := by omega
  have kg0 : w23.cell? ⟨w8.heap.size, 0, none⟩ = some (.slice pG1 G.totals.length dG1) := KG.cell 0
  have kg1 : w23.cell? ⟨w8.heap.size, 1, none⟩ = some (.slice pG2 G.cells.length dG2) := KG.cell 1
  have cc := HHH.out _ _ hm
  go_wp2_with fail
  refine cc.mono ?_
  clear cc
  rintro e w24 ⟨rfl, hb⟩
  clear kg0 kg1
  replace KA0 := KA0.below hb
  replace KA1 := KA1.below hb
  replace KA2 := KA2.below hb
  replace B := B.trans (hb.mono B.size)
  replace oW := own_below oW hb
  replace sW := sW.below hb
  replace KW := KW.below hb
  replace KG := KG.below hb
  replace hm := hm.below hb
  clear hb
  go_wp2_with fail
  have HKH : Hid (Blk 49 w24 w.heap.size #[.slice o01 a0.attrs.length c01, .slice o02 a0.classes.length c02] ∧ Blk 57 w24 (w.heap.size + 1) #[.slice o11 a1.totals.length c11, .slice o12 a1.cells.length c12] ∧ Blk 61 w24 (w.heap.size + 1 + 1) #[.slice o21 a2.bins.length c21, .int .i64 a2.cls]) := ⟨KA0, KA1, KA2⟩
  have hzH := KA2.lt
  have HBH : Hid (Below w.heap.size w w24) := B
  refine region_then (fun a a' w' => ∃ (gg bb : Nat) (pH1 pH2 : _) (dH1 dH2 : _) (LH : Nat → Value) (yH : List Value) (z1 z2 z3 : Value), a' = (((((((((((((a.put (some 120) (.agg #[.slice o01 a0.attrs.length c01, .slice o02 a0.classes.length c02])).put (some 121) (z1)).put (some 122) (.agg #[.slice o11 a1.totals.length c11, .slice o12 a1.cells.length c12])).put (some 123) (z2)).put (some 124) (.agg #[.slice o21 a2.bins.length c21, .int .i64 a2.cls])).put (some 125) (z3)).put (some 126) (.int .i64 a3)).put (some 127) (.tuple #[.agg #[.slice pH1 G.totals.length dH1, .slice pH2 G.cells.length dH2], .bool GB])).put (some 119) (.tuple #[.agg #[.slice pH1 G.totals.length dH1, .slice pH2 G.cells.length dH2], .bool GB])).put (some 128) (.agg #[.slice pH1 G.totals.length dH1, .slice pH2 G.cells.length dH2])).put (some 129) (.bool GB)).put (some 20) (.pointer (some ⟨gg, 0, none⟩))).put (some 21) (.bool GB)) ∧ w24.heap.size ≤ gg ∧ w24.heap.size ≤ bb ∧ gg < w'.heap.size ∧ Blk 31 w' gg #[.slice pH1 G.totals.length dH1, .slice pH2 G.cells.length dH2] ∧ w'.ownsRow bb 3 1 (.slice pH1 G.totals.length dH1) G.totals.length (G.totals.map (Value.int .i64)) ∧ SepII bb w' (.slice pH2 G.cells.length dH2) LH yH G.cells G.cells.length ∧ (∀ j x y, j < G.cells.length → (Value.slice pH1 G.totals.length dH1).ownBlock = some x → (LH j).ownBlock = some y → x ≠ y) ∧ Below w24.heap.size w24 w') ?_ ?_
  · clear KA0 KA1 KA2 B oW sW KW KG hm
    refine wp_region_held_drew (S := fun w' => Blk 49 w' w.heap.size #[.slice o01 a0.attrs.length c01, .slice o02 a0.classes.length c02] ∧ Blk 57 w' (w.heap.size + 1) #[.slice o11 a1.totals.length c11, .slice o12 a1.cells.length c12] ∧ Blk 61 w' (w.heap.size + 1 + 1) #[.slice o21 a2.bins.length c21, .int .i64 a2.cls]) (by kernel_rfl) HKH.out ?_
    intro hS
    have BV : Below w24.heap.size w24 w24.drew := below_drewN (Below.refl _ _) 1
    generalize w24.drew = V at hS BV
    refine takeL 0 (.agg #[.slice o01 a0.attrs.length c01, .slice o02 a0.classes.length c02]) rfl (by kernel_rfl) (by kernel_rfl) (by kernel_rfl) (fun _ _ _ h => nomatch h.1) (yields_row Try.underlying49 (by kernel_rfl) (by rfl) _ rfl _ rfl (fun _ h => h.1)) hS ?_
    try simp only [Act.put, List.setIfInBounds_toArray, List.set_cons_zero, List.set_cons_succ]
    refine takeL 2 (.agg #[.slice o11 a1.totals.length c11, .slice o12 a1.cells.length c12]) rfl (by kernel_rfl) (by kernel_rfl) (by kernel_rfl) (fun _ _ _ h => nomatch h.1) (yields_row Try.underlying57 (by kernel_rfl) (by rfl) _ rfl _ rfl (fun _ h => h.2.1)) hS ?_
    try simp only [Act.put, List.setIfInBounds_toArray, List.set_cons_zero, List.set_cons_succ]
    refine takeL 4 (.agg #[.slice o21 a2.bins.length c21, .int .i64 a2.cls]) rfl (by kernel_rfl) (by kernel_rfl) (by kernel_rfl) (fun _ _ _ h => nomatch h.1) (yields_row Try.underlying61 (by kernel_rfl) (by rfl) _ rfl _ rfl (fun _ h => h.2.2)) hS ?_
    try simp only [Act.put, List.setIfInBounds_toArray, List.set_cons_zero, List.set_cons_succ]
    refine takeL 6 (.int .i64 a3) rfl (by kernel_rfl) (by kernel_rfl) (by kernel_rfl) (fun _ _ _ h => nomatch h.1) (.inl ⟨by rfl, fun w _ => by rfl⟩) hS ?_
    try simp only [Act.put, List.setIfInBounds_toArray, List.set_cons_zero, List.set_cons_succ]
    refine next2L 1 11 rfl rfl (by kernel_rfl) (by rfl) (by rfl) (fun K hK => ?_) (fun K hK => ?_)
    · have dd := HT0.out V (HBH.out.trans (BV.mono HBH.out.size))
      go_simp
      refine dd.mono ?_
      rintro e U1 ⟨z1, rfl, oz, hb⟩
      refine hK _ _ ⟨hS.1.below hb, hS.2.1.below hb, hS.2.2.below hb⟩ ?_
      clear hK K dd hS
      intro hS
      replace BV := BV.trans (hb.mono BV.size)
      have x0 := oz.own.at
      clear oz
      clear hb
      refine next2L 3 11 rfl rfl (by kernel_rfl) (by rfl) (by rfl) (fun K hK => ?_) (fun K hK => ?_)
      · have dd := HT1.out U1 (HBH.out.trans (BV.mono HBH.out.size))
        go_simp
        refine dd.mono ?_
        rintro e U2 ⟨z2, rfl, oz, hb⟩
        refine hK _ _ ⟨hS.1.below hb, hS.2.1.below hb, hS.2.2.below hb⟩ ?_
        clear hK K dd hS
        intro hS
        replace BV := BV.trans (hb.mono BV.size)
        replace x0 := x0.later hb
        have x1 := oz.at
        clear oz
        clear hb
        refine next2L 5 11 rfl rfl (by kernel_rfl) (by rfl) (by rfl) (fun K hK => ?_) (fun K hK => ?_)
        · have dd := HT2.out U2 (HBH.out.trans (BV.mono HBH.out.size))
          go_simp
          refine dd.mono ?_
          rintro e U3 ⟨z3, rfl, oz, hb⟩
          refine hK _ _ ⟨hS.1.below hb, hS.2.1.below hb, hS.2.2.below hb⟩ ?_
          clear hK K dd hS
          intro hS
          replace BV := BV.trans (hb.mono BV.size)
          replace x0 := x0.later hb
          replace x1 := x1.later hb
          have x2 := oz.at
          clear oz
          clear hb
          refine next2L 7 11 rfl rfl (by kernel_rfl) (by rfl) (by rfl) (fun K hK => ?_) (fun K hK => ?_)
          · have dd := HI.out U3 _ _ _ x0 x1 x2
            go_simp
            refine dd.mono ?_
            rintro e U4 ⟨v, rfl, hO, hb⟩
            refine hK _ _ ⟨hS.1.below hb, hS.2.1.below hb, hS.2.2.below hb⟩ ?_
            clear hK K dd hS
            intro hS
            obtain ⟨t9, c9, LH, yH, rfl, oH, sH, neH⟩ := hO
            obtain ⟨pH1, dH1, rfl⟩ := own_slice oH
            obtain ⟨pH2, dH2, rfl⟩ := own_slice sH.row
            have hbb := BV.size
            obtain ⟨bb, hbe⟩ : ∃ b, U3.heap.size = b := ⟨_, rfl⟩
            have HAL := all_st oH sH
            rw [hbe] at oH sH hbb
            clear x0 x1 x2
            replace BV := BV.trans (hb.mono BV.size)
            clear hbe hb
            refine takeL 8 (.tuple #[.agg #[.slice pH1 G.totals.length dH1, .slice pH2 G.cells.length dH2], .bool GB]) rfl (by kernel_rfl) (by kernel_rfl) (by kernel_rfl) (fun _ _ _ h => nomatch h.1) (.inl ⟨by rfl, fun w _ => by rfl⟩) hS ?_
            try simp only [Act.put, List.setIfInBounds_toArray, List.set_cons_zero, List.set_cons_succ]
            refine takeL 9 (.agg #[.slice pH1 G.totals.length dH1, .slice pH2 G.cells.length dH2]) rfl (by kernel_rfl) (by kernel_rfl) (by kernel_rfl) (fun _ _ _ h => nomatch h.1) (.inl ⟨by rfl, fun w _ => by rfl⟩) hS ?_
            try simp only [Act.put, List.setIfInBounds_toArray, List.set_cons_zero, List.set_cons_succ]
            refine takeL 10 (.bool GB) rfl (by kernel_rfl) (by kernel_rfl) (by kernel_rfl) (fun _ _ _ h => nomatch h.1) (.inl ⟨by rfl, fun w _ => by rfl⟩) hS ?_
            try simp only [Act.put, List.setIfInBounds_toArray, List.set_cons_zero, List.set_cons_succ]
            refine nextL 11 rfl (by kernel_rfl) (by rfl) fun K hK => ?_
            go_simp
            obtain ⟨T1, BN⟩ := blk_1 31 U4 #[.slice none 0 0, .slice none 0 0]
            have hg1 := BV.size
            refine hK _ _ ⟨hS.1.below BN, hS.2.1.below BN, hS.2.2.below BN⟩ ?_
            clear hK K hS
            intro hS
            replace BV := BV.trans (BN.mono BV.size)
            have HNE : ∀ k, AllSt (.slice pH1 G.totals.length dH1) (.slice pH2 G.cells.length dH2) LH G.cells.length k → k ≠ U4.heap.size := fun k hk => by have := all_st oH sH k hk; omega
            replace oH := own_below oH BN
            replace sH := sH.below BN
            obtain ⟨g, hg⟩ : ∃ g, U4.heap.size = g := ⟨_, rfl⟩
            rw [hg] at T1 hg1 HNE ⊢
            clear BN
            generalize U4.alloc (.cells #[.slice none 0 0, .slice none 0 0] 31) = U5 at hS T1 BV  oH sH
            clear hg
            refine nextL 12 rfl (by kernel_rfl) (by rfl) fun K hK => ?_
            refine wp_st_step _ _ rfl g _ _ _ _ _ _ _ _ rfl rfl T1 ?_
            simp only [Act.put]
            replace T1 := T1.setRow #[.slice pH1 G.totals.length dH1, .slice pH2 G.cells.length dH2]
            replace BV := below_row BV hg1 #[.slice pH1 G.totals.length dH1, .slice pH2 G.cells.length dH2]
            replace oH := own_setRowN oH g #[.slice pH1 G.totals.length dH1, .slice pH2 G.cells.length dH2] (fun h => HNE g (.inl h) rfl)
            replace sH := sH.setRowN g #[.slice pH1 G.totals.length dH1, .slice pH2 G.cells.length dH2] (fun h => HNE g (.inr (.inl h)) rfl) (fun j hj h => HNE g (.inr (.inr ⟨j, hj, h⟩)) rfl)
            refine hK _ _ ⟨Blk.setRow_other hS.1 _ (by omega), Blk.setRow_other hS.2.1 _ (by omega), Blk.setRow_other hS.2.2 _ (by omega)⟩ ?_
            clear hK K hS
            intro hS
            refine takeL 13 (.bool GB) rfl (by kernel_rfl) (by kernel_rfl) (by kernel_rfl) (fun _ _ _ h => nomatch h.1) (.inl ⟨by rfl, fun w _ => by rfl⟩) hS ?_
            try simp only [Act.put, List.setIfInBounds_toArray, List.set_cons_zero, List.set_cons_succ]
            refine wpAnyH_done (by kernel_rfl) ?_ _
            have hlt := T1.lt
            exact ⟨rfl, g, bb, _, _, _, _, _, _, z1, z2, z3, by simp only [Act.put, List.setIfInBounds_toArray, List.set_cons_zero, List.set_cons_succ], hg1, hbb, hlt, T1, oH, sH, neH, BV⟩
          · go_simp
            obtain ⟨T1, BN⟩ := blk_1 31 U3 #[.slice none 0 0, .slice none 0 0]
            have hg1 := BV.size
            refine hK _ _ ⟨hS.1.below BN, hS.2.1.below BN, hS.2.2.below BN⟩ ?_
            clear hK K hS
            intro hS
            replace BV := BV.trans (BN.mono BV.size)
            replace x0 := x0.later BN
            replace x1 := x1.later BN
            replace x2 := x2.later BN
            obtain ⟨g, hg⟩ : ∃ g, U3.heap.size = g := ⟨_, rfl⟩
            rw [hg] at T1 hg1 ⊢
            clear BN
            generalize U3.alloc (.cells #[.slice none 0 0, .slice none 0 0] 31) = U6 at hS T1 BV x0 x1 x2 
            clear hg
            refine nextL 7 rfl (by kernel_rfl) (by rfl) fun K hK => ?_
            have hgl := T1.lt
            have dd := HI.out U6 _ _ _ x0 x1 x2
            go_simp
            refine dd.mono ?_
            rintro e U7 ⟨v, rfl, hO, hb⟩
            refine hK _ _ ⟨hS.1.below hb, hS.2.1.below hb, hS.2.2.below hb⟩ ?_
            clear hK K dd hS
            intro hS
            obtain ⟨t9, c9, LH, yH, rfl, oH, sH, neH⟩ := hO
            obtain ⟨pH1, dH1, rfl⟩ := own_slice oH
            obtain ⟨pH2, dH2, rfl⟩ := own_slice sH.row
            have hbb := BV.size
            obtain ⟨bb, hbe⟩ : ∃ b, U6.heap.size = b := ⟨_, rfl⟩
            have HAL := all_st oH sH
            have HNE : ∀ k, AllSt (.slice pH1 G.totals.length dH1) (.slice pH2 G.cells.length dH2) LH G.cells.length k → k ≠ g := fun k hk => by have := HAL k hk; omega
            rw [hbe] at oH sH hbb
            clear x0 x1 x2
            replace BV := BV.trans (hb.mono BV.size)
            replace T1 := T1.below hb
            clear hbe hb
            refine takeL 8 (.tuple #[.agg #[.slice pH1 G.totals.length dH1, .slice pH2 G.cells.length dH2], .bool GB]) rfl (by kernel_rfl) (by kernel_rfl) (by kernel_rfl) (fun _ _ _ h => nomatch h.1) (.inl ⟨by rfl, fun w _ => by rfl⟩) hS ?_
            try simp only [Act.put, List.setIfInBounds_toArray, List.set_cons_zero, List.set_cons_succ]
            refine takeL 9 (.agg #[.slice pH1 G.totals.length dH1, .slice pH2 G.cells.length dH2]) rfl (by kernel_rfl) (by kernel_rfl) (by kernel_rfl) (fun _ _ _ h => nomatch h.1) (.inl ⟨by rfl, fun w _ => by rfl⟩) hS ?_
            try simp only [Act.put, List.setIfInBounds_toArray, List.set_cons_zero, List.set_cons_succ]
            refine takeL 10 (.bool GB) rfl (by kernel_rfl) (by kernel_rfl) (by kernel_rfl) (fun _ _ _ h => nomatch h.1) (.inl ⟨by rfl, fun w _ => by rfl⟩) hS ?_
            try simp only [Act.put, List.setIfInBounds_toArray, List.set_cons_zero, List.set_cons_succ]
            refine nextL 12 rfl (by kernel_rfl) (by rfl) fun K hK => ?_
            refine wp_st_step _ _ rfl g _ _ _ _ _ _ _ _ rfl rfl T1 ?_
            simp only [Act.put]
            replace T1 := T1.setRow #[.slice pH1 G.totals.length dH1, .slice pH2 G.cells.length dH2]
            replace BV := below_row BV hg1 #[.slice pH1 G.totals.length dH1, .slice pH2 G.cells.length dH2]
            replace oH := own_setRowN oH g #[.slice pH1 G.totals.length dH1, .slice pH2 G.cells.length dH2] (fun h => HNE g (.inl h) rfl)
            replace sH := sH.setRowN g #[.slice pH1 G.totals.length dH1, .slice pH2 G.cells.length dH2] (fun h => HNE g (.inr (.inl h)) rfl) (fun j hj h => HNE g (.inr (.inr ⟨j, hj, h⟩)) rfl)
            refine hK _ _ ⟨Blk.setRow_other hS.1 _ (by omega), Blk.setRow_other hS.2.1 _ (by omega), Blk.setRow_other hS.2.2 _ (by omega)⟩ ?_
            clear hK K hS
            intro hS
            refine takeL 13 (.bool GB) rfl (by kernel_rfl) (by kernel_rfl) (by kernel_rfl) (fun _ _ _ h => nomatch h.1) (.inl ⟨by rfl, fun w _ => by rfl⟩) hS ?_
            try simp only [Act.put, List.setIfInBounds_toArray, List.set_cons_zero, List.set_cons_succ]
            refine wpAnyH_done (by kernel_rfl) ?_ _
            have hlt := T1.lt
            exact ⟨rfl, g, bb, _, _, _, _, _, _, z1, z2, z3, by simp only [Act.put, List.setIfInBounds_toArray, List.set_cons_zero, List.set_cons_succ], hg1, hbb, hlt, T1, oH, sH, neH, BV⟩
        · go_simp
          obtain ⟨T1, BN⟩ := blk_1 31 U2 #[.slice none 0 0, .slice none 0 0]
          have hg1 := BV.size
          refine hK _ _ ⟨hS.1.below BN, hS.2.1.below BN, hS.2.2.below BN⟩ ?_
          clear hK K hS
          intro hS
          replace BV := BV.trans (BN.mono BV.size)
          replace x0 := x0.later BN
          replace x1 := x1.later BN
          obtain ⟨g, hg⟩ : ∃ g, U2.heap.size = g := ⟨_, rfl⟩
          rw [hg] at T1 hg1 ⊢
          clear BN
          generalize U2.alloc (.cells #[.slice none 0 0, .slice none 0 0] 31) = U8 at hS T1 BV x0 x1 
          clear hg
          refine nextL 5 rfl (by kernel_rfl) (by rfl) fun K hK => ?_
          have dd := HT2.out U8 (HBH.out.trans (BV.mono HBH.out.size))
          go_simp
          refine dd.mono ?_
          rintro e U9 ⟨z3, rfl, oz, hb⟩
          refine hK _ _ ⟨hS.1.below hb, hS.2.1.below hb, hS.2.2.below hb⟩ ?_
          clear hK K dd hS
          intro hS
          replace BV := BV.trans (hb.mono BV.size)
          replace x0 := x0.later hb
          replace x1 := x1.later hb
          have x2 := oz.at
          clear oz
          replace T1 := T1.below hb
          clear hb
          refine nextL 7 rfl (by kernel_rfl) (by rfl) fun K hK => ?_
          have hgl := T1.lt
          have dd := HI.out U9 _ _ _ x0 x1 x2
          go_simp
          refine dd.mono ?_
          rintro e U10 ⟨v, rfl, hO, hb⟩
          refine hK _ _ ⟨hS.1.below hb, hS.2.1.below hb, hS.2.2.below hb⟩ ?_
          clear hK K dd hS
          intro hS
          obtain ⟨t9, c9, LH, yH, rfl, oH, sH, neH⟩ := hO
          obtain ⟨pH1, dH1, rfl⟩ := own_slice oH
          obtain ⟨pH2, dH2, rfl⟩ := own_slice sH.row
          have hbb := BV.size
          obtain ⟨bb, hbe⟩ : ∃ b, U9.heap.size = b := ⟨_, rfl⟩
          have HAL := all_st oH sH
          have HNE : ∀ k, AllSt (.slice pH1 G.totals.length dH1) (.slice pH2 G.cells.length dH2) LH G.cells.length k → k ≠ g := fun k hk => by have := HAL k hk; omega
          rw [hbe] at oH sH hbb
          clear x0 x1 x2
          replace BV := BV.trans (hb.mono BV.size)
          replace T1 := T1.below hb
          clear hbe hb
          refine takeL 8 (.tuple #[.agg #[.slice pH1 G.totals.length dH1, .slice pH2 G.cells.length dH2], .bool GB]) rfl (by kernel_rfl) (by kernel_rfl) (by kernel_rfl) (fun _ _ _ h => nomatch h.1) (.inl ⟨by rfl, fun w _ => by rfl⟩) hS ?_
          try simp only [Act.put, List.setIfInBounds_toArray, List.set_cons_zero, List.set_cons_succ]
          refine takeL 9 (.agg #[.slice pH1 G.totals.length dH1, .slice pH2 G.cells.length dH2]) rfl (by kernel_rfl) (by kernel_rfl) (by kernel_rfl) (fun _ _ _ h => nomatch h.1) (.inl ⟨by rfl, fun w _ => by rfl⟩) hS ?_
          try simp only [Act.put, List.setIfInBounds_toArray, List.set_cons_zero, List.set_cons_succ]
          refine takeL 10 (.bool GB) rfl (by kernel_rfl) (by kernel_rfl) (by kernel_rfl) (fun _ _ _ h => nomatch h.1) (.inl ⟨by rfl, fun w _ => by rfl⟩) hS ?_
          try simp only [Act.put, List.setIfInBounds_toArray, List.set_cons_zero, List.set_cons_succ]
          refine nextL 12 rfl (by kernel_rfl) (by rfl) fun K hK => ?_
          refine wp_st_step _ _ rfl g _ _ _ _ _ _ _ _ rfl rfl T1 ?_
          simp only [Act.put]
          replace T1 := T1.setRow #[.slice pH1 G.totals.length dH1, .slice pH2 G.cells.length dH2]
          replace BV := below_row BV hg1 #[.slice pH1 G.totals.length dH1, .slice pH2 G.cells.length dH2]
          replace oH := own_setRowN oH g #[.slice pH1 G.totals.length dH1, .slice pH2 G.cells.length dH2] (fun h => HNE g (.inl h) rfl)
          replace sH := sH.setRowN g #[.slice pH1 G.totals.length dH1, .slice pH2 G.cells.length dH2] (fun h => HNE g (.inr (.inl h)) rfl) (fun j hj h => HNE g (.inr (.inr ⟨j, hj, h⟩)) rfl)
          refine hK _ _ ⟨Blk.setRow_other hS.1 _ (by omega), Blk.setRow_other hS.2.1 _ (by omega), Blk.setRow_other hS.2.2 _ (by omega)⟩ ?_
          clear hK K hS
          intro hS
          refine takeL 13 (.bool GB) rfl (by kernel_rfl) (by kernel_rfl) (by kernel_rfl) (fun _ _ _ h => nomatch h.1) (.inl ⟨by rfl, fun w _ => by rfl⟩) hS ?_
          try simp only [Act.put, List.setIfInBounds_toArray, List.set_cons_zero, List.set_cons_succ]
          refine wpAnyH_done (by kernel_rfl) ?_ _
          have hlt := T1.lt
          exact ⟨rfl, g, bb, _, _, _, _, _, _, z1, z2, z3, by simp only [Act.put, List.setIfInBounds_toArray, List.set_cons_zero, List.set_cons_succ], hg1, hbb, hlt, T1, oH, sH, neH, BV⟩
      · go_simp
        obtain ⟨T1, BN⟩ := blk_1 31 U1 #[.slice none 0 0, .slice none 0 0]
        have hg1 := BV.size
        refine hK _ _ ⟨hS.1.below BN, hS.2.1.below BN, hS.2.2.below BN⟩ ?_
        clear hK K hS
        intro hS
        replace BV := BV.trans (BN.mono BV.size)
        replace x0 := x0.later BN
        obtain ⟨g, hg⟩ : ∃ g, U1.heap.size = g := ⟨_, rfl⟩
        rw [hg] at T1 hg1 ⊢
        clear BN
        generalize U1.alloc (.cells #[.slice none 0 0, .slice none 0 0] 31) = U11 at hS T1 BV x0 
        clear hg
        refine nextL 3 rfl (by kernel_rfl) (by rfl) fun K hK => ?_
        have dd := HT1.out U11 (HBH.out.trans (BV.mono HBH.out.size))
        go_simp
        refine dd.mono ?_
        rintro e U12 ⟨z2, rfl, oz, hb⟩
        refine hK _ _ ⟨hS.1.below hb, hS.2.1.below hb, hS.2.2.below hb⟩ ?_
        clear hK K dd hS
        intro hS
        replace BV := BV.trans (hb.mono BV.size)
        replace x0 := x0.later hb
        have x1 := oz.at
        clear oz
        replace T1 := T1.below hb
        clear hb
        refine nextL 5 rfl (by kernel_rfl) (by rfl) fun K hK => ?_
        have dd := HT2.out U12 (HBH.out.trans (BV.mono HBH.out.size))
        go_simp
        refine dd.mono ?_
        rintro e U13 ⟨z3, rfl, oz, hb⟩
        refine hK _ _ ⟨hS.1.below hb, hS.2.1.below hb, hS.2.2.below hb⟩ ?_
        clear hK K dd hS
        intro hS
        replace BV := BV.trans (hb.mono BV.size)
        replace x0 := x0.later hb
        replace x1 := x1.later hb
        have x2 := oz.at
        clear oz
        replace T1 := T1.below hb
        clear hb
        refine nextL 7 rfl (by kernel_rfl) (by rfl) fun K hK => ?_
        have hgl := T1.lt
        have dd := HI.out U13 _ _ _ x0 x1 x2
        go_simp
        refine dd.mono ?_
        rintro e U14 ⟨v, rfl, hO, hb⟩
        refine hK _ _ ⟨hS.1.below hb, hS.2.1.below hb, hS.2.2.below hb⟩ ?_
        clear hK K dd hS
        intro hS
        obtain ⟨t9, c9, LH, yH, rfl, oH, sH, neH⟩ := hO
        obtain ⟨pH1, dH1, rfl⟩ := own_slice oH
        obtain ⟨pH2, dH2, rfl⟩ := own_slice sH.row
        have hbb := BV.size
        obtain ⟨bb, hbe⟩ : ∃ b, U13.heap.size = b := ⟨_, rfl⟩
        have HAL := all_st oH sH
        have HNE : ∀ k, AllSt (.slice pH1 G.totals.length dH1) (.slice pH2 G.cells.length dH2) LH G.cells.length k → k ≠ g := fun k hk => by have := HAL k hk; omega
        rw [hbe] at oH sH hbb
        clear x0 x1 x2
        replace BV := BV.trans (hb.mono BV.size)
        replace T1 := T1.below hb
        clear hbe hb
        refine takeL 8 (.tuple #[.agg #[.slice pH1 G.totals.length dH1, .slice pH2 G.cells.length dH2], .bool GB]) rfl (by kernel_rfl) (by kernel_rfl) (by kernel_rfl) (fun _ _ _ h => nomatch h.1) (.inl ⟨by rfl, fun w _ => by rfl⟩) hS ?_
        try simp only [Act.put, List.setIfInBounds_toArray, List.set_cons_zero, List.set_cons_succ]
        refine takeL 9 (.agg #[.slice pH1 G.totals.length dH1, .slice pH2 G.cells.length dH2]) rfl (by kernel_rfl) (by kernel_rfl) (by kernel_rfl) (fun _ _ _ h => nomatch h.1) (.inl ⟨by rfl, fun w _ => by rfl⟩) hS ?_
        try simp only [Act.put, List.setIfInBounds_toArray, List.set_cons_zero, List.set_cons_succ]
        refine takeL 10 (.bool GB) rfl (by kernel_rfl) (by kernel_rfl) (by kernel_rfl) (fun _ _ _ h => nomatch h.1) (.inl ⟨by rfl, fun w _ => by rfl⟩) hS ?_
        try simp only [Act.put, List.setIfInBounds_toArray, List.set_cons_zero, List.set_cons_succ]
        refine nextL 12 rfl (by kernel_rfl) (by rfl) fun K hK => ?_
        refine wp_st_step _ _ rfl g _ _ _ _ _ _ _ _ rfl rfl T1 ?_
        simp only [Act.put]
        replace T1 := T1.setRow #[.slice pH1 G.totals.length dH1, .slice pH2 G.cells.length dH2]
        replace BV := below_row BV hg1 #[.slice pH1 G.totals.length dH1, .slice pH2 G.cells.length dH2]
        replace oH := own_setRowN oH g #[.slice pH1 G.totals.length dH1, .slice pH2 G.cells.length dH2] (fun h => HNE g (.inl h) rfl)
        replace sH := sH.setRowN g #[.slice pH1 G.totals.length dH1, .slice pH2 G.cells.length dH2] (fun h => HNE g (.inr (.inl h)) rfl) (fun j hj h => HNE g (.inr (.inr ⟨j, hj, h⟩)) rfl)
        refine hK _ _ ⟨Blk.setRow_other hS.1 _ (by omega), Blk.setRow_other hS.2.1 _ (by omega), Blk.setRow_other hS.2.2 _ (by omega)⟩ ?_
        clear hK K hS
        intro hS
        refine takeL 13 (.bool GB) rfl (by kernel_rfl) (by kernel_rfl) (by kernel_rfl) (fun _ _ _ h => nomatch h.1) (.inl ⟨by rfl, fun w _ => by rfl⟩) hS ?_
        try simp only [Act.put, List.setIfInBounds_toArray, List.set_cons_zero, List.set_cons_succ]
        refine wpAnyH_done (by kernel_rfl) ?_ _
        have hlt := T1.lt
        exact ⟨rfl, g, bb, _, _, _, _, _, _, z1, z2, z3, by simp only [Act.put, List.setIfInBounds_toArray, List.set_cons_zero, List.set_cons_succ], hg1, hbb, hlt, T1, oH, sH, neH, BV⟩
    · go_simp
      obtain ⟨T1, BN⟩ := blk_1 31 V #[.slice none 0 0, .slice none 0 0]
      have hg1 := BV.size
      refine hK _ _ ⟨hS.1.below BN, hS.2.1.below BN, hS.2.2.below BN⟩ ?_
      clear hK K hS
      intro hS
      replace BV := BV.trans (BN.mono BV.size)
      obtain ⟨g, hg⟩ : ∃ g, V.heap.size = g := ⟨_, rfl⟩
      rw [hg] at T1 hg1 ⊢
      clear BN
      generalize V.alloc (.cells #[.slice none 0 0, .slice none 0 0] 31) = U15 at hS T1 BV  
      clear hg
      refine nextL 1 rfl (by kernel_rfl) (by rfl) fun K hK => ?_
      have dd := HT0.out U15 (HBH.out.trans (BV.mono HBH.out.size))
      go_simp
      refine dd.mono ?_
      rintro e U16 ⟨z1, rfl, oz, hb⟩
      refine hK _ _ ⟨hS.1.below hb, hS.2.1.below hb, hS.2.2.below hb⟩ ?_
      clear hK K dd hS
      intro hS
      replace BV := BV.trans (hb.mono BV.size)
      have x0 := oz.own.at
      clear oz
      replace T1 := T1.below hb
      clear hb
      refine nextL 3 rfl (by kernel_rfl) (by rfl) fun K hK => ?_
      have dd := HT1.out U16 (HBH.out.trans (BV.mono HBH.out.size))
      go_simp
      refine dd.mono ?_
      rintro e U17 ⟨z2, rfl, oz, hb⟩
      refine hK _ _ ⟨hS.1.below hb, hS.2.1.below hb, hS.2.2.below hb⟩ ?_
      clear hK K dd hS
      intro hS
      replace BV := BV.trans (hb.mono BV.size)
      replace x0 := x0.later hb
      have x1 := oz.at
      clear oz
      replace T1 := T1.below hb
      clear hb
      refine nextL 5 rfl (by kernel_rfl) (by rfl) fun K hK => ?_
      have dd := HT2.out U17 (HBH.out.trans (BV.mono HBH.out.size))
      go_simp
      refine dd.mono ?_
      rintro e U18 ⟨z3, rfl, oz, hb⟩
      refine hK _ _ ⟨hS.1.below hb, hS.2.1.below hb, hS.2.2.below hb⟩ ?_
      clear hK K dd hS
      intro hS
      replace BV := BV.trans (hb.mono BV.size)
      replace x0 := x0.later hb
      replace x1 := x1.later hb
      have x2 := oz.at
      clear oz
      replace T1 := T1.below hb
      clear hb
      refine nextL 7 rfl (by kernel_rfl) (by rfl) fun K hK => ?_
      have hgl := T1.lt
      have dd := HI.out U18 _ _ _ x0 x1 x2
      go_simp
      refine dd.mono ?_
      rintro e U19 ⟨v, rfl, hO, hb⟩
      refine hK _ _ ⟨hS.1.below hb, hS.2.1.below hb, hS.2.2.below hb⟩ ?_
      clear hK K dd hS
      intro hS
      obtain ⟨t9, c9, LH, yH, rfl, oH, sH, neH⟩ := hO
      obtain ⟨pH1, dH1, rfl⟩ := own_slice oH
      obtain ⟨pH2, dH2, rfl⟩ := own_slice sH.row
      have hbb := BV.size
      obtain ⟨bb, hbe⟩ : ∃ b, U18.heap.size = b := ⟨_, rfl⟩
      have HAL := all_st oH sH
      have HNE : ∀ k, AllSt (.slice pH1 G.totals.length dH1) (.slice pH2 G.cells.length dH2) LH G.cells.length k → k ≠ g := fun k hk => by have := HAL k hk; omega
      rw [hbe] at oH sH hbb
      clear x0 x1 x2
      replace BV := BV.trans (hb.mono BV.size)
      replace T1 := T1.below hb
      clear hbe hb
      refine takeL 8 (.tuple #[.agg #[.slice pH1 G.totals.length dH1, .slice pH2 G.cells.length dH2], .bool GB]) rfl (by kernel_rfl) (by kernel_rfl) (by kernel_rfl) (fun _ _ _ h => nomatch h.1) (.inl ⟨by rfl, fun w _ => by rfl⟩) hS ?_
      try simp only [Act.put, List.setIfInBounds_toArray, List.set_cons_zero, List.set_cons_succ]
      refine takeL 9 (.agg #[.slice pH1 G.totals.length dH1, .slice pH2 G.cells.length dH2]) rfl (by kernel_rfl) (by kernel_rfl) (by kernel_rfl) (fun _ _ _ h => nomatch h.1) (.inl ⟨by rfl, fun w _ => by rfl⟩) hS ?_
      try simp only [Act.put, List.setIfInBounds_toArray, List.set_cons_zero, List.set_cons_succ]
      refine takeL 10 (.bool GB) rfl (by kernel_rfl) (by kernel_rfl) (by kernel_rfl) (fun _ _ _ h => nomatch h.1) (.inl ⟨by rfl, fun w _ => by rfl⟩) hS ?_
      try simp only [Act.put, List.setIfInBounds_toArray, List.set_cons_zero, List.set_cons_succ]
      refine nextL 12 rfl (by kernel_rfl) (by rfl) fun K hK => ?_
      refine wp_st_step _ _ rfl g _ _ _ _ _ _ _ _ rfl rfl T1 ?_
      simp only [Act.put]
      replace T1 := T1.setRow #[.slice pH1 G.totals.length dH1, .slice pH2 G.cells.length dH2]
      replace BV := below_row BV hg1 #[.slice pH1 G.totals.length dH1, .slice pH2 G.cells.length dH2]
      replace oH := own_setRowN oH g #[.slice pH1 G.totals.length dH1, .slice pH2 G.cells.length dH2] (fun h => HNE g (.inl h) rfl)
      replace sH := sH.setRowN g #[.slice pH1 G.totals.length dH1, .slice pH2 G.cells.length dH2] (fun h => HNE g (.inr (.inl h)) rfl) (fun j hj h => HNE g (.inr (.inr ⟨j, hj, h⟩)) rfl)
      refine hK _ _ ⟨Blk.setRow_other hS.1 _ (by omega), Blk.setRow_other hS.2.1 _ (by omega), Blk.setRow_other hS.2.2 _ (by omega)⟩ ?_
      clear hK K hS
      intro hS
      refine takeL 13 (.bool GB) rfl (by kernel_rfl) (by kernel_rfl) (by kernel_rfl) (fun _ _ _ h => nomatch h.1) (.inl ⟨by rfl, fun w _ => by rfl⟩) hS ?_
      try simp only [Act.put, List.setIfInBounds_toArray, List.set_cons_zero, List.set_cons_succ]
      refine wpAnyH_done (by kernel_rfl) ?_ _
      have hlt := T1.lt
      exact ⟨rfl, g, bb, _, _, _, _, _, _, z1, z2, z3, by simp only [Act.put, List.setIfInBounds_toArray, List.set_cons_zero, List.set_cons_succ], hg1, hbb, hlt, T1, oH, sH, neH, BV⟩
  rintro a9 w25 ⟨gH, bbH, pH1, pH2, dH1, dH2, LH, yH, z1, z2, z3, rfl, hgH, hbbH, hglH, KH, oH, sH, neH, hb⟩
  simp only [Act.put, List.setIfInBounds_toArray, List.set_cons_zero, List.set_cons_succ]
  replace KA0 := KA0.below hb
  replace KA1 := KA1.below hb
  replace KA2 := KA2.below hb
  replace B := B.trans (hb.mono B.size)
  replace oW := own_below oW hb
  replace sW := sW.below hb
  replace KW := KW.below hb
  replace KG := KG.below hb
  replace hm := hm.below hb
  have HLH : Hid (∀ k, AllSt (.slice pH1 G.totals.length dH1) (.slice pH2 G.cells.length dH2) LH G.cells.length k → bbH ≤ k ∧ k < w25.heap.size) := all_st oH sH
  clear hb HKH HBH
  have kw0 : w25.cell? ⟨gW, 0, none⟩ = some (.slice pW1 G.totals.length dW1) := KW.cell 0
  have kw1 : w25.cell? ⟨gW, 1, none⟩ = some (.slice pW2 G.cells.length dW2) := KW.cell 1
  have kg0 : w25.cell? ⟨gH, 0, none⟩ = some (.slice pH1 G.totals.length dH1) := KH.cell 0
  have kg1 : w25.cell? ⟨gH, 1, none⟩ = some (.slice pH2 G.cells.length dH2) := KH.cell 1
  have cc := eqStats_row (.agg #[.slice pH1 G.totals.length dH1, .slice pH2 G.cells.length dH2]) (.agg #[.slice pW1 G.totals.length dW1, .slice pW2 G.cells.length dW2]) G w25 ⟨_, _, rfl, RowI.of_own oH rfl, sH.at⟩ ⟨_, _, rfl, RowI.of_own oW rfl, sW.at⟩ HFG.out.ok
  go_wp2_with fail
  refine cc.mono ?_
  clear cc
  rintro e w26 ⟨rfl, hb⟩
  clear kw0 kw1
  clear kg0 kg1
  replace KA0 := KA0.below hb
  replace KA1 := KA1.below hb
  replace KA2 := KA2.below hb
  replace B := B.trans (hb.mono B.size)
  replace oW := own_below oW hb
  replace sW := sW.below hb
  replace KW := KW.below hb
  replace KG := KG.below hb
  replace hm := hm.below hb
  replace oH := own_below oH hb
  replace sH := sH.below hb
  replace KH := KH.below hb
  clear hb
  have kg0 : w26.cell? ⟨w8.heap.size, 0, none⟩ = some (.slice pG1 G.totals.length dG1) := KG.cell 0
  have kg1 : w26.cell? ⟨w8.heap.size, 1, none⟩ = some (.slice pG2 G.cells.length dG2) := KG.cell 1
  have cc := HHH.out _ _ hm
  go_wp2_with fail
  refine cc.mono ?_
  clear cc
  rintro e w27 ⟨rfl, hb⟩
  clear kg0 kg1
  replace KA0 := KA0.below hb
  replace KA1 := KA1.below hb
  replace KA2 := KA2.below hb
  replace B := B.trans (hb.mono B.size)
  replace oW := own_below oW hb
  replace sW := sW.below hb
  replace KW := KW.below hb
  replace KG := KG.below hb
  replace hm := hm.below hb
  replace oH := own_below oH hb
  replace sH := sH.below hb
  replace KH := KH.below hb
  clear hb
  go_wp2
  go_ret
  exact ⟨rfl, B⟩

/-! ### THE ROW's STEP -/
set_option maxRecDepth 100000 in
theorem lifted (os : Os) (started : os.Started) (H : Type) (enc : TypeId × Value → H) :
    ReturnsInHanded {} Try.checked os 8 .any (Rows.fnExactStatsAddSpec.pre6 enc Try.prog Try.f8 Rows.fnExactStatsAddRow.domain false) (Rows.fnExactStatsAddSpec.post enc Try.prog Try.f8 false true false false) := by
  refine returnsInHanded_of_change (C := Try.checked) own started (by kernel_rfl) Try.func8
    (ChangeSpec.witness6 (enc := enc) (C := Try.checked) false ⟨#[], #[.agg #[.slice none 0 0, .slice none 0 0], .agg #[.slice none 0 0, .slice none 0 0], .agg #[.slice none 0 0, .int .i64 0], .int .i64 0], []⟩ 8 (by kernel_rfl) (by kernel_rfl) (by kernel_rfl) (by kernel_rfl)) ?_
  intro W base args ds gs before hval0 hW hcnd _
  have hval : ∀ (j : Nat) t v, Try.f8.params[j]? = some t → args[j]? = some v → Value.okWide Try.prog W .any base t v := hval0
  have hW' := hW
  obtain ⟨p, q, hA0, hV, rfl, hfz, hnd⟩ := hW
  have hA : DataW.TrodAll enc Try.prog W 0 (fun _ => true) true Try.f8.params.toList args.toList ds p := hA0
  rw [Try.params8] at hA hval
  obtain ⟨v0, vs0, d0, ds0, p0, q0, hargs, rfl, rfl, h0, r0⟩ := trodAll_cons hA
  obtain ⟨v1, vs1, d1, ds1, p1, q1, rfl, rfl, rfl, h1, r1⟩ := trodAll_cons r0
  obtain ⟨v2, vs2, d2, ds2, p2, q2, rfl, rfl, rfl, h2, r2⟩ := trodAll_cons r1
  obtain ⟨v3, vs3, d3, ds3, p3, q3, rfl, rfl, rfl, h3, r3⟩ := trodAll_cons r2
  obtain ⟨rfl, rfl, rfl⟩ := trodAll_nil r3
  obtain rfl : args = #[v0, v1, v2, v3] := by cases args; simp_all
  obtain ⟨rfl, rfl⟩ := trodVars_none hV
  have k0 := h0
  have lt0 : ∀ x ∈ p0, x.block < W.heap.size := by obtain ⟨m, hm⟩ := k0; exact DataW.trod_lt m _ _ _ hm
  obtain ⟨a0, R0, I0⟩ := open_schema (hval 0 49 v0 rfl rfl) h0
  have k1 := h1
  have lt1 : ∀ x ∈ p1, x.block < W.heap.size := by obtain ⟨m, hm⟩ := k1; exact DataW.trod_lt m _ _ _ hm
  obtain ⟨a1, R1, I1⟩ := open_stats (hval 1 57 v1 rfl rfl) h1
  have k2 := h2
  have lt2 : ∀ x ∈ p2, x.block < W.heap.size := by obtain ⟨m, hm⟩ := k2; exact DataW.trod_lt m _ _ _ hm
  obtain ⟨a2, R2, I2⟩ := open_ex (hval 2 61 v2 rfl rfl) h2
  obtain ⟨a3, rfl, rfl, rfl, w3⟩ := open_int Try.underlying3 (hval 3 3 v3 rfl rfl) h3
  clear hA0 hval0
  refine (walk v0 a0 v1 a1 v2 a2 a3 W R0 I0 R1 I1 R2 I2 (bounds_i64 w3).1 (bounds_i64 w3).2).mono fun e W' ⟨he, bel⟩ => ?_
  subst he
  exact ⟨_, rfl, _, _, _, [], _, [], hW', trodAll_mk1 (shut_bool Try.underlying4 _), (trodAll_cons_mk (Below.trod laidOut (by kernel_rfl) (of_decide_eq_true (by kernel_rfl)) k0 bel lt0) (trodAll_cons_mk (Below.trod laidOut (by kernel_rfl) (of_decide_eq_true (by kernel_rfl)) k1 bel lt1) (trodAll_cons_mk (Below.trod laidOut (by kernel_rfl) (of_decide_eq_true (by kernel_rfl)) k2 bel lt2) (trodAll_cons_mk (shut_int Try.underlying3 w3) trodAll_mk0)))), rfl, bel.frame _, fun h => by cases h⟩

theorem over : Rows.fnExactStatsAddRow.holds Try.pinned (OpenSpec.ofChange Rows.fnExactStatsAddSpec) :=
  OpenClaim.holds_of_wide 8 Try.f8 rfl rfl rfl rfl rfl rfl rfl ⟨rfl, rfl, rfl, rfl, rfl⟩ rfl rfl rfl rfl rfl (by kernel_rfl) Try.func8 (by kernel_rfl)
    (of_decide_eq_true (by kernel_rfl)) (by unfold Func.isWrapper; first | (rw [if_pos (by decide +kernel)]; kernel_rfl) | (rw [if_neg (by decide +kernel)]; exact ⟨rfl, rfl⟩))
    (fun os started H enc _ => lifted os started H enc)

theorem proved : Rows.FnExactStatsAddSaid :=
  over
end Go.Proofs.Ytmdmplphendpcaa.fnExactStatsAdd
namespace Go.Proofs.Ytmdmplphendpcaa
theorem statsAdd_holds : Rows.FnExactStatsAddSaid := fnExactStatsAdd.proved
#print axioms statsAdd_holds
end Go.Proofs.Ytmdmplphendpcaa
