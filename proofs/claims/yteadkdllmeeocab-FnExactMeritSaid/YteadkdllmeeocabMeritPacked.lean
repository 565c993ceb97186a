/- For every schema, all counts and every question the exact law of Merit returns true: the program, which takes off branch by branch, and the specification, which reckons over one denominator, answer the same fraction in lowest terms, and nothing is written into what they were handed. No condition. -/
import Derived.Test.YteadkdllmeeocabRows
import Derived.WalkKit
import Derived.ProofKit
import Derived.OpenShut
import Derived.Test.YteadkdllmeeocabMeritPack6
import Derived.Test.YteadkdllmeeocabMeritPack7
import Derived.Test.YteadkdllmeeocabMeritPack9
import Derived.Test.YteadkdllmeeocabMeritPack26
import Derived.Test.YteadkdllmeeocabMeritPack30
namespace Go.Proofs.Yteadkdllmeeocab.fnExactMerit
open Go.ChangeShapes Go.WideShapes Go.ChangeAt Go.RowKit
set_option linter.unusedVariables false

theorem own : ownKnob Try.prog.godebug = none := by kernel_rfl
theorem laidOut : laidOutB Try.prog = true := by kernel_rfl


set_option maxRecDepth 100000 in
set_option maxHeartbeats 6400000 in
set_option linter.unusedSimpArgs false in
theorem walk (v0 : Value) (a0 : SchemaD) (v1 : Value) (a1 : StatsD) (a2 : ForkD) (w : World) (ha0 : SchemaAt w v0 a0) (hi0 : inS a0) (ha1 : StatsAt w v1 a1) (hi1 : inSt a1) (_ : -9223372036854775808 ≤ a2.attr ∧ a2.attr ≤ 9223372036854775807) (_ : -9223372036854775808 ≤ a2.pos ∧ a2.pos ≤ 9223372036854775807) :
    Calls Try.prog 5 #[v0, v1, forkV a2] w fun e w' => e = .returned (.bool true) ∧ Below w.heap.size w w' := by
  have HHA0 : Hid (∀ W, Below w.heap.size w W → SchemaAt W v0 a0) := fun W h => ha0.later h
  obtain ⟨y1, y2, rfl, rr1, rr2⟩ := id ha0
  obtain ⟨o01, c01, rfl, -, -⟩ := id rr1
  obtain ⟨o02, c02, rfl, -, -⟩ := id rr2
  clear rr1 rr2
  have HC0 : Hid (∀ W (r : Int) (_ : 0 ≤ r) (_ : r ≤ 1048576) (_ : Below w.heap.size w W), Calls Try.prog 13 #[.agg #[.slice o01 a0.attrs.length c01, .slice o02 a0.classes.length c02], .int .i64 r] W fun e w' => ∃ r' : Int, e = .returned (.int .i64 r') ∧ ((0 ≤ r' ∧ r' ≤ r ∧ fitS a0) ∨ r' = -1) ∧ Below W.heap.size W w') := fun W r h0 h1 hW => szSchema_row _ a0 r W (ha0.later hW) hi0 h0 h1
  have HHA1 : Hid (∀ W, Below w.heap.size w W → StatsAt W v1 a1) := fun W h => ha1.later h
  obtain ⟨y1, y2, rfl, rr1, rr2⟩ := id ha1
  obtain ⟨o11, c11, rfl, -, -⟩ := id rr1
  obtain ⟨o12, c12, rfl, -, -⟩ := id rr2
  clear rr1 rr2
  have HC1 : Hid (∀ W (r : Int) (_ : 0 ≤ r) (_ : r ≤ 1048576) (_ : Below w.heap.size w W), Calls Try.prog 14 #[.agg #[.slice o11 a1.totals.length c11, .slice o12 a1.cells.length c12], .int .i64 r] W fun e w' => ∃ r' : Int, e = .returned (.int .i64 r') ∧ ((0 ≤ r' ∧ r' ≤ r ∧ fitSt a1) ∨ r' = -1) ∧ Below W.heap.size W w') := fun W r h0 h1 hW => szStats_row _ a1 r W (ha1.later hW) hi1 h0 h1
  unfold forkV
  clear ha0 hi0 ha1 hi1
  obtain ⟨KA0, KA1, KA2, B⟩ := blk_3 34 37 39 w #[.slice o01 a0.attrs.length c01, .slice o02 a0.classes.length c02] #[.slice o11 a1.totals.length c11, .slice o12 a1.cells.length c12] #[.int .i64 a2.attr, .int .i64 a2.pos]
  go_enter Try.func5, Try.ntmps5
  have kKA00 : (((w.alloc (.cells #[.slice o01 a0.attrs.length c01, .slice o02 a0.classes.length c02] 34)).alloc (.cells #[.slice o11 a1.totals.length c11, .slice o12 a1.cells.length c12] 37)).alloc (.cells #[.int .i64 a2.attr, .int .i64 a2.pos] 39)).cell? ⟨w.heap.size, 0, none⟩ = some (.slice o01 a0.attrs.length c01) := KA0.cell 0
  have kKA01 : (((w.alloc (.cells #[.slice o01 a0.attrs.length c01, .slice o02 a0.classes.length c02] 34)).alloc (.cells #[.slice o11 a1.totals.length c11, .slice o12 a1.cells.length c12] 37)).alloc (.cells #[.int .i64 a2.attr, .int .i64 a2.pos] 39)).cell? ⟨w.heap.size, 1, none⟩ = some (.slice o02 a0.classes.length c02) := KA0.cell 1
  have kKA10 : (((w.alloc (.cells #[.slice o01 a0.attrs.length c01, .slice o02 a0.classes.length c02] 34)).alloc (.cells #[.slice o11 a1.totals.length c11, .slice o12 a1.cells.length c12] 37)).alloc (.cells #[.int .i64 a2.attr, .int .i64 a2.pos] 39)).cell? ⟨w.heap.size + 1, 0, none⟩ = some (.slice o11 a1.totals.length c11) := KA1.cell 0
  have kKA11 : (((w.alloc (.cells #[.slice o01 a0.attrs.length c01, .slice o02 a0.classes.length c02] 34)).alloc (.cells #[.slice o11 a1.totals.length c11, .slice o12 a1.cells.length c12] 37)).alloc (.cells #[.int .i64 a2.attr, .int .i64 a2.pos] 39)).cell? ⟨w.heap.size + 1, 1, none⟩ = some (.slice o12 a1.cells.length c12) := KA1.cell 1
  have kKA20 : (((w.alloc (.cells #[.slice o01 a0.attrs.length c01, .slice o02 a0.classes.length c02] 34)).alloc (.cells #[.slice o11 a1.totals.length c11, .slice o12 a1.cells.length c12] 37)).alloc (.cells #[.int .i64 a2.attr, .int .i64 a2.pos] 39)).cell? ⟨w.heap.size + 1 + 1, 0, none⟩ = some (.int .i64 a2.attr) := KA2.cell 0
  have kKA21 : (((w.alloc (.cells #[.slice o01 a0.attrs.length c01, .slice o02 a0.classes.length c02] 34)).alloc (.cells #[.slice o11 a1.totals.length c11, .slice o12 a1.cells.length c12] 37)).alloc (.cells #[.int .i64 a2.attr, .int .i64 a2.pos] 39)).cell? ⟨w.heap.size + 1 + 1, 1, none⟩ = some (.int .i64 a2.pos) := KA2.cell 1
  go_wp2_with fail
  refine (HC0.out _ 1048576 (by omega) (by omega) B).mono ?_
  clear HC0
  clear kKA00 kKA01 kKA10 kKA11 kKA20 kKA21
  rintro e w1 ⟨r0, rfl, hr, hb⟩
  replace B := B.trans (hb.mono B.size)
  replace KA0 := KA0.below hb
  replace KA1 := KA1.below hb
  replace KA2 := KA2.below hb
  clear hb
  rcases hr with ⟨r00, r01, hf⟩ | rfl
  rotate_left
  · go_wp2
    go_ret
    exact ⟨rfl, B⟩
  have HF0 : Hid (fitS a0) := hf
  clear hf
  have r0n : ¬ r0 < 0 := by omega
  have kKA00 : w1.cell? ⟨w.heap.size, 0, none⟩ = some (.slice o01 a0.attrs.length c01) := KA0.cell 0
  have kKA01 : w1.cell? ⟨w.heap.size, 1, none⟩ = some (.slice o02 a0.classes.length c02) := KA0.cell 1
  have kKA10 : w1.cell? ⟨w.heap.size + 1, 0, none⟩ = some (.slice o11 a1.totals.length c11) := KA1.cell 0
  have kKA11 : w1.cell? ⟨w.heap.size + 1, 1, none⟩ = some (.slice o12 a1.cells.length c12) := KA1.cell 1
  have kKA20 : w1.cell? ⟨w.heap.size + 1 + 1, 0, none⟩ = some (.int .i64 a2.attr) := KA2.cell 0
  have kKA21 : w1.cell? ⟨w.heap.size + 1 + 1, 1, none⟩ = some (.int .i64 a2.pos) := KA2.cell 1
  go_wp2_with fail
  refine (HC1.out _ r0 r00 (by omega) B).mono ?_
  clear HC1
  clear kKA00 kKA01 kKA10 kKA11 kKA20 kKA21
  rintro e w2 ⟨r1, rfl, hr, hb⟩
  replace B := B.trans (hb.mono B.size)
  replace KA0 := KA0.below hb
  replace KA1 := KA1.below hb
  replace KA2 := KA2.below hb
  clear hb
  rcases hr with ⟨r10, r11, hf⟩ | rfl
  rotate_left
  · go_wp2
    go_ret
    exact ⟨rfl, B⟩
  have HF1 : Hid (fitSt a1) := hf
  clear hf
  have r1n : ¬ r1 < 0 := by omega
  have HI : Hid (∀ W v0 v1 (_ : Below w.heap.size w W) (_ : SchemaAt W v0 a0) (_ : StatsAt W v1 a1), Calls Try.prog 19 #[v0, v1, .agg #[.int .i64 a2.attr, .int .i64 a2.pos]] W fun e w' => e = .returned (frV (meritN a0 a1 a2) (meritD a0 a1 a2)) ∧ Below W.heap.size W w') := fun W v0 v1 hW h0 h1 => implMerit_any v0 v1 a0 a1 a2 W h0 h1 HF0.out.ok HF1.out.ok
  have HSP : Hid (∀ W v0 v1 (_ : Below w.heap.size w W) (_ : SchemaAt W v0 a0) (_ : StatsAt W v1 a1), Calls Try.prog 15 #[v0, v1, .agg #[.int .i64 a2.attr, .int .i64 a2.pos]] W fun e w' => e = .returned (frV (meritN a0 a1 a2) (meritD a0 a1 a2)) ∧ Below W.heap.size W w') := fun W v0 v1 hW h0 h1 => specMerit_any v0 v1 a0 a1 a2 W h0 h1 HF0.out.ok HF1.out.ok
  generalize meritN a0 a1 a2 = G0 at HI HSP
  generalize meritD a0 a1 a2 = H0 at HI HSP
  have HTL0 : Hid (∀ W, Below w.heap.size w W → Calls Try.prog 16 #[.agg #[.slice o01 a0.attrs.length c01, .slice o02 a0.classes.length c02]] W fun e w' => ∃ v, e = .returned v ∧ SchemaAt w' v a0 ∧ Below W.heap.size W w') := fun W hW => (toSchema_row _ a0 W (HHA0.out W hW) HF0.out).mono fun e w' h => by obtain ⟨v, h1, h2, h3⟩ := h; exact ⟨v, h1, h2.at, h3⟩
  have HTL1 : Hid (∀ W, Below w.heap.size w W → Calls Try.prog 17 #[.agg #[.slice o11 a1.totals.length c11, .slice o12 a1.cells.length c12]] W fun e w' => ∃ v, e = .returned v ∧ StatsAt w' v a1 ∧ Below W.heap.size W w') := fun W hW => (toStats_row _ a1 W (HHA1.out W hW) HF1.out).mono fun e w' h => by obtain ⟨v, h1, h2, h3⟩ := h; exact ⟨v, h1, h2.at, h3⟩
  have kKA00 : w2.cell? ⟨w.heap.size, 0, none⟩ = some (.slice o01 a0.attrs.length c01) := KA0.cell 0
  have kKA01 : w2.cell? ⟨w.heap.size, 1, none⟩ = some (.slice o02 a0.classes.length c02) := KA0.cell 1
  have kKA10 : w2.cell? ⟨w.heap.size + 1, 0, none⟩ = some (.slice o11 a1.totals.length c11) := KA1.cell 0
  have kKA11 : w2.cell? ⟨w.heap.size + 1, 1, none⟩ = some (.slice o12 a1.cells.length c12) := KA1.cell 1
  have kKA20 : w2.cell? ⟨w.heap.size + 1 + 1, 0, none⟩ = some (.int .i64 a2.attr) := KA2.cell 0
  have kKA21 : w2.cell? ⟨w.heap.size + 1 + 1, 1, none⟩ = some (.int .i64 a2.pos) := KA2.cell 1
  go_wp2_with fail
  clear kKA00 kKA01 kKA10 kKA11 kKA20 kKA21
  have HKf1 : Hid (Blk 34 w2 (w.heap.size) #[.slice o01 a0.attrs.length c01, .slice o02 a0.classes.length c02] ∧ Blk 37 w2 (w.heap.size + 1) #[.slice o11 a1.totals.length c11, .slice o12 a1.cells.length c12] ∧ Blk 39 w2 (w.heap.size + 1 + 1) #[.int .i64 a2.attr, .int .i64 a2.pos]) := ⟨KA0, KA1, KA2⟩
  have HBf1 : Hid (Below w.heap.size w w2) := B
  have hlf1KA0 := KA0.lt
  have hlf1KA1 := KA1.lt
  have hlf1KA2 := KA2.lt
  refine region_then (fun a a' w' => ∃ (gg : Nat) (u1 : Value) (u2 : Value), a' = ((((((((a.put (some 22) (.agg #[.slice o01 a0.attrs.length c01, .slice o02 a0.classes.length c02])).put (some 23) (u1)).put (some 24) (.agg #[.slice o11 a1.totals.length c11, .slice o12 a1.cells.length c12])).put (some 25) (u2)).put (some 26) (.agg #[.int .i64 a2.attr, .int .i64 a2.pos])).put (some 27) (.agg #[.int .i64 a2.attr, .int .i64 a2.pos])).put (some 28) (.agg #[.int .i64 G0, .int .i64 H0])).put (some 8) (.pointer (some ⟨gg, 0, none⟩))) ∧ w2.heap.size ≤ gg ∧ Blk 28 w' gg #[.int .i64 G0, .int .i64 H0] ∧ Below w2.heap.size w2 w') ?_ ?_
  · clear B KA0 KA1 KA2
    refine wp_region_held_drew (S := fun w' => Blk 34 w' (w.heap.size) #[.slice o01 a0.attrs.length c01, .slice o02 a0.classes.length c02] ∧ Blk 37 w' (w.heap.size + 1) #[.slice o11 a1.totals.length c11, .slice o12 a1.cells.length c12] ∧ Blk 39 w' (w.heap.size + 1 + 1) #[.int .i64 a2.attr, .int .i64 a2.pos]) (by kernel_rfl) HKf1.out ?_
    intro hS
    have BV : Below w2.heap.size w2 w2.drew := below_drewN (Below.refl _ _) 1
    generalize w2.drew = V at hS BV ⊢
    refine takeL 0 (.agg #[.slice o01 a0.attrs.length c01, .slice o02 a0.classes.length c02]) rfl (by kernel_rfl) (by kernel_rfl) (by kernel_rfl) (fun _ _ _ h => nomatch h.1) (yields_row Try.underlying34 (by kernel_rfl) (by rfl) _ rfl _ rfl (fun _ h => h.1)) hS ?_
    try simp only [Act.put, List.setIfInBounds_toArray, List.set_cons_zero, List.set_cons_succ]
    refine takeL 2 (.agg #[.slice o11 a1.totals.length c11, .slice o12 a1.cells.length c12]) rfl (by kernel_rfl) (by kernel_rfl) (by kernel_rfl) (fun _ _ _ h => nomatch h.1) (yields_row Try.underlying37 (by kernel_rfl) (by rfl) _ rfl _ rfl (fun _ h => h.2.1)) hS ?_
    try simp only [Act.put, List.setIfInBounds_toArray, List.set_cons_zero, List.set_cons_succ]
    refine takeL 4 (.agg #[.int .i64 a2.attr, .int .i64 a2.pos]) rfl (by kernel_rfl) (by kernel_rfl) (by kernel_rfl) (fun _ _ _ h => nomatch h.1) (yields_row Try.underlying39 (by kernel_rfl) (by rfl) _ rfl _ rfl (fun _ h => h.2.2)) hS ?_
    try simp only [Act.put, List.setIfInBounds_toArray, List.set_cons_zero, List.set_cons_succ]
    refine next2L 1 7 rfl rfl (by kernel_rfl) (by rfl) (by rfl) (fun K hK => ?_) (fun K hK => ?_)
    · have B := HBf1.out.trans (BV.mono HBf1.out.size)
      have dd := HTL0.out V B
      clear B 
      go_simp
      refine dd.mono ?_
      clear dd
      rintro e Uf11 ⟨u1, rfl, hu1, hb⟩
      refine hK _ _ ⟨hS.1.below hb, hS.2.1.below hb, hS.2.2.below hb⟩ ?_
      clear hK K hS
      intro hS
      replace BV := BV.trans (hb.mono BV.size)
      clear hb
      refine next2L 3 7 rfl rfl (by kernel_rfl) (by rfl) (by rfl) (fun K hK => ?_) (fun K hK => ?_)
      · have B := HBf1.out.trans (BV.mono HBf1.out.size)
        have dd := HTL1.out Uf11 B
        clear B 
        go_simp
        refine dd.mono ?_
        clear dd
        rintro e Uf12 ⟨u2, rfl, hu2, hb⟩
        refine hK _ _ ⟨hS.1.below hb, hS.2.1.below hb, hS.2.2.below hb⟩ ?_
        clear hK K hS
        intro hS
        replace BV := BV.trans (hb.mono BV.size)
        replace hu1 := hu1.later hb
        clear hb
        refine next2L 5 7 rfl rfl (by kernel_rfl) (by rfl) (by rfl) (fun K hK => ?_) (fun K hK => ?_)
        · have B := HBf1.out.trans (BV.mono HBf1.out.size)
          have dd := toFork_any a2 Uf12
          clear B 
          go_simp
          refine dd.mono ?_
          clear dd
          rintro e Uf13 ⟨rfl, hb⟩
          refine hK _ _ ⟨hS.1.below hb, hS.2.1.below hb, hS.2.2.below hb⟩ ?_
          clear hK K hS
          intro hS
          replace BV := BV.trans (hb.mono BV.size)
          replace hu1 := hu1.later hb
          replace hu2 := hu2.later hb
          clear hb
          refine next2L 6 7 rfl rfl (by kernel_rfl) (by rfl) (by rfl) (fun K hK => ?_) (fun K hK => ?_)
          · have B := HBf1.out.trans (BV.mono HBf1.out.size)
            have dd := HSP.out Uf13 _ _ B hu1 hu2
            clear B 
            go_simp
            refine dd.mono ?_
            clear dd
            rintro e Uf14 ⟨rfl, hb⟩
            refine hK _ _ ⟨hS.1.below hb, hS.2.1.below hb, hS.2.2.below hb⟩ ?_
            clear hK K hS
            intro hS
            replace BV := BV.trans (hb.mono BV.size)
            replace hu1 := hu1.later hb
            replace hu2 := hu2.later hb
            clear hb
            refine nextL 7 rfl (by kernel_rfl) (by rfl) fun K hK => ?_
            go_simp
            obtain ⟨T1, BN⟩ := blk_1 28 Uf14 #[.int .i64 0, .int .i64 0]
            have hg1 := BV.size
            refine hK _ _ ⟨hS.1.below BN, hS.2.1.below BN, hS.2.2.below BN⟩ ?_
            clear hK K hS
            intro hS
            replace BV := BV.trans (BN.mono BV.size)
            replace hu1 := hu1.later BN
            replace hu2 := hu2.later BN
            obtain ⟨g, hg⟩ : ∃ g, Uf14.heap.size = g := ⟨_, rfl⟩
            rw [hg] at T1 hg1 ⊢
            clear BN
            generalize Uf14.alloc (.cells #[.int .i64 0, .int .i64 0] 28) = Uf15 at hS T1 BV hu1 hu2 ⊢
            clear hg
            refine nextL 8 rfl (by kernel_rfl) (by rfl) fun K hK => ?_
            refine wp_fr_step _ _ rfl g _ _ _ _ rfl rfl T1 ?_
            simp only [Act.put]
            replace T1 := T1.setRow #[.int .i64 G0, .int .i64 H0]
            replace BV := below_row BV hg1 #[.int .i64 G0, .int .i64 H0]
            refine hK _ _ ⟨Blk.setRow_other hS.1 _ (by omega), Blk.setRow_other hS.2.1 _ (by omega), Blk.setRow_other hS.2.2 _ (by omega)⟩ ?_
            clear hK K hS
            intro hS
            refine wpAnyH_done (by kernel_rfl) ?_ _
            exact ⟨rfl, g, u1, u2, by first | rfl | (simp only [Act.put, List.setIfInBounds_toArray, List.set_cons_zero, List.set_cons_succ]), hg1, T1, BV⟩
          · go_simp
            obtain ⟨T1, BN⟩ := blk_1 28 Uf13 #[.int .i64 0, .int .i64 0]
            have hg1 := BV.size
            refine hK _ _ ⟨hS.1.below BN, hS.2.1.below BN, hS.2.2.below BN⟩ ?_
            clear hK K hS
            intro hS
            replace BV := BV.trans (BN.mono BV.size)
            replace hu1 := hu1.later BN
            replace hu2 := hu2.later BN
            obtain ⟨g, hg⟩ : ∃ g, Uf13.heap.size = g := ⟨_, rfl⟩
            rw [hg] at T1 hg1 ⊢
            clear BN
            generalize Uf13.alloc (.cells #[.int .i64 0, .int .i64 0] 28) = Uf16 at hS T1 BV hu1 hu2 ⊢
            clear hg
            refine nextL 6 rfl (by kernel_rfl) (by rfl) fun K hK => ?_
            have B := HBf1.out.trans (BV.mono HBf1.out.size)
            have dd := HSP.out Uf16 _ _ B hu1 hu2
            clear B 
            go_simp
            refine dd.mono ?_
            clear dd
            rintro e Uf17 ⟨rfl, hb⟩
            refine hK _ _ ⟨hS.1.below hb, hS.2.1.below hb, hS.2.2.below hb⟩ ?_
            clear hK K hS
            intro hS
            replace BV := BV.trans (hb.mono BV.size)
            replace hu1 := hu1.later hb
            replace hu2 := hu2.later hb
            replace T1 := T1.below hb
            clear hb
            refine nextL 8 rfl (by kernel_rfl) (by rfl) fun K hK => ?_
            refine wp_fr_step _ _ rfl g _ _ _ _ rfl rfl T1 ?_
            simp only [Act.put]
            replace T1 := T1.setRow #[.int .i64 G0, .int .i64 H0]
            replace BV := below_row BV hg1 #[.int .i64 G0, .int .i64 H0]
            refine hK _ _ ⟨Blk.setRow_other hS.1 _ (by omega), Blk.setRow_other hS.2.1 _ (by omega), Blk.setRow_other hS.2.2 _ (by omega)⟩ ?_
            clear hK K hS
            intro hS
            refine wpAnyH_done (by kernel_rfl) ?_ _
            exact ⟨rfl, g, u1, u2, by first | rfl | (simp only [Act.put, List.setIfInBounds_toArray, List.set_cons_zero, List.set_cons_succ]), hg1, T1, BV⟩
        · go_simp
          obtain ⟨T1, BN⟩ := blk_1 28 Uf12 #[.int .i64 0, .int .i64 0]
          have hg1 := BV.size
          refine hK _ _ ⟨hS.1.below BN, hS.2.1.below BN, hS.2.2.below BN⟩ ?_
          clear hK K hS
          intro hS
          replace BV := BV.trans (BN.mono BV.size)
          replace hu1 := hu1.later BN
          replace hu2 := hu2.later BN
          obtain ⟨g, hg⟩ : ∃ g, Uf12.heap.size = g := ⟨_, rfl⟩
          rw [hg] at T1 hg1 ⊢
          clear BN
          generalize Uf12.alloc (.cells #[.int .i64 0, .int .i64 0] 28) = Uf18 at hS T1 BV hu1 hu2 ⊢
          clear hg
          refine nextL 5 rfl (by kernel_rfl) (by rfl) fun K hK => ?_
          have B := HBf1.out.trans (BV.mono HBf1.out.size)
          have dd := toFork_any a2 Uf18
          clear B 
          go_simp
          refine dd.mono ?_
          clear dd
          rintro e Uf19 ⟨rfl, hb⟩
          refine hK _ _ ⟨hS.1.below hb, hS.2.1.below hb, hS.2.2.below hb⟩ ?_
          clear hK K hS
          intro hS
          replace BV := BV.trans (hb.mono BV.size)
          replace hu1 := hu1.later hb
          replace hu2 := hu2.later hb
          replace T1 := T1.below hb
          clear hb
          refine nextL 6 rfl (by kernel_rfl) (by rfl) fun K hK => ?_
          have B := HBf1.out.trans (BV.mono HBf1.out.size)
          have dd := HSP.out Uf19 _ _ B hu1 hu2
          clear B 
          go_simp
          refine dd.mono ?_
          clear dd
          rintro e Uf110 ⟨rfl, hb⟩
          refine hK _ _ ⟨hS.1.below hb, hS.2.1.below hb, hS.2.2.below hb⟩ ?_
          clear hK K hS
          intro hS
          replace BV := BV.trans (hb.mono BV.size)
          replace hu1 := hu1.later hb
          replace hu2 := hu2.later hb
          replace T1 := T1.below hb
          clear hb
          refine nextL 8 rfl (by kernel_rfl) (by rfl) fun K hK => ?_
          refine wp_fr_step _ _ rfl g _ _ _ _ rfl rfl T1 ?_
          simp only [Act.put]
          replace T1 := T1.setRow #[.int .i64 G0, .int .i64 H0]
          replace BV := below_row BV hg1 #[.int .i64 G0, .int .i64 H0]
          refine hK _ _ ⟨Blk.setRow_other hS.1 _ (by omega), Blk.setRow_other hS.2.1 _ (by omega), Blk.setRow_other hS.2.2 _ (by omega)⟩ ?_
          clear hK K hS
          intro hS
          refine wpAnyH_done (by kernel_rfl) ?_ _
          exact ⟨rfl, g, u1, u2, by first | rfl | (simp only [Act.put, List.setIfInBounds_toArray, List.set_cons_zero, List.set_cons_succ]), hg1, T1, BV⟩
      · go_simp
        obtain ⟨T1, BN⟩ := blk_1 28 Uf11 #[.int .i64 0, .int .i64 0]
        have hg1 := BV.size
        refine hK _ _ ⟨hS.1.below BN, hS.2.1.below BN, hS.2.2.below BN⟩ ?_
        clear hK K hS
        intro hS
        replace BV := BV.trans (BN.mono BV.size)
        replace hu1 := hu1.later BN
        obtain ⟨g, hg⟩ : ∃ g, Uf11.heap.size = g := ⟨_, rfl⟩
        rw [hg] at T1 hg1 ⊢
        clear BN
        generalize Uf11.alloc (.cells #[.int .i64 0, .int .i64 0] 28) = Uf111 at hS T1 BV hu1 ⊢
        clear hg
        refine nextL 3 rfl (by kernel_rfl) (by rfl) fun K hK => ?_
        have B := HBf1.out.trans (BV.mono HBf1.out.size)
        have dd := HTL1.out Uf111 B
        clear B 
        go_simp
        refine dd.mono ?_
        clear dd
        rintro e Uf112 ⟨u2, rfl, hu2, hb⟩
        refine hK _ _ ⟨hS.1.below hb, hS.2.1.below hb, hS.2.2.below hb⟩ ?_
        clear hK K hS
        intro hS
        replace BV := BV.trans (hb.mono BV.size)
        replace hu1 := hu1.later hb
        replace T1 := T1.below hb
        clear hb
        refine nextL 5 rfl (by kernel_rfl) (by rfl) fun K hK => ?_
        have B := HBf1.out.trans (BV.mono HBf1.out.size)
        have dd := toFork_any a2 Uf112
        clear B 
        go_simp
        refine dd.mono ?_
        clear dd
        rintro e Uf113 ⟨rfl, hb⟩
        refine hK _ _ ⟨hS.1.below hb, hS.2.1.below hb, hS.2.2.below hb⟩ ?_
        clear hK K hS
        intro hS
        replace BV := BV.trans (hb.mono BV.size)
        replace hu1 := hu1.later hb
        replace hu2 := hu2.later hb
        replace T1 := T1.below hb
        clear hb
        refine nextL 6 rfl (by kernel_rfl) (by rfl) fun K hK => ?_
        have B := HBf1.out.trans (BV.mono HBf1.out.size)
        have dd := HSP.out Uf113 _ _ B hu1 hu2
        clear B 
        go_simp
        refine dd.mono ?_
        clear dd
        rintro e Uf114 ⟨rfl, hb⟩
        refine hK _ _ ⟨hS.1.below hb, hS.2.1.below hb, hS.2.2.below hb⟩ ?_
        clear hK K hS
        intro hS
        replace BV := BV.trans (hb.mono BV.size)
        replace hu1 := hu1.later hb
        replace hu2 := hu2.later hb
        replace T1 := T1.below hb
        clear hb
        refine nextL 8 rfl (by kernel_rfl) (by rfl) fun K hK => ?_
        refine wp_fr_step _ _ rfl g _ _ _ _ rfl rfl T1 ?_
        simp only [Act.put]
        replace T1 := T1.setRow #[.int .i64 G0, .int .i64 H0]
        replace BV := below_row BV hg1 #[.int .i64 G0, .int .i64 H0]
        refine hK _ _ ⟨Blk.setRow_other hS.1 _ (by omega), Blk.setRow_other hS.2.1 _ (by omega), Blk.setRow_other hS.2.2 _ (by omega)⟩ ?_
        clear hK K hS
        intro hS
        refine wpAnyH_done (by kernel_rfl) ?_ _
        exact ⟨rfl, g, u1, u2, by first | rfl | (simp only [Act.put, List.setIfInBounds_toArray, List.set_cons_zero, List.set_cons_succ]), hg1, T1, BV⟩
    · go_simp
      obtain ⟨T1, BN⟩ := blk_1 28 V #[.int .i64 0, .int .i64 0]
      have hg1 := BV.size
      refine hK _ _ ⟨hS.1.below BN, hS.2.1.below BN, hS.2.2.below BN⟩ ?_
      clear hK K hS
      intro hS
      replace BV := BV.trans (BN.mono BV.size)
      obtain ⟨g, hg⟩ : ∃ g, V.heap.size = g := ⟨_, rfl⟩
      rw [hg] at T1 hg1 ⊢
      clear BN
      generalize V.alloc (.cells #[.int .i64 0, .int .i64 0] 28) = Uf115 at hS T1 BV  ⊢
      clear hg
      refine nextL 1 rfl (by kernel_rfl) (by rfl) fun K hK => ?_
      have B := HBf1.out.trans (BV.mono HBf1.out.size)
      have dd := HTL0.out Uf115 B
      clear B 
      go_simp
      refine dd.mono ?_
      clear dd
      rintro e Uf116 ⟨u1, rfl, hu1, hb⟩
      refine hK _ _ ⟨hS.1.below hb, hS.2.1.below hb, hS.2.2.below hb⟩ ?_
      clear hK K hS
      intro hS
      replace BV := BV.trans (hb.mono BV.size)
      replace T1 := T1.below hb
      clear hb
      refine nextL 3 rfl (by kernel_rfl) (by rfl) fun K hK => ?_
      have B := HBf1.out.trans (BV.mono HBf1.out.size)
      have dd := HTL1.out Uf116 B
      clear B 
      go_simp
      refine dd.mono ?_
      clear dd
      rintro e Uf117 ⟨u2, rfl, hu2, hb⟩
      refine hK _ _ ⟨hS.1.below hb, hS.2.1.below hb, hS.2.2.below hb⟩ ?_
      clear hK K hS
      intro hS
      replace BV := BV.trans (hb.mono BV.size)
      replace hu1 := hu1.later hb
      replace T1 := T1.below hb
      clear hb
      refine nextL 5 rfl (by kernel_rfl) (by rfl) fun K hK => ?_
      have B := HBf1.out.trans (BV.mono HBf1.out.size)
      have dd := toFork_any a2 Uf117
      clear B 
      go_simp
      refine dd.mono ?_
      clear dd
      rintro e Uf118 ⟨rfl, hb⟩
      refine hK _ _ ⟨hS.1.below hb, hS.2.1.below hb, hS.2.2.below hb⟩ ?_
      clear hK K hS
      intro hS
      replace BV := BV.trans (hb.mono BV.size)
      replace hu1 := hu1.later hb
      replace hu2 := hu2.later hb
      replace T1 := T1.below hb
      clear hb
      refine nextL 6 rfl (by kernel_rfl) (by rfl) fun K hK => ?_
      have B := HBf1.out.trans (BV.mono HBf1.out.size)
      have dd := HSP.out Uf118 _ _ B hu1 hu2
      clear B 
      go_simp
      refine dd.mono ?_
      clear dd
      rintro e Uf119 ⟨rfl, hb⟩
      refine hK _ _ ⟨hS.1.below hb, hS.2.1.below hb, hS.2.2.below hb⟩ ?_
      clear hK K hS
      intro hS
      replace BV := BV.trans (hb.mono BV.size)
      replace hu1 := hu1.later hb
      replace hu2 := hu2.later hb
      replace T1 := T1.below hb
      clear hb
      refine nextL 8 rfl (by kernel_rfl) (by rfl) fun K hK => ?_
      refine wp_fr_step _ _ rfl g _ _ _ _ rfl rfl T1 ?_
      simp only [Act.put]
      replace T1 := T1.setRow #[.int .i64 G0, .int .i64 H0]
      replace BV := below_row BV hg1 #[.int .i64 G0, .int .i64 H0]
      refine hK _ _ ⟨Blk.setRow_other hS.1 _ (by omega), Blk.setRow_other hS.2.1 _ (by omega), Blk.setRow_other hS.2.2 _ (by omega)⟩ ?_
      clear hK K hS
      intro hS
      refine wpAnyH_done (by kernel_rfl) ?_ _
      exact ⟨rfl, g, u1, u2, by first | rfl | (simp only [Act.put, List.setIfInBounds_toArray, List.set_cons_zero, List.set_cons_succ]), hg1, T1, BV⟩
  rintro a9 w3 ⟨gf1, _, _, rfl, hgf1, KFf1, hb⟩
  simp only [Act.put, List.setIfInBounds_toArray, List.set_cons_zero, List.set_cons_succ]
  replace B := B.trans (hb.mono B.size)
  replace KA0 := KA0.below hb
  replace KA1 := KA1.below hb
  replace KA2 := KA2.below hb
  clear hb HKf1 HBf1  hlf1KA0 hlf1KA1 hlf1KA2
  have cc := HTL0.out w3 B
  have kKA00 : w3.cell? ⟨w.heap.size, 0, none⟩ = some (.slice o01 a0.attrs.length c01) := KA0.cell 0
  have kKA01 : w3.cell? ⟨w.heap.size, 1, none⟩ = some (.slice o02 a0.classes.length c02) := KA0.cell 1
  have kKA10 : w3.cell? ⟨w.heap.size + 1, 0, none⟩ = some (.slice o11 a1.totals.length c11) := KA1.cell 0
  have kKA11 : w3.cell? ⟨w.heap.size + 1, 1, none⟩ = some (.slice o12 a1.cells.length c12) := KA1.cell 1
  have kKA20 : w3.cell? ⟨w.heap.size + 1 + 1, 0, none⟩ = some (.int .i64 a2.attr) := KA2.cell 0
  have kKA21 : w3.cell? ⟨w.heap.size + 1 + 1, 1, none⟩ = some (.int .i64 a2.pos) := KA2.cell 1
  have kKFf10 : w3.cell? ⟨gf1, 0, none⟩ = some (.int .i64 G0) := KFf1.cell 0
  have kKFf11 : w3.cell? ⟨gf1, 1, none⟩ = some (.int .i64 H0) := KFf1.cell 1
  go_wp2_with fail
  refine cc.mono ?_
  clear cc
  clear kKA00 kKA01 kKA10 kKA11 kKA20 kKA21 kKFf10 kKFf11
  rintro e w4 ⟨u3, rfl, hu3, hb⟩
  replace B := B.trans (hb.mono B.size)
  replace KA0 := KA0.below hb
  replace KA1 := KA1.below hb
  replace KA2 := KA2.below hb
  replace KFf1 := KFf1.below hb
  clear hb
  have HX0 : Hid (SchemaAt w4 u3 a0) := hu3
  clear hu3
  obtain ⟨y1, y2, rfl, rr1, rr2⟩ := id HX0.out
  obtain ⟨p01, d01, rfl, -, -⟩ := id rr1
  obtain ⟨p02, d02, rfl, -, -⟩ := id rr2
  clear rr1 rr2
  have hx0 := HX0.out
  clear HX0
  obtain ⟨KX0, BN⟩ := blk_1 45 w4 #[.slice p01 a0.attrs.length d01, .slice p02 a0.classes.length d02]
  replace B := B.trans (BN.mono B.size)
  replace hx0 := hx0.later BN
  replace KA0 := KA0.below BN
  replace KA1 := KA1.below BN
  replace KA2 := KA2.below BN
  replace KFf1 := KFf1.below BN
  clear BN
  have cc := HTL1.out (w4.alloc (.cells #[.slice p01 a0.attrs.length d01, .slice p02 a0.classes.length d02] 45)) B
  have kKA00 : (w4.alloc (.cells #[.slice p01 a0.attrs.length d01, .slice p02 a0.classes.length d02] 45)).cell? ⟨w.heap.size, 0, none⟩ = some (.slice o01 a0.attrs.length c01) := KA0.cell 0
  have kKA01 : (w4.alloc (.cells #[.slice p01 a0.attrs.length d01, .slice p02 a0.classes.length d02] 45)).cell? ⟨w.heap.size, 1, none⟩ = some (.slice o02 a0.classes.length c02) := KA0.cell 1
  have kKA10 : (w4.alloc (.cells #[.slice p01 a0.attrs.length d01, .slice p02 a0.classes.length d02] 45)).cell? ⟨w.heap.size + 1, 0, none⟩ = some (.slice o11 a1.totals.length c11) := KA1.cell 0
  have kKA11 : (w4.alloc (.cells #[.slice p01 a0.attrs.length d01, .slice p02 a0.classes.length d02] 45)).cell? ⟨w.heap.size + 1, 1, none⟩ = some (.slice o12 a1.cells.length c12) := KA1.cell 1
  have kKA20 : (w4.alloc (.cells #[.slice p01 a0.attrs.length d01, .slice p02 a0.classes.length d02] 45)).cell? ⟨w.heap.size + 1 + 1, 0, none⟩ = some (.int .i64 a2.attr) := KA2.cell 0
  have kKA21 : (w4.alloc (.cells #[.slice p01 a0.attrs.length d01, .slice p02 a0.classes.length d02] 45)).cell? ⟨w.heap.size + 1 + 1, 1, none⟩ = some (.int .i64 a2.pos) := KA2.cell 1
  have kKFf10 : (w4.alloc (.cells #[.slice p01 a0.attrs.length d01, .slice p02 a0.classes.length d02] 45)).cell? ⟨gf1, 0, none⟩ = some (.int .i64 G0) := KFf1.cell 0
  have kKFf11 : (w4.alloc (.cells #[.slice p01 a0.attrs.length d01, .slice p02 a0.classes.length d02] 45)).cell? ⟨gf1, 1, none⟩ = some (.int .i64 H0) := KFf1.cell 1
  have kKX00 : (w4.alloc (.cells #[.slice p01 a0.attrs.length d01, .slice p02 a0.classes.length d02] 45)).cell? ⟨w4.heap.size, 0, none⟩ = some (.slice p01 a0.attrs.length d01) := KX0.cell 0
  have kKX01 : (w4.alloc (.cells #[.slice p01 a0.attrs.length d01, .slice p02 a0.classes.length d02] 45)).cell? ⟨w4.heap.size, 1, none⟩ = some (.slice p02 a0.classes.length d02) := KX0.cell 1
  go_wp2_with fail
  refine cc.mono ?_
  clear cc
  clear kKA00 kKA01 kKA10 kKA11 kKA20 kKA21 kKFf10 kKFf11 kKX00 kKX01
  rintro e w5 ⟨u4, rfl, hu4, hb⟩
  replace B := B.trans (hb.mono B.size)
  replace hx0 := hx0.later hb
  replace KA0 := KA0.below hb
  replace KA1 := KA1.below hb
  replace KA2 := KA2.below hb
  replace KFf1 := KFf1.below hb
  replace KX0 := KX0.below hb
  clear hb
  have HX1 : Hid (StatsAt w5 u4 a1) := hu4
  clear hu4
  obtain ⟨y1, y2, rfl, rr1, rr2⟩ := id HX1.out
  obtain ⟨p11, d11, rfl, -, -⟩ := id rr1
  obtain ⟨p12, d12, rfl, -, -⟩ := id rr2
  clear rr1 rr2
  have hx1 := HX1.out
  clear HX1
  obtain ⟨KX1, BN⟩ := blk_1 47 w5 #[.slice p11 a1.totals.length d11, .slice p12 a1.cells.length d12]
  replace B := B.trans (BN.mono B.size)
  replace hx0 := hx0.later BN
  replace hx1 := hx1.later BN
  replace KA0 := KA0.below BN
  replace KA1 := KA1.below BN
  replace KA2 := KA2.below BN
  replace KFf1 := KFf1.below BN
  replace KX0 := KX0.below BN
  clear BN
  have kKA00 : (w5.alloc (.cells #[.slice p11 a1.totals.length d11, .slice p12 a1.cells.length d12] 47)).cell? ⟨w.heap.size, 0, none⟩ = some (.slice o01 a0.attrs.length c01) := KA0.cell 0
  have kKA01 : (w5.alloc (.cells #[.slice p11 a1.totals.length d11, .slice p12 a1.cells.length d12] 47)).cell? ⟨w.heap.size, 1, none⟩ = some (.slice o02 a0.classes.length c02) := KA0.cell 1
  have kKA10 : (w5.alloc (.cells #[.slice p11 a1.totals.length d11, .slice p12 a1.cells.length d12] 47)).cell? ⟨w.heap.size + 1, 0, none⟩ = some (.slice o11 a1.totals.length c11) := KA1.cell 0
  have kKA11 : (w5.alloc (.cells #[.slice p11 a1.totals.length d11, .slice p12 a1.cells.length d12] 47)).cell? ⟨w.heap.size + 1, 1, none⟩ = some (.slice o12 a1.cells.length c12) := KA1.cell 1
  have kKA20 : (w5.alloc (.cells #[.slice p11 a1.totals.length d11, .slice p12 a1.cells.length d12] 47)).cell? ⟨w.heap.size + 1 + 1, 0, none⟩ = some (.int .i64 a2.attr) := KA2.cell 0
  have kKA21 : (w5.alloc (.cells #[.slice p11 a1.totals.length d11, .slice p12 a1.cells.length d12] 47)).cell? ⟨w.heap.size + 1 + 1, 1, none⟩ = some (.int .i64 a2.pos) := KA2.cell 1
  have kKFf10 : (w5.alloc (.cells #[.slice p11 a1.totals.length d11, .slice p12 a1.cells.length d12] 47)).cell? ⟨gf1, 0, none⟩ = some (.int .i64 G0) := KFf1.cell 0
  have kKFf11 : (w5.alloc (.cells #[.slice p11 a1.totals.length d11, .slice p12 a1.cells.length d12] 47)).cell? ⟨gf1, 1, none⟩ = some (.int .i64 H0) := KFf1.cell 1
  have kKX00 : (w5.alloc (.cells #[.slice p11 a1.totals.length d11, .slice p12 a1.cells.length d12] 47)).cell? ⟨w4.heap.size, 0, none⟩ = some (.slice p01 a0.attrs.length d01) := KX0.cell 0
  have kKX01 : (w5.alloc (.cells #[.slice p11 a1.totals.length d11, .slice p12 a1.cells.length d12] 47)).cell? ⟨w4.heap.size, 1, none⟩ = some (.slice p02 a0.classes.length d02) := KX0.cell 1
  have kKX10 : (w5.alloc (.cells #[.slice p11 a1.totals.length d11, .slice p12 a1.cells.length d12] 47)).cell? ⟨w5.heap.size, 0, none⟩ = some (.slice p11 a1.totals.length d11) := KX1.cell 0
  have kKX11 : (w5.alloc (.cells #[.slice p11 a1.totals.length d11, .slice p12 a1.cells.length d12] 47)).cell? ⟨w5.heap.size, 1, none⟩ = some (.slice p12 a1.cells.length d12) := KX1.cell 1
  go_wp2_with fail
  clear kKA00 kKA01 kKA10 kKA11 kKA20 kKA21 kKFf10 kKFf11 kKX00 kKX01 kKX10 kKX11
  have HKf2 : Hid (Blk 34 (w5.alloc (.cells #[.slice p11 a1.totals.length d11, .slice p12 a1.cells.length d12] 47)) (w.heap.size) #[.slice o01 a0.attrs.length c01, .slice o02 a0.classes.length c02] ∧ Blk 37 (w5.alloc (.cells #[.slice p11 a1.totals.length d11, .slice p12 a1.cells.length d12] 47)) (w.heap.size + 1) #[.slice o11 a1.totals.length c11, .slice o12 a1.cells.length c12] ∧ Blk 39 (w5.alloc (.cells #[.slice p11 a1.totals.length d11, .slice p12 a1.cells.length d12] 47)) (w.heap.size + 1 + 1) #[.int .i64 a2.attr, .int .i64 a2.pos] ∧ Blk 28 (w5.alloc (.cells #[.slice p11 a1.totals.length d11, .slice p12 a1.cells.length d12] 47)) (gf1) #[.int .i64 G0, .int .i64 H0] ∧ Blk 45 (w5.alloc (.cells #[.slice p11 a1.totals.length d11, .slice p12 a1.cells.length d12] 47)) (w4.heap.size) #[.slice p01 a0.attrs.length d01, .slice p02 a0.classes.length d02] ∧ Blk 47 (w5.alloc (.cells #[.slice p11 a1.totals.length d11, .slice p12 a1.cells.length d12] 47)) (w5.heap.size) #[.slice p11 a1.totals.length d11, .slice p12 a1.cells.length d12]) := ⟨KA0, KA1, KA2, KFf1, KX0, KX1⟩
  have HBf2 : Hid (Below w.heap.size w (w5.alloc (.cells #[.slice p11 a1.totals.length d11, .slice p12 a1.cells.length d12] 47))) := B
  have hlf2KA0 := KA0.lt
  have hlf2KA1 := KA1.lt
  have hlf2KA2 := KA2.lt
  have hlf2KFf1 := KFf1.lt
  have hlf2KX0 := KX0.lt
  have hlf2KX1 := KX1.lt
  have HAf2hx0 : Hid (SchemaAt (w5.alloc (.cells #[.slice p11 a1.totals.length d11, .slice p12 a1.cells.length d12] 47)) (.agg #[.slice p01 a0.attrs.length d01, .slice p02 a0.classes.length d02]) a0) := hx0
  have HAf2hx1 : Hid (StatsAt (w5.alloc (.cells #[.slice p11 a1.totals.length d11, .slice p12 a1.cells.length d12] 47)) (.agg #[.slice p11 a1.totals.length d11, .slice p12 a1.cells.length d12]) a1) := hx1
  refine region_then (fun a a' w' => ∃ (gg : Nat), a' = ((((((a.put (some 33) (.agg #[.slice p01 a0.attrs.length d01, .slice p02 a0.classes.length d02])).put (some 34) (.agg #[.slice p11 a1.totals.length d11, .slice p12 a1.cells.length d12])).put (some 35) (.agg #[.int .i64 a2.attr, .int .i64 a2.pos])).put (some 36) (.agg #[.int .i64 a2.attr, .int .i64 a2.pos])).put (some 37) (.agg #[.int .i64 G0, .int .i64 H0])).put (some 11) (.pointer (some ⟨gg, 0, none⟩))) ∧ (w5.alloc (.cells #[.slice p11 a1.totals.length d11, .slice p12 a1.cells.length d12] 47)).heap.size ≤ gg ∧ Blk 28 w' gg #[.int .i64 G0, .int .i64 H0] ∧ Below (w5.alloc (.cells #[.slice p11 a1.totals.length d11, .slice p12 a1.cells.length d12] 47)).heap.size (w5.alloc (.cells #[.slice p11 a1.totals.length d11, .slice p12 a1.cells.length d12] 47)) w') ?_ ?_
  · clear B hx0 hx1 KA0 KA1 KA2 KFf1 KX0 KX1
    refine wp_region_held_drew (S := fun w' => Blk 34 w' (w.heap.size) #[.slice o01 a0.attrs.length c01, .slice o02 a0.classes.length c02] ∧ Blk 37 w' (w.heap.size + 1) #[.slice o11 a1.totals.length c11, .slice o12 a1.cells.length c12] ∧ Blk 39 w' (w.heap.size + 1 + 1) #[.int .i64 a2.attr, .int .i64 a2.pos] ∧ Blk 28 w' (gf1) #[.int .i64 G0, .int .i64 H0] ∧ Blk 45 w' (w4.heap.size) #[.slice p01 a0.attrs.length d01, .slice p02 a0.classes.length d02] ∧ Blk 47 w' (w5.heap.size) #[.slice p11 a1.totals.length d11, .slice p12 a1.cells.length d12]) (by kernel_rfl) HKf2.out ?_
    intro hS
    have BV : Below (w5.alloc (.cells #[.slice p11 a1.totals.length d11, .slice p12 a1.cells.length d12] 47)).heap.size (w5.alloc (.cells #[.slice p11 a1.totals.length d11, .slice p12 a1.cells.length d12] 47)) (w5.alloc (.cells #[.slice p11 a1.totals.length d11, .slice p12 a1.cells.length d12] 47)).drew := below_drewN (Below.refl _ _) 1
    generalize (w5.alloc (.cells #[.slice p11 a1.totals.length d11, .slice p12 a1.cells.length d12] 47)).drew = V at hS BV ⊢
    refine takeL 0 (.agg #[.slice p01 a0.attrs.length d01, .slice p02 a0.classes.length d02]) rfl (by kernel_rfl) (by kernel_rfl) (by kernel_rfl) (fun _ _ _ h => nomatch h.1) (yields_row Try.underlying45 (by kernel_rfl) (by rfl) _ rfl _ rfl (fun _ h => h.2.2.2.2.1)) hS ?_
    try simp only [Act.put, List.setIfInBounds_toArray, List.set_cons_zero, List.set_cons_succ]
    refine takeL 1 (.agg #[.slice p11 a1.totals.length d11, .slice p12 a1.cells.length d12]) rfl (by kernel_rfl) (by kernel_rfl) (by kernel_rfl) (fun _ _ _ h => nomatch h.1) (yields_row Try.underlying47 (by kernel_rfl) (by rfl) _ rfl _ rfl (fun _ h => h.2.2.2.2.2)) hS ?_
    try simp only [Act.put, List.setIfInBounds_toArray, List.set_cons_zero, List.set_cons_succ]
    refine takeL 2 (.agg #[.int .i64 a2.attr, .int .i64 a2.pos]) rfl (by kernel_rfl) (by kernel_rfl) (by kernel_rfl) (fun _ _ _ h => nomatch h.1) (yields_row Try.underlying39 (by kernel_rfl) (by rfl) _ rfl _ rfl (fun _ h => h.2.2.1)) hS ?_
    try simp only [Act.put, List.setIfInBounds_toArray, List.set_cons_zero, List.set_cons_succ]
    refine next2L 3 5 rfl rfl (by kernel_rfl) (by rfl) (by rfl) (fun K hK => ?_) (fun K hK => ?_)
    · have B := HBf2.out.trans (BV.mono HBf2.out.size)
      have hx0 := (show SchemaAt _ _ _ from HAf2hx0.out).later BV
      have hx1 := (show StatsAt _ _ _ from HAf2hx1.out).later BV
      have dd := toFork_any a2 V
      clear B hx0 hx1
      go_simp
      refine dd.mono ?_
      clear dd
      rintro e Uf21 ⟨rfl, hb⟩
      refine hK _ _ ⟨hS.1.below hb, hS.2.1.below hb, hS.2.2.1.below hb, hS.2.2.2.1.below hb, hS.2.2.2.2.1.below hb, hS.2.2.2.2.2.below hb⟩ ?_
      clear hK K hS
      intro hS
      replace BV := BV.trans (hb.mono BV.size)
      clear hb
      refine next2L 4 5 rfl rfl (by kernel_rfl) (by rfl) (by rfl) (fun K hK => ?_) (fun K hK => ?_)
      · have B := HBf2.out.trans (BV.mono HBf2.out.size)
        have hx0 := (show SchemaAt _ _ _ from HAf2hx0.out).later BV
        have hx1 := (show StatsAt _ _ _ from HAf2hx1.out).later BV
        have dd := HI.out Uf21 _ _ B hx0 hx1
        clear B hx0 hx1
        go_simp
        refine dd.mono ?_
        clear dd
        rintro e Uf22 ⟨rfl, hb⟩
        refine hK _ _ ⟨hS.1.below hb, hS.2.1.below hb, hS.2.2.1.below hb, hS.2.2.2.1.below hb, hS.2.2.2.2.1.below hb, hS.2.2.2.2.2.below hb⟩ ?_
        clear hK K hS
        intro hS
        replace BV := BV.trans (hb.mono BV.size)
        clear hb
        refine nextL 5 rfl (by kernel_rfl) (by rfl) fun K hK => ?_
        go_simp
        obtain ⟨T1, BN⟩ := blk_1 28 Uf22 #[.int .i64 0, .int .i64 0]
        have hg1 := BV.size
        refine hK _ _ ⟨hS.1.below BN, hS.2.1.below BN, hS.2.2.1.below BN, hS.2.2.2.1.below BN, hS.2.2.2.2.1.below BN, hS.2.2.2.2.2.below BN⟩ ?_
        clear hK K hS
        intro hS
        replace BV := BV.trans (BN.mono BV.size)
        obtain ⟨g, hg⟩ : ∃ g, Uf22.heap.size = g := ⟨_, rfl⟩
        rw [hg] at T1 hg1 ⊢
        clear BN
        generalize Uf22.alloc (.cells #[.int .i64 0, .int .i64 0] 28) = Uf23 at hS T1 BV  ⊢
        clear hg
        refine nextL 6 rfl (by kernel_rfl) (by rfl) fun K hK => ?_
        refine wp_fr_step _ _ rfl g _ _ _ _ rfl rfl T1 ?_
        simp only [Act.put]
        replace T1 := T1.setRow #[.int .i64 G0, .int .i64 H0]
        replace BV := below_row BV hg1 #[.int .i64 G0, .int .i64 H0]
        refine hK _ _ ⟨Blk.setRow_other hS.1 _ (by omega), Blk.setRow_other hS.2.1 _ (by omega), Blk.setRow_other hS.2.2.1 _ (by omega), Blk.setRow_other hS.2.2.2.1 _ (by omega), Blk.setRow_other hS.2.2.2.2.1 _ (by omega), Blk.setRow_other hS.2.2.2.2.2 _ (by omega)⟩ ?_
        clear hK K hS
        intro hS
        refine wpAnyH_done (by kernel_rfl) ?_ _
        exact ⟨rfl, g, by first | rfl | (simp only [Act.put, List.setIfInBounds_toArray, List.set_cons_zero, List.set_cons_succ]), hg1, T1, BV⟩
      · go_simp
        obtain ⟨T1, BN⟩ := blk_1 28 Uf21 #[.int .i64 0, .int .i64 0]
        have hg1 := BV.size
        refine hK _ _ ⟨hS.1.below BN, hS.2.1.below BN, hS.2.2.1.below BN, hS.2.2.2.1.below BN, hS.2.2.2.2.1.below BN, hS.2.2.2.2.2.below BN⟩ ?_
        clear hK K hS
        intro hS
        replace BV := BV.trans (BN.mono BV.size)
        obtain ⟨g, hg⟩ : ∃ g, Uf21.heap.size = g := ⟨_, rfl⟩
        rw [hg] at T1 hg1 ⊢
        clear BN
        generalize Uf21.alloc (.cells #[.int .i64 0, .int .i64 0] 28) = Uf24 at hS T1 BV  ⊢
        clear hg
        refine nextL 4 rfl (by kernel_rfl) (by rfl) fun K hK => ?_
        have B := HBf2.out.trans (BV.mono HBf2.out.size)
        have hx0 := (show SchemaAt _ _ _ from HAf2hx0.out).later BV
        have hx1 := (show StatsAt _ _ _ from HAf2hx1.out).later BV
        have dd := HI.out Uf24 _ _ B hx0 hx1
        clear B hx0 hx1
        go_simp
        refine dd.mono ?_
        clear dd
        rintro e Uf25 ⟨rfl, hb⟩
        refine hK _ _ ⟨hS.1.below hb, hS.2.1.below hb, hS.2.2.1.below hb, hS.2.2.2.1.below hb, hS.2.2.2.2.1.below hb, hS.2.2.2.2.2.below hb⟩ ?_
        clear hK K hS
        intro hS
        replace BV := BV.trans (hb.mono BV.size)
        replace T1 := T1.below hb
        clear hb
        refine nextL 6 rfl (by kernel_rfl) (by rfl) fun K hK => ?_
        refine wp_fr_step _ _ rfl g _ _ _ _ rfl rfl T1 ?_
        simp only [Act.put]
        replace T1 := T1.setRow #[.int .i64 G0, .int .i64 H0]
        replace BV := below_row BV hg1 #[.int .i64 G0, .int .i64 H0]
        refine hK _ _ ⟨Blk.setRow_other hS.1 _ (by omega), Blk.setRow_other hS.2.1 _ (by omega), Blk.setRow_other hS.2.2.1 _ (by omega), Blk.setRow_other hS.2.2.2.1 _ (by omega), Blk.setRow_other hS.2.2.2.2.1 _ (by omega), Blk.setRow_other hS.2.2.2.2.2 _ (by omega)⟩ ?_
        clear hK K hS
        intro hS
        refine wpAnyH_done (by kernel_rfl) ?_ _
        exact ⟨rfl, g, by first | rfl | (simp only [Act.put, List.setIfInBounds_toArray, List.set_cons_zero, List.set_cons_succ]), hg1, T1, BV⟩
    · go_simp
      obtain ⟨T1, BN⟩ := blk_1 28 V #[.int .i64 0, .int .i64 0]
      have hg1 := BV.size
      refine hK _ _ ⟨hS.1.below BN, hS.2.1.below BN, hS.2.2.1.below BN, hS.2.2.2.1.below BN, hS.2.2.2.2.1.below BN, hS.2.2.2.2.2.below BN⟩ ?_
      clear hK K hS
      intro hS
      replace BV := BV.trans (BN.mono BV.size)
      obtain ⟨g, hg⟩ : ∃ g, V.heap.size = g := ⟨_, rfl⟩
      rw [hg] at T1 hg1 ⊢
      clear BN
      generalize V.alloc (.cells #[.int .i64 0, .int .i64 0] 28) = Uf26 at hS T1 BV  ⊢
      clear hg
      refine nextL 3 rfl (by kernel_rfl) (by rfl) fun K hK => ?_
      have B := HBf2.out.trans (BV.mono HBf2.out.size)
      have hx0 := (show SchemaAt _ _ _ from HAf2hx0.out).later BV
      have hx1 := (show StatsAt _ _ _ from HAf2hx1.out).later BV
      have dd := toFork_any a2 Uf26
      clear B hx0 hx1
      go_simp
      refine dd.mono ?_
      clear dd
      rintro e Uf27 ⟨rfl, hb⟩
      refine hK _ _ ⟨hS.1.below hb, hS.2.1.below hb, hS.2.2.1.below hb, hS.2.2.2.1.below hb, hS.2.2.2.2.1.below hb, hS.2.2.2.2.2.below hb⟩ ?_
      clear hK K hS
      intro hS
      replace BV := BV.trans (hb.mono BV.size)
      replace T1 := T1.below hb
      clear hb
      refine nextL 4 rfl (by kernel_rfl) (by rfl) fun K hK => ?_
      have B := HBf2.out.trans (BV.mono HBf2.out.size)
      have hx0 := (show SchemaAt _ _ _ from HAf2hx0.out).later BV
      have hx1 := (show StatsAt _ _ _ from HAf2hx1.out).later BV
      have dd := HI.out Uf27 _ _ B hx0 hx1
      clear B hx0 hx1
      go_simp
      refine dd.mono ?_
      clear dd
      rintro e Uf28 ⟨rfl, hb⟩
      refine hK _ _ ⟨hS.1.below hb, hS.2.1.below hb, hS.2.2.1.below hb, hS.2.2.2.1.below hb, hS.2.2.2.2.1.below hb, hS.2.2.2.2.2.below hb⟩ ?_
      clear hK K hS
      intro hS
      replace BV := BV.trans (hb.mono BV.size)
      replace T1 := T1.below hb
      clear hb
      refine nextL 6 rfl (by kernel_rfl) (by rfl) fun K hK => ?_
      refine wp_fr_step _ _ rfl g _ _ _ _ rfl rfl T1 ?_
      simp only [Act.put]
      replace T1 := T1.setRow #[.int .i64 G0, .int .i64 H0]
      replace BV := below_row BV hg1 #[.int .i64 G0, .int .i64 H0]
      refine hK _ _ ⟨Blk.setRow_other hS.1 _ (by omega), Blk.setRow_other hS.2.1 _ (by omega), Blk.setRow_other hS.2.2.1 _ (by omega), Blk.setRow_other hS.2.2.2.1 _ (by omega), Blk.setRow_other hS.2.2.2.2.1 _ (by omega), Blk.setRow_other hS.2.2.2.2.2 _ (by omega)⟩ ?_
      clear hK K hS
      intro hS
      refine wpAnyH_done (by kernel_rfl) ?_ _
      exact ⟨rfl, g, by first | rfl | (simp only [Act.put, List.setIfInBounds_toArray, List.set_cons_zero, List.set_cons_succ]), hg1, T1, BV⟩
  rintro a9 w6 ⟨gf2, rfl, hgf2, KFf2, hb⟩
  simp only [Act.put, List.setIfInBounds_toArray, List.set_cons_zero, List.set_cons_succ]
  replace B := B.trans (hb.mono B.size)
  replace hx0 := hx0.later hb
  replace hx1 := hx1.later hb
  replace KA0 := KA0.below hb
  replace KA1 := KA1.below hb
  replace KA2 := KA2.below hb
  replace KFf1 := KFf1.below hb
  replace KX0 := KX0.below hb
  replace KX1 := KX1.below hb
  clear hb HKf2 HBf2 HAf2hx0 HAf2hx1 hlf2KA0 hlf2KA1 hlf2KA2 hlf2KFf1 hlf2KX0 hlf2KX1
  have cc := eqFrac_same G0 H0 w6
  have kKA00 : w6.cell? ⟨w.heap.size, 0, none⟩ = some (.slice o01 a0.attrs.length c01) := KA0.cell 0
  have kKA01 : w6.cell? ⟨w.heap.size, 1, none⟩ = some (.slice o02 a0.classes.length c02) := KA0.cell 1
  have kKA10 : w6.cell? ⟨w.heap.size + 1, 0, none⟩ = some (.slice o11 a1.totals.length c11) := KA1.cell 0
  have kKA11 : w6.cell? ⟨w.heap.size + 1, 1, none⟩ = some (.slice o12 a1.cells.length c12) := KA1.cell 1
  have kKA20 : w6.cell? ⟨w.heap.size + 1 + 1, 0, none⟩ = some (.int .i64 a2.attr) := KA2.cell 0
  have kKA21 : w6.cell? ⟨w.heap.size + 1 + 1, 1, none⟩ = some (.int .i64 a2.pos) := KA2.cell 1
  have kKFf10 : w6.cell? ⟨gf1, 0, none⟩ = some (.int .i64 G0) := KFf1.cell 0
  have kKFf11 : w6.cell? ⟨gf1, 1, none⟩ = some (.int .i64 H0) := KFf1.cell 1
  have kKX00 : w6.cell? ⟨w4.heap.size, 0, none⟩ = some (.slice p01 a0.attrs.length d01) := KX0.cell 0
  have kKX01 : w6.cell? ⟨w4.heap.size, 1, none⟩ = some (.slice p02 a0.classes.length d02) := KX0.cell 1
  have kKX10 : w6.cell? ⟨w5.heap.size, 0, none⟩ = some (.slice p11 a1.totals.length d11) := KX1.cell 0
  have kKX11 : w6.cell? ⟨w5.heap.size, 1, none⟩ = some (.slice p12 a1.cells.length d12) := KX1.cell 1
  have kKFf20 : w6.cell? ⟨gf2, 0, none⟩ = some (.int .i64 G0) := KFf2.cell 0
  have kKFf21 : w6.cell? ⟨gf2, 1, none⟩ = some (.int .i64 H0) := KFf2.cell 1
  go_wp2_with fail
  refine cc.mono ?_
  clear cc
  clear kKA00 kKA01 kKA10 kKA11 kKA20 kKA21 kKFf10 kKFf11 kKX00 kKX01 kKX10 kKX11 kKFf20 kKFf21
  rintro e w7 ⟨rfl, hb⟩
  replace B := B.trans (hb.mono B.size)
  replace hx0 := hx0.later hb
  replace hx1 := hx1.later hb
  replace KA0 := KA0.below hb
  replace KA1 := KA1.below hb
  replace KA2 := KA2.below hb
  replace KFf1 := KFf1.below hb
  replace KX0 := KX0.below hb
  replace KX1 := KX1.below hb
  replace KFf2 := KFf2.below hb
  clear hb
  have kKA00 : w7.cell? ⟨w.heap.size, 0, none⟩ = some (.slice o01 a0.attrs.length c01) := KA0.cell 0
  have kKA01 : w7.cell? ⟨w.heap.size, 1, none⟩ = some (.slice o02 a0.classes.length c02) := KA0.cell 1
  have kKA10 : w7.cell? ⟨w.heap.size + 1, 0, none⟩ = some (.slice o11 a1.totals.length c11) := KA1.cell 0
  have kKA11 : w7.cell? ⟨w.heap.size + 1, 1, none⟩ = some (.slice o12 a1.cells.length c12) := KA1.cell 1
  have kKA20 : w7.cell? ⟨w.heap.size + 1 + 1, 0, none⟩ = some (.int .i64 a2.attr) := KA2.cell 0
  have kKA21 : w7.cell? ⟨w.heap.size + 1 + 1, 1, none⟩ = some (.int .i64 a2.pos) := KA2.cell 1
  have kKFf10 : w7.cell? ⟨gf1, 0, none⟩ = some (.int .i64 G0) := KFf1.cell 0
  have kKFf11 : w7.cell? ⟨gf1, 1, none⟩ = some (.int .i64 H0) := KFf1.cell 1
  have kKX00 : w7.cell? ⟨w4.heap.size, 0, none⟩ = some (.slice p01 a0.attrs.length d01) := KX0.cell 0
  have kKX01 : w7.cell? ⟨w4.heap.size, 1, none⟩ = some (.slice p02 a0.classes.length d02) := KX0.cell 1
  have kKX10 : w7.cell? ⟨w5.heap.size, 0, none⟩ = some (.slice p11 a1.totals.length d11) := KX1.cell 0
  have kKX11 : w7.cell? ⟨w5.heap.size, 1, none⟩ = some (.slice p12 a1.cells.length d12) := KX1.cell 1
  have kKFf20 : w7.cell? ⟨gf2, 0, none⟩ = some (.int .i64 G0) := KFf2.cell 0
  have kKFf21 : w7.cell? ⟨gf2, 1, none⟩ = some (.int .i64 H0) := KFf2.cell 1
  go_wp2_with fail
  clear kKA00 kKA01 kKA10 kKA11 kKA20 kKA21 kKFf10 kKFf11 kKX00 kKX01 kKX10 kKX11 kKFf20 kKFf21
  refine wp_region_held_drew (S := fun w' => Blk 34 w' (w.heap.size) #[.slice o01 a0.attrs.length c01, .slice o02 a0.classes.length c02] ∧ Blk 37 w' (w.heap.size + 1) #[.slice o11 a1.totals.length c11, .slice o12 a1.cells.length c12] ∧ Blk 39 w' (w.heap.size + 1 + 1) #[.int .i64 a2.attr, .int .i64 a2.pos] ∧ Blk 28 w' (gf1) #[.int .i64 G0, .int .i64 H0] ∧ Blk 45 w' (w4.heap.size) #[.slice p01 a0.attrs.length d01, .slice p02 a0.classes.length d02] ∧ Blk 47 w' (w5.heap.size) #[.slice p11 a1.totals.length d11, .slice p12 a1.cells.length d12] ∧ Blk 28 w' (gf2) #[.int .i64 G0, .int .i64 H0]) (by kernel_rfl) ⟨KA0, KA1, KA2, KFf1, KX0, KX1, KFf2⟩ ?_
  intro hS
  have bd : Below w7.heap.size w7 w7.drew := below_drewN (Below.refl _ _) 1
  replace B := B.trans (bd.mono B.size)
  replace hx0 := hx0.later bd
  replace hx1 := hx1.later bd
  clear bd KA0 KA1 KA2 KFf1 KX0 KX1 KFf2
  generalize w7.drew = w8 at hS B hx0 hx1 ⊢
  refine takeL 0 (.agg #[.slice p01 a0.attrs.length d01, .slice p02 a0.classes.length d02]) rfl (by kernel_rfl) (by kernel_rfl) (by kernel_rfl) (fun _ _ _ h => h) (yields_row Try.underlying45 (by kernel_rfl) (by rfl) _ rfl _ rfl (fun _ h => h.2.2.2.2.1)) hS ?_
  try simp only [Act.put, List.setIfInBounds_toArray, List.set_cons_zero, List.set_cons_succ]
  refine takeL 1 (.agg #[.slice o01 a0.attrs.length c01, .slice o02 a0.classes.length c02]) rfl (by kernel_rfl) (by kernel_rfl) (by kernel_rfl) (fun _ _ _ h => h) (yields_row Try.underlying34 (by kernel_rfl) (by rfl) _ rfl _ rfl (fun _ h => h.1)) hS ?_
  try simp only [Act.put, List.setIfInBounds_toArray, List.set_cons_zero, List.set_cons_succ]
  refine nextL 2 rfl (by kernel_rfl) (by rfl) fun K hK => ?_
  have dd := HTL0.out w8 B
  go_simp
  refine dd.mono ?_
  clear dd
  rintro e w9 ⟨u5, rfl, hu5, hb⟩
  refine hK _ _ ⟨hS.1.below hb, hS.2.1.below hb, hS.2.2.1.below hb, hS.2.2.2.1.below hb, hS.2.2.2.2.1.below hb, hS.2.2.2.2.2.1.below hb, hS.2.2.2.2.2.2.below hb⟩ ?_
  clear hK K hS
  intro hS
  replace B := B.trans (hb.mono B.size)
  replace hx0 := hx0.later hb
  replace hx1 := hx1.later hb
  clear hb
  refine nextL 3 rfl (by kernel_rfl) (by rfl) fun K hK => ?_
  have dd := eqSchema_row _ _ a0 w9 hx0 hu5 HF0.out.ok
  go_simp
  refine dd.mono ?_
  clear dd
  rintro e w10 ⟨rfl, hb⟩
  refine hK _ _ ⟨hS.1.below hb, hS.2.1.below hb, hS.2.2.1.below hb, hS.2.2.2.1.below hb, hS.2.2.2.2.1.below hb, hS.2.2.2.2.2.1.below hb, hS.2.2.2.2.2.2.below hb⟩ ?_
  clear hK K hS
  intro hS
  replace B := B.trans (hb.mono B.size)
  replace hx0 := hx0.later hb
  replace hx1 := hx1.later hb
  replace hu5 := hu5.later hb
  clear hb
  refine takeL 4 (.bool false) rfl (by kernel_rfl) (by kernel_rfl) (by kernel_rfl) (fun _ _ _ h => h) (.inl ⟨by rfl, fun w hw => by (unfold execOp; go_simp)⟩) hS ?_
  try simp only [Act.put, List.setIfInBounds_toArray, List.set_cons_zero, List.set_cons_succ]
  refine wpAnyH_done (by kernel_rfl) ?_ _
  obtain ⟨KA0, KA1, KA2, KFf1, KX0, KX1, KFf2⟩ := hS
  have kKA00 : w10.cell? ⟨w.heap.size, 0, none⟩ = some (.slice o01 a0.attrs.length c01) := KA0.cell 0
  have kKA01 : w10.cell? ⟨w.heap.size, 1, none⟩ = some (.slice o02 a0.classes.length c02) := KA0.cell 1
  have kKA10 : w10.cell? ⟨w.heap.size + 1, 0, none⟩ = some (.slice o11 a1.totals.length c11) := KA1.cell 0
  have kKA11 : w10.cell? ⟨w.heap.size + 1, 1, none⟩ = some (.slice o12 a1.cells.length c12) := KA1.cell 1
  have kKA20 : w10.cell? ⟨w.heap.size + 1 + 1, 0, none⟩ = some (.int .i64 a2.attr) := KA2.cell 0
  have kKA21 : w10.cell? ⟨w.heap.size + 1 + 1, 1, none⟩ = some (.int .i64 a2.pos) := KA2.cell 1
  have kKFf10 : w10.cell? ⟨gf1, 0, none⟩ = some (.int .i64 G0) := KFf1.cell 0
  have kKFf11 : w10.cell? ⟨gf1, 1, none⟩ = some (.int .i64 H0) := KFf1.cell 1
  have kKX00 : w10.cell? ⟨w4.heap.size, 0, none⟩ = some (.slice p01 a0.attrs.length d01) := KX0.cell 0
  have kKX01 : w10.cell? ⟨w4.heap.size, 1, none⟩ = some (.slice p02 a0.classes.length d02) := KX0.cell 1
  have kKX10 : w10.cell? ⟨w5.heap.size, 0, none⟩ = some (.slice p11 a1.totals.length d11) := KX1.cell 0
  have kKX11 : w10.cell? ⟨w5.heap.size, 1, none⟩ = some (.slice p12 a1.cells.length d12) := KX1.cell 1
  have kKFf20 : w10.cell? ⟨gf2, 0, none⟩ = some (.int .i64 G0) := KFf2.cell 0
  have kKFf21 : w10.cell? ⟨gf2, 1, none⟩ = some (.int .i64 H0) := KFf2.cell 1
  go_wp2_with fail
  clear kKA00 kKA01 kKA10 kKA11 kKA20 kKA21 kKFf10 kKFf11 kKX00 kKX01 kKX10 kKX11 kKFf20 kKFf21
  refine wp_region_held_drew (S := fun w' => Blk 34 w' (w.heap.size) #[.slice o01 a0.attrs.length c01, .slice o02 a0.classes.length c02] ∧ Blk 37 w' (w.heap.size + 1) #[.slice o11 a1.totals.length c11, .slice o12 a1.cells.length c12] ∧ Blk 39 w' (w.heap.size + 1 + 1) #[.int .i64 a2.attr, .int .i64 a2.pos] ∧ Blk 28 w' (gf1) #[.int .i64 G0, .int .i64 H0] ∧ Blk 45 w' (w4.heap.size) #[.slice p01 a0.attrs.length d01, .slice p02 a0.classes.length d02] ∧ Blk 47 w' (w5.heap.size) #[.slice p11 a1.totals.length d11, .slice p12 a1.cells.length d12] ∧ Blk 28 w' (gf2) #[.int .i64 G0, .int .i64 H0]) (by kernel_rfl) ⟨KA0, KA1, KA2, KFf1, KX0, KX1, KFf2⟩ ?_
  intro hS
  have bd : Below w10.heap.size w10 w10.drew := below_drewN (Below.refl _ _) 1
  replace B := B.trans (bd.mono B.size)
  replace hx0 := hx0.later bd
  replace hx1 := hx1.later bd
  replace hu5 := hu5.later bd
  clear bd KA0 KA1 KA2 KFf1 KX0 KX1 KFf2
  generalize w10.drew = w11 at hS B hx0 hx1 hu5 ⊢
  refine takeL 0 (.agg #[.slice p11 a1.totals.length d11, .slice p12 a1.cells.length d12]) rfl (by kernel_rfl) (by kernel_rfl) (by kernel_rfl) (fun _ _ _ h => h) (yields_row Try.underlying47 (by kernel_rfl) (by rfl) _ rfl _ rfl (fun _ h => h.2.2.2.2.2.1)) hS ?_
  try simp only [Act.put, List.setIfInBounds_toArray, List.set_cons_zero, List.set_cons_succ]
  refine takeL 1 (.agg #[.slice o11 a1.totals.length c11, .slice o12 a1.cells.length c12]) rfl (by kernel_rfl) (by kernel_rfl) (by kernel_rfl) (fun _ _ _ h => h) (yields_row Try.underlying37 (by kernel_rfl) (by rfl) _ rfl _ rfl (fun _ h => h.2.1)) hS ?_
  try simp only [Act.put, List.setIfInBounds_toArray, List.set_cons_zero, List.set_cons_succ]
  refine nextL 2 rfl (by kernel_rfl) (by rfl) fun K hK => ?_
  have dd := HTL1.out w11 B
  go_simp
  refine dd.mono ?_
  clear dd
  rintro e w12 ⟨u6, rfl, hu6, hb⟩
  refine hK _ _ ⟨hS.1.below hb, hS.2.1.below hb, hS.2.2.1.below hb, hS.2.2.2.1.below hb, hS.2.2.2.2.1.below hb, hS.2.2.2.2.2.1.below hb, hS.2.2.2.2.2.2.below hb⟩ ?_
  clear hK K hS
  intro hS
  replace B := B.trans (hb.mono B.size)
  replace hx0 := hx0.later hb
  replace hx1 := hx1.later hb
  replace hu5 := hu5.later hb
  clear hb
  refine nextL 3 rfl (by kernel_rfl) (by rfl) fun K hK => ?_
  have dd := eqStats_row _ _ a1 w12 hx1 hu6 HF1.out.ok
  go_simp
  refine dd.mono ?_
  clear dd
  rintro e w13 ⟨rfl, hb⟩
  refine hK _ _ ⟨hS.1.below hb, hS.2.1.below hb, hS.2.2.1.below hb, hS.2.2.2.1.below hb, hS.2.2.2.2.1.below hb, hS.2.2.2.2.2.1.below hb, hS.2.2.2.2.2.2.below hb⟩ ?_
  clear hK K hS
  intro hS
  replace B := B.trans (hb.mono B.size)
  replace hx0 := hx0.later hb
  replace hx1 := hx1.later hb
  replace hu5 := hu5.later hb
  replace hu6 := hu6.later hb
  clear hb
  refine takeL 4 (.bool false) rfl (by kernel_rfl) (by kernel_rfl) (by kernel_rfl) (fun _ _ _ h => h) (.inl ⟨by rfl, fun w hw => by (unfold execOp; go_simp)⟩) hS ?_
  try simp only [Act.put, List.setIfInBounds_toArray, List.set_cons_zero, List.set_cons_succ]
  refine wpAnyH_done (by kernel_rfl) ?_ _
  obtain ⟨KA0, KA1, KA2, KFf1, KX0, KX1, KFf2⟩ := hS
  go_wp2
  go_ret
  exact ⟨rfl, B⟩

/-! ### THE ROW's STEP -/
set_option maxRecDepth 100000 in
theorem lifted (os : Os) (started : os.Started) (H : Type) (enc : TypeId × Value → H) :
    ReturnsInHanded {} Try.checked os 5 .any (Rows.fnExactMeritSpec.pre6 enc Try.prog Try.f5 Rows.fnExactMeritRow.domain false) (Rows.fnExactMeritSpec.post enc Try.prog Try.f5 false true false false) := by
  refine returnsInHanded_of_change (C := Try.checked) own started (by kernel_rfl) Try.func5
    (ChangeSpec.witness6 (enc := enc) (C := Try.checked) false ⟨#[], #[.agg #[.slice none 0 0, .slice none 0 0], .agg #[.slice none 0 0, .slice none 0 0], .agg #[.int .i64 0, .int .i64 0]], []⟩ 8 (by kernel_rfl) (by kernel_rfl) (by kernel_rfl) (by kernel_rfl)) ?_
  intro W base args ds gs before hval0 hW hcnd _
  have hval : ∀ (j : Nat) t v, Try.f5.params[j]? = some t → args[j]? = some v → Value.okWide Try.prog W .any base t v := hval0
  have hW' := hW
  obtain ⟨p, q, hA0, hV, rfl, hfz, hnd⟩ := hW
  have hA : DataW.TrodAll enc Try.prog W 0 (fun _ => true) true Try.f5.params.toList args.toList ds p := hA0
  rw [Try.params5] at hA hval
  obtain ⟨v0, vs0, d0, ds0, p0, q0, hargs, rfl, rfl, h0, r0⟩ := trodAll_cons hA
  obtain ⟨v1, vs1, d1, ds1, p1, q1, rfl, rfl, rfl, h1, r1⟩ := trodAll_cons r0
  obtain ⟨v2, vs2, d2, ds2, p2, q2, rfl, rfl, rfl, h2, r2⟩ := trodAll_cons r1
  obtain ⟨rfl, rfl, rfl⟩ := trodAll_nil r2
  obtain rfl : args = #[v0, v1, v2] := by cases args; simp_all
  obtain ⟨rfl, rfl⟩ := trodVars_none hV
  have k0 := h0
  have lt0 : ∀ x ∈ p0, x.block < W.heap.size := by obtain ⟨m, hm⟩ := k0; exact DataW.trod_lt m _ _ _ hm
  obtain ⟨a0, R0, I0⟩ := open_schema (hval 0 34 v0 rfl rfl) h0
  have k1 := h1
  have lt1 : ∀ x ∈ p1, x.block < W.heap.size := by obtain ⟨m, hm⟩ := k1; exact DataW.trod_lt m _ _ _ hm
  obtain ⟨a1, R1, I1⟩ := open_stats (hval 1 37 v1 rfl rfl) h1
  have k2 := h2
  have lt2 : ∀ x ∈ p2, x.block < W.heap.size := by obtain ⟨m, hm⟩ := k2; exact DataW.trod_lt m _ _ _ hm
  obtain ⟨n2, m2, rfl, wn2, wm2⟩ := open_fork (hval 2 39 v2 rfl rfl) h2
  clear hA0 hval0
  refine (walk v0 a0 v1 a1 ⟨n2, m2⟩ W R0 I0 R1 I1 (bounds_i64 wn2) (bounds_i64 wm2)).mono fun e W' ⟨he, bel⟩ => ?_
  subst he
  exact ⟨_, rfl, _, _, _, [], _, [], hW', trodAll_mk1 (shut_bool Try.underlying4 _), (trodAll_cons_mk (Below.trod laidOut (by kernel_rfl) (of_decide_eq_true (by kernel_rfl)) k0 bel lt0) (trodAll_cons_mk (Below.trod laidOut (by kernel_rfl) (of_decide_eq_true (by kernel_rfl)) k1 bel lt1) (trodAll_cons_mk (Below.trod laidOut (by kernel_rfl) (of_decide_eq_true (by kernel_rfl)) k2 bel lt2) trodAll_mk0))), rfl, bel.frame _, fun h => by cases h⟩

theorem over : Rows.fnExactMeritRow.holds Try.pinned (OpenSpec.ofChange Rows.fnExactMeritSpec) :=
  OpenClaim.holds_of_wide 5 Try.f5 rfl rfl rfl rfl rfl rfl rfl ⟨rfl, rfl, rfl, rfl, rfl⟩ rfl rfl rfl rfl rfl (by kernel_rfl) Try.func5 (by kernel_rfl)
    (of_decide_eq_true (by kernel_rfl)) (by unfold Func.isWrapper; first | (rw [if_pos (by decide +kernel)]; kernel_rfl) | (rw [if_neg (by decide +kernel)]; exact ⟨rfl, rfl⟩))
    (fun os started H enc _ => lifted os started H enc)

theorem proved : Rows.FnExactMeritSaid :=
  over
end Go.Proofs.Yteadkdllmeeocab.fnExactMerit
namespace Go.Proofs.Yteadkdllmeeocab
theorem merit_holds : Rows.FnExactMeritSaid := fnExactMerit.proved
#print axioms merit_holds
end Go.Proofs.Yteadkdllmeeocab
