/- For all counts the exact law of Thin returns true: the program answers the totals that the specification answers, the counts are left as they were, the answer is new memory and a second call gives it anew. No condition. -/
import Derived.Test.YtobimpgapfecoabRows
import Derived.WalkKit
import Derived.ProofKit
import Derived.OpenShut
import Derived.Test.YtobimpgapfecoabThinPack7
import Derived.Test.YtobimpgapfecoabThinPack10
import Derived.Test.YtobimpgapfecoabThinPack11
import Derived.Test.YtobimpgapfecoabThinPack12
namespace Go.Proofs.Ytobimpgapfecoab.fnExactThin
open Go.ChangeShapes Go.WideShapes Go.ChangeAt Go.RowKit
set_option linter.unusedVariables false

theorem own : ownKnob Try.prog.godebug = none := by kernel_rfl
theorem laidOut : laidOutB Try.prog = true := by kernel_rfl


set_option maxRecDepth 100000 in
set_option maxHeartbeats 6400000 in
set_option linter.unusedSimpArgs false in
theorem walk (v0 : Value) (a0 : StatsD) (w : World) (ha0 : StatsAt w v0 a0) (hi0 : inSt a0) :
    Calls Try.prog 6 #[v0] w fun e w' => e = .returned (.bool true) ∧ Below w.heap.size w w' := by
  have HHA0 : Hid (∀ W, Below w.heap.size w W → StatsAt W v0 a0) := fun W h => ha0.later h
  obtain ⟨y1, y2, rfl, rr1, rr2⟩ := id ha0
  obtain ⟨o01, c01, rfl, -, -⟩ := id rr1
  obtain ⟨o02, c02, rfl, -, -⟩ := id rr2
  clear rr1 rr2
  have c0 := fun W (hW : Below w.heap.size w W) => szStats_row _ a0 1048576 W (ha0.later hW) hi0 (by omega) (by omega)
  clear ha0 hi0
  obtain ⟨KA0, B⟩ := blk_1 29 w #[.slice o01 a0.totals.length c01, .slice o02 a0.cells.length c02]
  go_enter Try.func6, Try.ntmps6
  go_wp2_with fail
  refine (c0 _ B).mono ?_
  clear c0
  rintro e w1 ⟨r0, rfl, hr, hb⟩
  replace KA0 := KA0.below hb
  replace B := B.trans (hb.mono B.size)
  clear hb
  rcases hr with ⟨r00, r01, hf⟩ | rfl
  rotate_left
  · go_wp2
    go_ret
    exact ⟨rfl, B⟩
  have HF0 : Hid (fitSt a0) := hf
  clear hf
  have r0n : ¬ r0 < 0 := by omega
  have HT0 : Hid (∀ W, Below w.heap.size w W → Calls Try.prog 13 #[.agg #[.slice o01 a0.totals.length c01, .slice o02 a0.cells.length c02]] W fun e w' => ∃ v', e = .returned v' ∧ OwnSt W.heap.size w' v' a0 ∧ Below W.heap.size W w') := fun W hW => toStats_row _ a0 W (HHA0.out W hW) HF0.out
  have HI : Hid (∀ W v0 (_ : StatsAt W v0 a0), Calls Try.prog 28 #[v0] W fun e w' => ∃ v, e = .returned v ∧ OwnSt W.heap.size w' v (thinS a0) ∧ Below W.heap.size W w') := fun W v0 h0 => implThin_any v0 a0 W h0 HF0.out.ok
  have HSP : Hid (∀ W v0 (_ : StatsAt W v0 a0), Calls Try.prog 27 #[v0] W fun e w' => ∃ v, e = .returned v ∧ OwnSt W.heap.size w' v (thinS a0) ∧ Below W.heap.size W w') := fun W v0 h0 => specThin_any v0 a0 W h0 HF0.out.ok
  have hfG : fitSt (thinS a0) := ⟨HF0.out.totals, by simp [thinS], fun c hc => by simp [thinS] at hc⟩
  generalize thinS a0 = G at HI HSP hfG
  have HFG : Hid (fitSt G) := hfG
  clear hfG
  have k0 : w1.cell? ⟨w.heap.size, 0, none⟩ = some (.slice o01 a0.totals.length c01) := KA0.cell 0
  have k1 : w1.cell? ⟨w.heap.size, 1, none⟩ = some (.slice o02 a0.cells.length c02) := KA0.cell 1
  have cc := HT0.out _ B
  go_wp2_with fail
  refine cc.mono ?_
  clear cc
  rintro e w2 ⟨v2, rfl, ho2, hb⟩
  clear k0 k1
  replace KA0 := KA0.below hb
  replace B := B.trans (hb.mono B.size)
  have hx2 := ho2.at
  clear hb ho2
  have hA3 := KA0.lt
  have cc := HSP.out _ _ hx2
  go_wp2_with fail
  refine cc.mono ?_
  clear cc
  rintro e w3 ⟨v4, rfl, hO, hb⟩
  obtain ⟨tW, cW, LW, yW, rfl, oW, sW, neW⟩ := hO
  obtain ⟨pW1, dW1, rfl⟩ := own_slice oW
  obtain ⟨pW2, dW2, rfl⟩ := own_slice sW.row
  replace KA0 := KA0.below hb
  replace B := B.trans (hb.mono B.size)
  have hsW := hb.size
  have HLW : Hid (∀ k, AllSt (.slice pW1 G.totals.length dW1) (.slice pW2 G.cells.length dW2) LW G.cells.length k → w2.heap.size ≤ k ∧ k < w3.heap.size) := all_st oW sW
  clear hb hx2
  obtain ⟨KW, BN⟩ := blk_1 35 w3 #[.slice pW1 G.totals.length dW1, .slice pW2 G.cells.length dW2]
  replace KA0 := KA0.below BN
  replace B := B.trans (BN.mono B.size)
  replace oW := own_below oW BN
  replace sW := sW.below BN
  clear BN
  have k0 : (w3.alloc (.cells #[.slice pW1 G.totals.length dW1, .slice pW2 G.cells.length dW2] 35)).cell? ⟨w.heap.size, 0, none⟩ = some (.slice o01 a0.totals.length c01) := KA0.cell 0
  have k1 : (w3.alloc (.cells #[.slice pW1 G.totals.length dW1, .slice pW2 G.cells.length dW2] 35)).cell? ⟨w.heap.size, 1, none⟩ = some (.slice o02 a0.cells.length c02) := KA0.cell 1
  have cc := HT0.out _ B
  go_wp2_with fail
  refine cc.mono ?_
  clear cc
  rintro e w4 ⟨v5, rfl, ho, hb⟩
  clear k0 k1
  replace KA0 := KA0.below hb
  replace B := B.trans (hb.mono B.size)
  replace oW := own_below oW hb
  replace sW := sW.below hb
  replace KW := KW.below hb
  have hsX0 := hb.size
  rw [World.size_alloc] at hsX0 ho
  have hx0 := ho.at
  obtain ⟨tX0, cX0, LX0, yX0, rfl, oX0, sX0, neX0⟩ := ho
  obtain ⟨pX01, dX01, rfl⟩ := own_slice oX0
  obtain ⟨pX02, dX02, rfl⟩ := own_slice sX0.row
  have HLX0 : Hid (∀ k, AllSt (.slice pX01 a0.totals.length dX01) (.slice pX02 a0.cells.length dX02) LX0 a0.cells.length k → w3.heap.size + 1 ≤ k ∧ k < w4.heap.size) := all_st oX0 sX0
  clear hb
  obtain ⟨KX0, BN⟩ := blk_1 35 w4 #[.slice pX01 a0.totals.length dX01, .slice pX02 a0.cells.length dX02]
  replace KA0 := KA0.below BN
  replace B := B.trans (BN.mono B.size)
  replace oW := own_below oW BN
  replace sW := sW.below BN
  replace KW := KW.below BN
  replace oX0 := own_below oX0 BN
  replace sX0 := sX0.below BN
  replace hx0 := hx0.later BN
  clear BN
  have k00 : (w4.alloc (.cells #[.slice pX01 a0.totals.length dX01, .slice pX02 a0.cells.length dX02] 35)).cell? ⟨w4.heap.size, 0, none⟩ = some (.slice pX01 a0.totals.length dX01) := KX0.cell 0
  have k01 : (w4.alloc (.cells #[.slice pX01 a0.totals.length dX01, .slice pX02 a0.cells.length dX02] 35)).cell? ⟨w4.heap.size, 1, none⟩ = some (.slice pX02 a0.cells.length dX02) := KX0.cell 1
  have cc := HI.out _ _ hx0
  go_wp2_with fail
  refine cc.mono ?_
  clear cc
  rintro e w5 ⟨v7, rfl, hO, hb⟩
  clear k00 k01
  obtain ⟨tG, cG, LG, yG, rfl, oG, sG, neG⟩ := hO
  obtain ⟨pG1, dG1, rfl⟩ := own_slice oG
  obtain ⟨pG2, dG2, rfl⟩ := own_slice sG.row
  replace KA0 := KA0.below hb
  replace B := B.trans (hb.mono B.size)
  replace oW := own_below oW hb
  replace sW := sW.below hb
  replace KW := KW.below hb
  replace oX0 := own_below oX0 hb
  replace sX0 := sX0.below hb
  replace hx0 := hx0.later hb
  replace KX0 := KX0.below hb
  have hsG := hb.size
  rw [World.size_alloc] at hsG
  have HLG : Hid (∀ k, AllSt (.slice pG1 G.totals.length dG1) (.slice pG2 G.cells.length dG2) LG G.cells.length k → w4.heap.size + 1 ≤ k ∧ k < w5.heap.size) := fun k hk => by have h := all_st oG sG k hk; simpa using h
  clear hb
  obtain ⟨KG, BN⟩ := blk_1 35 w5 #[.slice pG1 G.totals.length dG1, .slice pG2 G.cells.length dG2]
  replace KA0 := KA0.below BN
  replace B := B.trans (BN.mono B.size)
  replace oW := own_below oW BN
  replace sW := sW.below BN
  replace KW := KW.below BN
  replace oX0 := own_below oX0 BN
  replace sX0 := sX0.below BN
  replace hx0 := hx0.later BN
  replace KX0 := KX0.below BN
  replace oG := own_below oG BN
  replace sG := sG.below BN
  clear BN
  have kw0 : (w5.alloc (.cells #[.slice pG1 G.totals.length dG1, .slice pG2 G.cells.length dG2] 35)).cell? ⟨w3.heap.size, 0, none⟩ = some (.slice pW1 G.totals.length dW1) := KW.cell 0
  have kw1 : (w5.alloc (.cells #[.slice pG1 G.totals.length dG1, .slice pG2 G.cells.length dG2] 35)).cell? ⟨w3.heap.size, 1, none⟩ = some (.slice pW2 G.cells.length dW2) := KW.cell 1
  have kg0 : (w5.alloc (.cells #[.slice pG1 G.totals.length dG1, .slice pG2 G.cells.length dG2] 35)).cell? ⟨w5.heap.size, 0, none⟩ = some (.slice pG1 G.totals.length dG1) := KG.cell 0
  have kg1 : (w5.alloc (.cells #[.slice pG1 G.totals.length dG1, .slice pG2 G.cells.length dG2] 35)).cell? ⟨w5.heap.size, 1, none⟩ = some (.slice pG2 G.cells.length dG2) := KG.cell 1
  have cc := eqStats_row (.agg #[.slice pG1 G.totals.length dG1, .slice pG2 G.cells.length dG2]) (.agg #[.slice pW1 G.totals.length dW1, .slice pW2 G.cells.length dW2]) G (w5.alloc (.cells #[.slice pG1 G.totals.length dG1, .slice pG2 G.cells.length dG2] 35)) ⟨_, _, rfl, RowI.of_own oG rfl, sG.at⟩ ⟨_, _, rfl, RowI.of_own oW rfl, sW.at⟩ HFG.out.ok
  go_wp2_with fail
  refine cc.mono ?_
  clear cc
  rintro e w6 ⟨rfl, hb⟩
  clear kw0 kw1
  clear kg0 kg1
  replace KA0 := KA0.below hb
  replace B := B.trans (hb.mono B.size)
  replace oW := own_below oW hb
  replace sW := sW.below hb
  replace KW := KW.below hb
  replace oX0 := own_below oX0 hb
  replace sX0 := sX0.below hb
  replace hx0 := hx0.later hb
  replace KX0 := KX0.below hb
  replace oG := own_below oG hb
  replace sG := sG.below hb
  replace KG := KG.below hb
  clear hb
  go_wp2_with fail
  refine wp_region_held_drew (S := fun w' => Blk 29 w' (w.heap.size) #[.slice o01 a0.totals.length c01, .slice o02 a0.cells.length c02] ∧ Blk 35 w' w4.heap.size #[.slice pX01 a0.totals.length dX01, .slice pX02 a0.cells.length dX02]) (by kernel_rfl) ⟨KA0, KX0⟩ ?_
  intro hS
  have bd : Below w6.heap.size w6 w6.drew := below_drewN (Below.refl _ _) 1
  replace KA0 := KA0.below bd
  replace B := B.trans (bd.mono B.size)
  replace oW := own_below oW bd
  replace sW := sW.below bd
  replace KW := KW.below bd
  replace oX0 := own_below oX0 bd
  replace sX0 := sX0.below bd
  replace hx0 := hx0.later bd
  replace KX0 := KX0.below bd
  replace oG := own_below oG bd
  replace sG := sG.below bd
  replace KG := KG.below bd
  clear bd
  generalize w6.drew = w7 at hS KA0 B oW sW KW oX0 sX0 hx0 KX0 oG sG KG
  refine takeL 0 (.agg #[.slice pX01 a0.totals.length dX01, .slice pX02 a0.cells.length dX02]) rfl (by kernel_rfl) (by kernel_rfl) (by kernel_rfl) (fun _ _ _ h => h) (yields_row Try.underlying35 (by kernel_rfl) (by rfl) _ rfl _ rfl (fun _ h => h.2)) hS ?_
  try simp only [Act.put, List.setIfInBounds_toArray, List.set_cons_zero, List.set_cons_succ]
  refine takeL 1 (.agg #[.slice o01 a0.totals.length c01, .slice o02 a0.cells.length c02]) rfl (by kernel_rfl) (by kernel_rfl) (by kernel_rfl) (fun _ _ _ h => h) (yields_row Try.underlying29 (by kernel_rfl) (by rfl) _ rfl _ rfl (fun _ h => h.1)) hS ?_
  try simp only [Act.put, List.setIfInBounds_toArray, List.set_cons_zero, List.set_cons_succ]
  refine nextL 2 rfl (by kernel_rfl) (by rfl) fun K hK => ?_
  have dd := HT0.out w7 B
  go_simp
  refine dd.mono ?_
  rintro e w8 ⟨zz, rfl, hzz, hb⟩
  refine hK _ _ ⟨hS.1.below hb, hS.2.below hb⟩ ?_
  clear hK K dd
  intro hS
  replace KA0 := KA0.below hb
  replace B := B.trans (hb.mono B.size)
  replace oW := own_below oW hb
  replace sW := sW.below hb
  replace KW := KW.below hb
  replace oX0 := own_below oX0 hb
  replace sX0 := sX0.below hb
  replace hx0 := hx0.later hb
  replace KX0 := KX0.below hb
  replace oG := own_below oG hb
  replace sG := sG.below hb
  replace KG := KG.below hb
  clear hb
  refine nextL 3 rfl (by kernel_rfl) (by rfl) fun K hK => ?_
  have dd := eqStats_row _ zz a0 w8 hx0 hzz.at HF0.out.ok
  go_simp
  refine dd.mono ?_
  rintro e w9 ⟨rfl, hb⟩
  refine hK _ _ ⟨hS.1.below hb, hS.2.below hb⟩ ?_
  clear hK K dd hzz
  intro hS
  replace KA0 := KA0.below hb
  replace B := B.trans (hb.mono B.size)
  replace oW := own_below oW hb
  replace sW := sW.below hb
  replace KW := KW.below hb
  replace oX0 := own_below oX0 hb
  replace sX0 := sX0.below hb
  replace hx0 := hx0.later hb
  replace KX0 := KX0.below hb
  replace oG := own_below oG hb
  replace sG := sG.below hb
  replace KG := KG.below hb
  clear hb
  refine takeL 4 (.bool false) rfl (by kernel_rfl) (by kernel_rfl) (by kernel_rfl) (fun _ _ _ h => h) (.inl ⟨by rfl, fun w _ => by rfl⟩) hS ?_
  try simp only [Act.put, List.setIfInBounds_toArray, List.set_cons_zero, List.set_cons_succ]
  refine wpAnyH_done (by kernel_rfl) ?_ _
  clear hS
  clear hx0
  have HN : Hid (w.heap.size < w2.heap.size ∧ w2.heap.size ≤ w3.heap.size ∧ w3.heap.size + 1 ≤ w4.heap.size ∧ w4.heap.size + 1 ≤ w5.heap.size) := ⟨by omega, by omega, by omega, by omega⟩
  have k0 : w9.cell? ⟨w4.heap.size, 0, none⟩ = some (.slice pX01 a0.totals.length dX01) := KX0.cell 0
  have k1 : w9.cell? ⟨w4.heap.size, 1, none⟩ = some (.slice pX02 a0.cells.length dX02) := KX0.cell 1
  have hK0 := fitSt_mark HF0.out (1 + a0.totals.length)
  have hft := HF0.out.totals
  have cM := markStats_any _ _ LX0 _ yX0 a0.cells a0.cells.length a0.totals.length (_) 1 w9 oX0 sX0 (fun j x y hj hx hy => neX0 j x y hj hx hy) HF0.out.cells HF0.out.totals (by omega)
  generalize mkC (1 + a0.totals.length) (lenL a0.cells) a0.cells.length = Z0 at cM hK0
  have hb0 : Z0 ≤ 17592186044416 + 1048576 + 1048576 + 1099511627776 := by omega
  go_wp2_with fail
  refine cM.mono ?_
  rintro e w10 ⟨rfl, -, hg⟩
  clear cM
  clear k0 k1
  clear oX0 sX0 KX0
  replace KA0 := hg.blk KA0 (fun e => by have h := HLX0.out _ (in_all e); have hN := HN.out; omega)
  replace B := hg.below B B.size (fun k hk => by have h := HLX0.out k (in_all hk); have hN := HN.out; omega)
  replace oW := own_keptS oW hg (fun k hk e => by have h := HLX0.out _ (in_all e); have h2 := HLW.out k (.inl hk); have hN := HN.out; omega)
  replace sW := sW.keptS hg (fun k hk e => by have h := HLX0.out _ (in_all e); have h2 := HLW.out k (.inr (.inl hk)); have hN := HN.out; omega) (fun k hk e => by have h := HLX0.out _ (in_all e); have h2 := HLW.out k (.inr (.inr hk)); have hN := HN.out; omega)
  replace KW := hg.blk KW (fun e => by have h := HLX0.out _ (in_all e); have hN := HN.out; omega)
  replace oG := own_keptS oG hg (fun k hk e => by have h := HLX0.out _ (in_all e); have h2 := HLG.out k (.inl hk); have hN := HN.out; omega)
  replace sG := sG.keptS hg (fun k hk e => by have h := HLX0.out _ (in_all e); have h2 := HLG.out k (.inr (.inl hk)); have hN := HN.out; omega) (fun k hk e => by have h := HLX0.out _ (in_all e); have h2 := HLG.out k (.inr (.inr hk)); have hN := HN.out; omega)
  replace KG := hg.blk KG (fun e => by have h := HLX0.out _ (in_all e); have hN := HN.out; omega)
  clear hg
  have kn0 : ¬ (Z0 : Int) < 0 := by omega
  have kw0 : w10.cell? ⟨w3.heap.size, 0, none⟩ = some (.slice pW1 G.totals.length dW1) := KW.cell 0
  have kw1 : w10.cell? ⟨w3.heap.size, 1, none⟩ = some (.slice pW2 G.cells.length dW2) := KW.cell 1
  have kg0 : w10.cell? ⟨w5.heap.size, 0, none⟩ = some (.slice pG1 G.totals.length dG1) := KG.cell 0
  have kg1 : w10.cell? ⟨w5.heap.size, 1, none⟩ = some (.slice pG2 G.cells.length dG2) := KG.cell 1
  have cc := eqStats_row (.agg #[.slice pG1 G.totals.length dG1, .slice pG2 G.cells.length dG2]) (.agg #[.slice pW1 G.totals.length dW1, .slice pW2 G.cells.length dW2]) G w10 ⟨_, _, rfl, RowI.of_own oG rfl, sG.at⟩ ⟨_, _, rfl, RowI.of_own oW rfl, sW.at⟩ HFG.out.ok
  go_wp2_with fail
  refine cc.mono ?_
  clear cc
  rintro e w11 ⟨rfl, hb⟩
  clear kw0 kw1
  clear kg0 kg1
  replace KA0 := KA0.below hb
  replace B := B.trans (hb.mono B.size)
  replace oW := own_below oW hb
  replace sW := sW.below hb
  replace KW := KW.below hb
  replace oG := own_below oG hb
  replace sG := sG.below hb
  replace KG := KG.below hb
  clear hb
  have kg0 : w11.cell? ⟨w5.heap.size, 0, none⟩ = some (.slice pG1 G.totals.length dG1) := KG.cell 0
  have kg1 : w11.cell? ⟨w5.heap.size, 1, none⟩ = some (.slice pG2 G.cells.length dG2) := KG.cell 1
  have hKG := fitSt_mark HFG.out (1 + G.totals.length)
  have hftG := HFG.out.totals
  have cM := markStats_any _ _ LG _ yG G.cells G.cells.length G.totals.length (_) 1 w11 oG sG (fun j x y hj hx hy => neG j x y hj hx hy) HFG.out.cells HFG.out.totals (by omega)
  have cHH := fun W b (hm : MarkSt b W (.slice pG1 G.totals.length dG1) (.slice pG2 G.cells.length dG2) LG (lenL G.cells) G.totals.length G.cells.length 1) => heldStats_any (.slice pG1 G.totals.length dG1) (.slice pG2 G.cells.length dG2) LG (lenL G.cells) G.totals.length G.cells.length 1 b W hm HFG.out.totals HFG.out.cells (by omega)
  generalize mkC (1 + G.totals.length) (lenL G.cells) G.cells.length = ZG at cM hKG cHH
  have HHH : Hid _ := cHH
  clear cHH
  go_wp2_with fail
  refine cM.mono ?_
  rintro e w12 ⟨rfl, hm, hg⟩
  clear cM
  clear kg0 kg1
  clear oG sG
  replace KA0 := hg.blk KA0 (fun e => by have h := HLG.out _ (in_all e); have hN := HN.out; omega)
  replace B := hg.below B B.size (fun k hk => by have h := HLG.out k (in_all hk); have hN := HN.out; omega)
  replace oW := own_keptS oW hg (fun k hk e => by have h := HLG.out _ (in_all e); have h2 := HLW.out k (.inl hk); have hN := HN.out; omega)
  replace sW := sW.keptS hg (fun k hk e => by have h := HLG.out _ (in_all e); have h2 := HLW.out k (.inr (.inl hk)); have hN := HN.out; omega) (fun k hk e => by have h := HLG.out _ (in_all e); have h2 := HLW.out k (.inr (.inr hk)); have hN := HN.out; omega)
  replace KW := hg.blk KW (fun e => by have h := HLG.out _ (in_all e); have hN := HN.out; omega)
  replace KG := hg.blk KG (fun e => by have h := HLG.out _ (in_all e); have hN := HN.out; omega)
  clear hg
  have zn0 : ¬ (ZG : Int) < 0 := by omega
  have kg0 : w12.cell? ⟨w5.heap.size, 0, none⟩ = some (.slice pG1 G.totals.length dG1) := KG.cell 0
  have kg1 : w12.cell? ⟨w5.heap.size, 1, none⟩ = some (.slice pG2 G.cells.length dG2) := KG.cell 1
  have cc := HHH.out _ _ hm
  go_wp2_with fail
  refine cc.mono ?_
  clear cc
  rintro e w13 ⟨rfl, hb⟩
  clear kg0 kg1
  replace KA0 := KA0.below hb
  replace B := B.trans (hb.mono B.size)
  replace oW := own_below oW hb
  replace sW := sW.below hb
  replace KW := KW.below hb
  replace KG := KG.below hb
  replace hm := hm.below hb
  clear hb
  have k0 : w13.cell? ⟨w.heap.size, 0, none⟩ = some (.slice o01 a0.totals.length c01) := KA0.cell 0
  have k1 : w13.cell? ⟨w.heap.size, 1, none⟩ = some (.slice o02 a0.cells.length c02) := KA0.cell 1
  have cc := HT0.out _ B
  go_wp2_with fail
  refine cc.mono ?_
  clear cc
  rintro e w14 ⟨v2, rfl, ho2, hb⟩
  clear k0 k1
  replace KA0 := KA0.below hb
  replace B := B.trans (hb.mono B.size)
  replace oW := own_below oW hb
  replace sW := sW.below hb
  replace KW := KW.below hb
  replace KG := KG.below hb
  replace hm := hm.below hb
  have hx2 := ho2.at
  clear hb ho2
  have cc := HI.out _ _ hx2
  go_wp2_with fail
  refine cc.mono ?_
  clear cc
  rintro e w15 ⟨v4, rfl, hO, hb⟩
  obtain ⟨tH, cH, LH, yH, rfl, oH, sH, neH⟩ := hO
  obtain ⟨pH1, dH1, rfl⟩ := own_slice oH
  obtain ⟨pH2, dH2, rfl⟩ := own_slice sH.row
  replace KA0 := KA0.below hb
  replace B := B.trans (hb.mono B.size)
  replace oW := own_below oW hb
  replace sW := sW.below hb
  replace KW := KW.below hb
  replace KG := KG.below hb
  replace hm := hm.below hb
  have hsH := hb.size
  have HLH : Hid (∀ k, AllSt (.slice pH1 G.totals.length dH1) (.slice pH2 G.cells.length dH2) LH G.cells.length k → w14.heap.size ≤ k ∧ k < w15.heap.size) := all_st oH sH
  clear hb hx2
  obtain ⟨KH, BN⟩ := blk_1 35 w15 #[.slice pH1 G.totals.length dH1, .slice pH2 G.cells.length dH2]
  replace KA0 := KA0.below BN
  replace B := B.trans (BN.mono B.size)
  replace oW := own_below oW BN
  replace sW := sW.below BN
  replace KW := KW.below BN
  replace KG := KG.below BN
  replace hm := hm.below BN
  replace oH := own_below oH BN
  replace sH := sH.below BN
  clear BN
  have kw0 : (w15.alloc (.cells #[.slice pH1 G.totals.length dH1, .slice pH2 G.cells.length dH2] 35)).cell? ⟨w3.heap.size, 0, none⟩ = some (.slice pW1 G.totals.length dW1) := KW.cell 0
  have kw1 : (w15.alloc (.cells #[.slice pH1 G.totals.length dH1, .slice pH2 G.cells.length dH2] 35)).cell? ⟨w3.heap.size, 1, none⟩ = some (.slice pW2 G.cells.length dW2) := KW.cell 1
  have kg0 : (w15.alloc (.cells #[.slice pH1 G.totals.length dH1, .slice pH2 G.cells.length dH2] 35)).cell? ⟨w15.heap.size, 0, none⟩ = some (.slice pH1 G.totals.length dH1) := KH.cell 0
  have kg1 : (w15.alloc (.cells #[.slice pH1 G.totals.length dH1, .slice pH2 G.cells.length dH2] 35)).cell? ⟨w15.heap.size, 1, none⟩ = some (.slice pH2 G.cells.length dH2) := KH.cell 1
  have cc := eqStats_row (.agg #[.slice pH1 G.totals.length dH1, .slice pH2 G.cells.length dH2]) (.agg #[.slice pW1 G.totals.length dW1, .slice pW2 G.cells.length dW2]) G (w15.alloc (.cells #[.slice pH1 G.totals.length dH1, .slice pH2 G.cells.length dH2] 35)) ⟨_, _, rfl, RowI.of_own oH rfl, sH.at⟩ ⟨_, _, rfl, RowI.of_own oW rfl, sW.at⟩ HFG.out.ok
  go_wp2_with fail
  refine cc.mono ?_
  clear cc
  rintro e w16 ⟨rfl, hb⟩
  clear kw0 kw1
  clear kg0 kg1
  replace KA0 := KA0.below hb
  replace B := B.trans (hb.mono B.size)
  replace oW := own_below oW hb
  replace sW := sW.below hb
  replace KW := KW.below hb
  replace KG := KG.below hb
  replace hm := hm.below hb
  replace oH := own_below oH hb
  replace sH := sH.below hb
  replace KH := KH.below hb
  clear hb
  have kg0 : w16.cell? ⟨w5.heap.size, 0, none⟩ = some (.slice pG1 G.totals.length dG1) := KG.cell 0
  have kg1 : w16.cell? ⟨w5.heap.size, 1, none⟩ = some (.slice pG2 G.cells.length dG2) := KG.cell 1
  have cc := HHH.out _ _ hm
  go_wp2_with fail
  refine cc.mono ?_
  clear cc
  rintro e w17 ⟨rfl, hb⟩
  clear kg0 kg1
  replace KA0 := KA0.below hb
  replace B := B.trans (hb.mono B.size)
  replace oW := own_below oW hb
  replace sW := sW.below hb
  replace KW := KW.below hb
  replace KG := KG.below hb
  replace hm := hm.below hb
  replace oH := own_below oH hb
  replace sH := sH.below hb
  replace KH := KH.below hb
  clear hb
  go_wp2
  go_ret
  exact ⟨rfl, B⟩

/-! ### THE ROW's STEP -/
set_option maxRecDepth 100000 in
theorem lifted (os : Os) (started : os.Started) (H : Type) (enc : TypeId × Value → H) :
    ReturnsInHanded {} Try.checked os 6 .any (Rows.fnExactThinSpec.pre6 enc Try.prog Try.f6 Rows.fnExactThinRow.domain false) (Rows.fnExactThinSpec.post enc Try.prog Try.f6 false true false false) := by
  refine returnsInHanded_of_change (C := Try.checked) own started (by kernel_rfl) Try.func6
    (ChangeSpec.witness6 (enc := enc) (C := Try.checked) false ⟨#[], #[.agg #[.slice none 0 0, .slice none 0 0]], []⟩ 8 (by kernel_rfl) (by kernel_rfl) (by kernel_rfl) (by kernel_rfl)) ?_
  intro W base args ds gs before hval0 hW hcnd _
  have hval : ∀ (j : Nat) t v, Try.f6.params[j]? = some t → args[j]? = some v → Value.okWide Try.prog W .any base t v := hval0
  have hW' := hW
  obtain ⟨p, q, hA0, hV, rfl, hfz, hnd⟩ := hW
  have hA : DataW.TrodAll enc Try.prog W 0 (fun _ => true) true Try.f6.params.toList args.toList ds p := hA0
  rw [Try.params6] at hA hval
  obtain ⟨v0, vs0, d0, ds0, p0, q0, hargs, rfl, rfl, h0, r0⟩ := trodAll_cons hA
  obtain ⟨rfl, rfl, rfl⟩ := trodAll_nil r0
  obtain rfl : args = #[v0] := by cases args; simp_all
  obtain ⟨rfl, rfl⟩ := trodVars_none hV
  have k0 := h0
  have lt0 : ∀ x ∈ p0, x.block < W.heap.size := by obtain ⟨m, hm⟩ := k0; exact DataW.trod_lt m _ _ _ hm
  obtain ⟨a0, R0, I0⟩ := open_stats (hval 0 29 v0 rfl rfl) h0
  clear hA0 hval0
  refine (walk v0 a0 W R0 I0).mono fun e W' ⟨he, bel⟩ => ?_
  subst he
  exact ⟨_, rfl, _, _, _, [], _, [], hW', trodAll_mk1 (shut_bool Try.underlying4 _), (trodAll_cons_mk (Below.trod laidOut (by kernel_rfl) (of_decide_eq_true (by kernel_rfl)) k0 bel lt0) trodAll_mk0), rfl, bel.frame _, fun h => by cases h⟩

theorem over : Rows.fnExactThinRow.holds Try.pinned (OpenSpec.ofChange Rows.fnExactThinSpec) :=
  OpenClaim.holds_of_wide 6 Try.f6 rfl rfl rfl rfl rfl rfl rfl ⟨rfl, rfl, rfl, rfl, rfl⟩ rfl rfl rfl rfl rfl (by kernel_rfl) Try.func6 (by kernel_rfl)
    (of_decide_eq_true (by kernel_rfl)) (by unfold Func.isWrapper; first | (rw [if_pos (by decide +kernel)]; kernel_rfl) | (rw [if_neg (by decide +kernel)]; exact ⟨rfl, rfl⟩))
    (fun os started H enc _ => lifted os started H enc)

theorem proved : Rows.FnExactThinSaid :=
  over
end Go.Proofs.Ytobimpgapfecoab.fnExactThin
namespace Go.Proofs.Ytobimpgapfecoab
theorem thin_holds : Rows.FnExactThinSaid := fnExactThin.proved
#print axioms thin_holds
end Go.Proofs.Ytobimpgapfecoab
