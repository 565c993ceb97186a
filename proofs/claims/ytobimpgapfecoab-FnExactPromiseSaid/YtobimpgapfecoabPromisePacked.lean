/- For every schema and all counts the exact law of Promise returns true: the program answers what the specification answers, and nothing is written into them. No condition. -/
import Derived.Test.YtobimpgapfecoabRows
import Derived.WalkKit
import Derived.ProofKit
import Derived.OpenShut
import Derived.Test.YtobimpgapfecoabPromisePack6
import Derived.Test.YtobimpgapfecoabPromisePack8
import Derived.Test.YtobimpgapfecoabPromisePack15
import Derived.Test.YtobimpgapfecoabPromisePack17
namespace Go.Proofs.Ytobimpgapfecoab.fnExactPromise
open Go.ChangeShapes Go.WideShapes Go.ChangeAt Go.RowKit
set_option linter.unusedVariables false

theorem own : ownKnob Try.prog.godebug = none := by kernel_rfl
theorem laidOut : laidOutB Try.prog = true := by kernel_rfl


set_option maxRecDepth 100000 in
set_option maxHeartbeats 3200000 in
theorem walk (va : Value) (a : SchemaD) (vb : Value) (b : StatsD) (w : World) (ha : SchemaAt w va a) (hia : inS a) (hb : StatsAt w vb b) (hib : inSt b) :
    Calls Try.prog 5 #[va, vb] w fun e w' => e = .returned (.bool true) ∧ Below w.heap.size w w' := by
  have HHA : Hid (SchemaAt w va a) := ha
  have HHB : Hid (StatsAt w vb b) := hb
  obtain ⟨y1, y2, rfl, rr1, rr2⟩ := id ha
  obtain ⟨o1, c1, rfl, -, -⟩ := id rr1
  obtain ⟨o2, c2, rfl, -, -⟩ := id rr2
  clear rr1 rr2
  obtain ⟨y1, y2, rfl, rr1, rr2⟩ := id hb
  obtain ⟨p1, d1, rfl, -, -⟩ := id rr1
  obtain ⟨p2, d2, rfl, -, -⟩ := id rr2
  clear rr1 rr2
  have x1 := fun W (hW : Below w.heap.size w W) => szSchema_row _ a 1048576 W (ha.later hW) hia (by omega) (by omega)
  have HX2 : Hid (∀ W (r : Int) (_ : 0 ≤ r) (_ : r ≤ 1048576) (_ : Below w.heap.size w W), Calls Try.prog 9 #[.agg #[.slice p1 b.totals.length d1, .slice p2 b.cells.length d2], .int .i64 r] W fun e w' => ∃ r' : Int, e = .returned (.int .i64 r') ∧ ((0 ≤ r' ∧ r' ≤ r ∧ fitSt b) ∨ r' = -1) ∧ Below W.heap.size W w') := fun W r h0 h1 hW => szStats_row _ b r W (hb.later hW) hib h0 h1
  clear ha hb hia hib
  go_enter Try.func5, Try.ntmps5
  go_wp2_with fail
  obtain ⟨KA, KB, B0⟩ := blk_2 25 29 w #[.slice o1 a.attrs.length c1, .slice o2 a.classes.length c2] #[.slice p1 b.totals.length d1, .slice p2 b.cells.length d2]
  refine (x1 _ B0).mono ?_
  rintro e w1 ⟨r, rfl, hr, hb1⟩
  clear x1
  have B1 := B0.trans (hb1.mono (by simp; omega))
  replace KA := KA.below hb1
  replace KB := KB.below hb1
  clear B0 hb1
  rcases hr with ⟨r0, r1, hf⟩ | rfl
  rotate_left
  · go_wp2
    go_ret
    exact ⟨rfl, B1⟩
  have HFA : Hid (fitS a) := hf
  clear hf
  have r0n : ¬ r < 0 := by omega
  have k0 : w1.cell? ⟨w.heap.size + 1, 0, none⟩ = some (.slice p1 b.totals.length d1) := KB.cell 0
  have k1 : w1.cell? ⟨w.heap.size + 1, 1, none⟩ = some (.slice p2 b.cells.length d2) := KB.cell 1
  go_wp2_with fail
  refine (HX2.out _ r r0 (by omega) B1).mono ?_
  rintro e w2 ⟨r', rfl, hr', hb2⟩
  clear k0 k1 HX2
  have B2 := B1.trans (hb2.mono B1.size)
  replace KA := KA.below hb2
  replace KB := KB.below hb2
  clear B1 hb2
  rcases hr' with ⟨q0, q1, hf⟩ | rfl
  rotate_left
  · go_wp2
    go_ret
    exact ⟨rfl, B2⟩
  have HFB : Hid (fitSt b) := hf
  clear hf
  have q0n : ¬ r' < 0 := by omega
  have HTA : Hid (∀ W, Below w.heap.size w W → Calls Try.prog 12 #[.agg #[.slice o1 a.attrs.length c1, .slice o2 a.classes.length c2]] W fun e w' => ∃ v', e = .returned v' ∧ OwnS W.heap.size w' v' a ∧ Below W.heap.size W w') := fun W hW => toSchema_row _ a W (HHA.out.later hW) HFA.out
  have HTB : Hid (∀ W, Below w.heap.size w W → Calls Try.prog 13 #[.agg #[.slice p1 b.totals.length d1, .slice p2 b.cells.length d2]] W fun e w' => ∃ v', e = .returned v' ∧ OwnSt W.heap.size w' v' b ∧ Below W.heap.size W w') := fun W hW => toStats_row _ b W (HHB.out.later hW) HFB.out
  go_wp2_with fail
  refine wp_region_held_drew (S := fun w' => Blk 25 w' w.heap.size #[.slice o1 a.attrs.length c1, .slice o2 a.classes.length c2] ∧ Blk 29 w' (w.heap.size + 1) #[.slice p1 b.totals.length d1, .slice p2 b.cells.length d2]) (by kernel_rfl) ⟨KA, KB⟩ ?_
  intro hS
  have B3 := B2.drew
  clear B2 KA KB
  generalize w2.drew = w3 at hS B3
  refine takeL 0 (.agg #[.slice o1 a.attrs.length c1, .slice o2 a.classes.length c2]) rfl (by kernel_rfl) (by kernel_rfl) (by kernel_rfl) (fun _ _ _ h => h) (yields_row Try.underlying25 (by kernel_rfl) (by rfl) _ rfl _ rfl (fun _ h => h.1)) hS ?_
  simp only [Act.put, List.setIfInBounds_toArray, List.set_cons_zero, List.set_cons_succ]
  refine takeL 2 (.agg #[.slice p1 b.totals.length d1, .slice p2 b.cells.length d2]) rfl (by kernel_rfl) (by kernel_rfl) (by kernel_rfl) (fun _ _ _ h => h) (yields_row Try.underlying29 (by kernel_rfl) (by rfl) _ rfl _ rfl (fun _ h => h.2)) hS ?_
  simp only [Act.put, List.setIfInBounds_toArray, List.set_cons_zero, List.set_cons_succ]
  refine nextL 1 rfl (by kernel_rfl) (by rfl) fun K hK => ?_
  have dd := HTA.out w3 B3
  go_simp
  refine dd.mono ?_
  rintro e w4 ⟨v4, rfl, ho4, hb4⟩
  refine hK _ _ ⟨hS.1.below hb4, hS.2.below hb4⟩ ?_
  clear hK K dd
  intro hS
  have B4 := B3.trans (hb4.mono B3.size)
  clear B3 hb4
  refine nextL 3 rfl (by kernel_rfl) (by rfl) fun K hK => ?_
  have dd := HTB.out w4 B4
  go_simp
  refine dd.mono ?_
  rintro e w5 ⟨v5, rfl, ho5, hb5⟩
  refine hK _ _ ⟨hS.1.below hb5, hS.2.below hb5⟩ ?_
  clear hK K dd
  intro hS
  have B5 := B4.trans (hb5.mono B4.size)
  have X4 := ho4.at.later hb5
  clear B4 hb5 ho4
  have HC : Hid (∀ W v3 v4 (_ : Below w.heap.size w W) (_ : SchemaAt W v3 a) (_ : StatsAt W v4 b), Calls Try.prog 26 #[v3, v4] W fun e w' => e = .returned (.int .i64 (promise a b)) ∧ Below W.heap.size W w') := fun W v3 v4 hW h3 h4 => implPromise_any v3 v4 a b W h3 h4 HFA.out.ok HFB.out.ok
  have cs := specPromise_any v4 v5 a b w5 X4 ho5.at HFA.out.ok HFB.out.ok
  generalize promise a b = G at HC cs
  refine nextL 4 rfl (by kernel_rfl) (by rfl) fun K hK => ?_
  go_simp
  refine cs.mono ?_
  rintro e w6 ⟨rfl, hb6⟩
  refine hK _ _ ⟨hS.1.below hb6, hS.2.below hb6⟩ ?_
  clear hK K cs X4 ho5
  intro hS
  have B6 := B5.trans (hb6.mono B5.size)
  clear B5 hb6
  refine takeL 5 (.int .i64 G) rfl (by kernel_rfl) (by kernel_rfl) (by kernel_rfl) (fun _ _ _ h => h) (.inl ⟨by rfl, fun w _ => by rfl⟩) hS ?_
  simp only [Act.put, List.setIfInBounds_toArray, List.set_cons_zero, List.set_cons_succ]
  refine wpAnyH_done (by kernel_rfl) ?_ _
  obtain ⟨KA, KB⟩ := hS
  have k0 : w6.cell? ⟨w.heap.size, 0, none⟩ = some (.slice o1 a.attrs.length c1) := KA.cell 0
  have k1 : w6.cell? ⟨w.heap.size, 1, none⟩ = some (.slice o2 a.classes.length c2) := KA.cell 1
  go_wp2_with fail
  refine (HTA.out _ B6).mono ?_
  rintro e w7 ⟨v7, rfl, ho7, hb7⟩
  clear k0 k1
  have B7 := B6.trans (hb7.mono B6.size)
  replace KA := KA.below hb7
  replace KB := KB.below hb7
  clear B6 hb7
  have HXA : Hid (SchemaAt w7 v7 a) := ho7.at
  clear ho7
  obtain ⟨y1, y2, rfl, rr1, rr2⟩ := id HXA.out
  obtain ⟨s1, e1, rfl, -, -⟩ := id rr1
  obtain ⟨s2, e2, rfl, -, -⟩ := id rr2
  clear rr1 rr2
  obtain ⟨KX, B8⟩ := blk_1 40 w7 #[.slice s1 a.attrs.length e1, .slice s2 a.classes.length e2]
  have HXA8 := HXA.out.later B8
  replace KA := KA.below B8
  replace KB := KB.below B8
  have B9 := B7.trans (B8.mono B7.size)
  have k0 : (w7.alloc (.cells #[.slice s1 a.attrs.length e1, .slice s2 a.classes.length e2] 40)).cell? ⟨w.heap.size + 1, 0, none⟩ = some (.slice p1 b.totals.length d1) := KB.cell 0
  have k1 : (w7.alloc (.cells #[.slice s1 a.attrs.length e1, .slice s2 a.classes.length e2] 40)).cell? ⟨w.heap.size + 1, 1, none⟩ = some (.slice p2 b.cells.length d2) := KB.cell 1
  have HXX : Hid (SchemaAt (w7.alloc (.cells #[.slice s1 a.attrs.length e1, .slice s2 a.classes.length e2] 40)) (.agg #[.slice s1 a.attrs.length e1, .slice s2 a.classes.length e2]) a) := HXA8
  clear HXA8 HXA B8 B7
  go_wp2_with fail
  refine (HTB.out _ B9).mono ?_
  rintro e w8 ⟨v8, rfl, ho8, hb8⟩
  clear k0 k1
  have B10 := B9.trans (hb8.mono B9.size)
  replace KA := KA.below hb8
  replace KB := KB.below hb8
  replace KX := KX.below hb8
  have HXA9 := HXX.out.later hb8
  have hszx := hb8.size
  simp only [World.size_alloc] at hszx
  clear B9 hb8 HXX
  have HXB : Hid (StatsAt w8 v8 b) := ho8.at
  clear ho8
  obtain ⟨y1, y2, rfl, rr1, rr2⟩ := id HXB.out
  obtain ⟨t1, f1, rfl, -, -⟩ := id rr1
  obtain ⟨t2, f2, rfl, -, -⟩ := id rr2
  clear rr1 rr2
  obtain ⟨KY, B11⟩ := blk_1 35 w8 #[.slice t1 b.totals.length f1, .slice t2 b.cells.length f2]
  have XA := HXA9.later B11
  have XB := HXB.out.later B11
  replace KA := KA.below B11
  replace KB := KB.below B11
  replace KX := KX.below B11
  have B12 := B10.trans (B11.mono B10.size)
  have k0 : (w8.alloc (.cells #[.slice t1 b.totals.length f1, .slice t2 b.cells.length f2] 35)).cell? ⟨w7.heap.size, 0, none⟩ = some (.slice s1 a.attrs.length e1) := KX.cell 0
  have k1 : (w8.alloc (.cells #[.slice t1 b.totals.length f1, .slice t2 b.cells.length f2] 35)).cell? ⟨w7.heap.size, 1, none⟩ = some (.slice s2 a.classes.length e2) := KX.cell 1
  have HXX : Hid (SchemaAt (w8.alloc (.cells #[.slice t1 b.totals.length f1, .slice t2 b.cells.length f2] 35)) (.agg #[.slice s1 a.attrs.length e1, .slice s2 a.classes.length e2]) a ∧ StatsAt (w8.alloc (.cells #[.slice t1 b.totals.length f1, .slice t2 b.cells.length f2] 35)) (.agg #[.slice t1 b.totals.length f1, .slice t2 b.cells.length f2]) b) := ⟨XA, XB⟩
  clear XA XB HXB B11 B10 HXA9
  go_wp2_with fail
  refine (HC.out _ _ _ B12 HXX.out.1 HXX.out.2).mono ?_
  rintro e w9 ⟨rfl, hb9⟩
  have B13 := B12.trans (hb9.mono B12.size)
  replace KA := KA.below hb9
  replace KB := KB.below hb9
  replace KX := KX.below hb9
  replace KY := KY.below hb9
  have X13 := HXX.out.1.later hb9
  have Y13 := HXX.out.2.later hb9
  clear hb9 B12 HXX HC k0 k1
  go_wp2_with fail
  refine wp_region_held_drew (S := fun w' => Blk 25 w' w.heap.size #[.slice o1 a.attrs.length c1, .slice o2 a.classes.length c2] ∧ Blk 29 w' (w.heap.size + 1) #[.slice p1 b.totals.length d1, .slice p2 b.cells.length d2] ∧ Blk 40 w' w7.heap.size #[.slice s1 a.attrs.length e1, .slice s2 a.classes.length e2] ∧ Blk 35 w' w8.heap.size #[.slice t1 b.totals.length f1, .slice t2 b.cells.length f2]) (by kernel_rfl) ⟨KA, KB, KX, KY⟩ ?_
  intro hS
  have B14 := B13.drew
  have X14 := X13.later (Below.refl w9.heap.size w9).drew
  have Y14 := Y13.later (Below.refl w9.heap.size w9).drew
  clear B13 X13 Y13 KA KB KX KY
  generalize w9.drew = u14 at hS B14 X14 Y14
  refine takeL 0 (.agg #[.slice s1 a.attrs.length e1, .slice s2 a.classes.length e2]) rfl (by kernel_rfl) (by kernel_rfl) (by kernel_rfl) (fun _ _ _ h => h) (yields_row Try.underlying40 (by kernel_rfl) (by rfl) _ rfl _ rfl (fun _ h => h.2.2.1)) hS ?_
  simp only [Act.put, List.setIfInBounds_toArray, List.set_cons_zero, List.set_cons_succ]
  refine takeL 1 (.agg #[.slice o1 a.attrs.length c1, .slice o2 a.classes.length c2]) rfl (by kernel_rfl) (by kernel_rfl) (by kernel_rfl) (fun _ _ _ h => h) (yields_row Try.underlying25 (by kernel_rfl) (by rfl) _ rfl _ rfl (fun _ h => h.1)) hS ?_
  simp only [Act.put, List.setIfInBounds_toArray, List.set_cons_zero, List.set_cons_succ]
  refine nextL 2 rfl (by kernel_rfl) (by rfl) fun K hK => ?_
  have dd := HTA.out u14 B14
  go_simp
  refine dd.mono ?_
  rintro e u15 ⟨z15, rfl, hz15, hb15⟩
  refine hK _ _ ⟨hS.1.below hb15, hS.2.1.below hb15, hS.2.2.1.below hb15, hS.2.2.2.below hb15⟩ ?_
  clear hK K dd
  intro hS
  have B15 := B14.trans (hb15.mono B14.size)
  have X15 := X14.later hb15
  have Y15 := Y14.later hb15
  clear B14 X14 Y14 hb15
  refine nextL 3 rfl (by kernel_rfl) (by rfl) fun K hK => ?_
  have dd := eqSchema_row _ z15 a u15 X15 hz15.at HFA.out.ok
  go_simp
  refine dd.mono ?_
  rintro e u16 ⟨rfl, hb16⟩
  refine hK _ _ ⟨hS.1.below hb16, hS.2.1.below hb16, hS.2.2.1.below hb16, hS.2.2.2.below hb16⟩ ?_
  clear hK K dd hz15
  intro hS
  have B16 := B15.trans (hb16.mono B15.size)
  have X16 := X15.later hb16
  have Y16 := Y15.later hb16
  clear B15 X15 Y15 hb16
  refine takeL 4 (.bool false) rfl (by kernel_rfl) (by kernel_rfl) (by kernel_rfl) (fun _ _ _ h => h) (.inl ⟨by rfl, fun w _ => by rfl⟩) hS ?_
  simp only [Act.put, List.setIfInBounds_toArray, List.set_cons_zero, List.set_cons_succ]
  refine wpAnyH_done (by kernel_rfl) ?_ _
  obtain ⟨KA, KB, KX, KY⟩ := hS
  go_wp2_with fail
  refine wp_region_held_drew (S := fun w' => Blk 25 w' w.heap.size #[.slice o1 a.attrs.length c1, .slice o2 a.classes.length c2] ∧ Blk 29 w' (w.heap.size + 1) #[.slice p1 b.totals.length d1, .slice p2 b.cells.length d2] ∧ Blk 40 w' w7.heap.size #[.slice s1 a.attrs.length e1, .slice s2 a.classes.length e2] ∧ Blk 35 w' w8.heap.size #[.slice t1 b.totals.length f1, .slice t2 b.cells.length f2]) (by kernel_rfl) ⟨KA, KB, KX, KY⟩ ?_
  intro hS
  have B17 := B16.drew
  have X17 := X16.later (Below.refl u16.heap.size u16).drew
  have Y17 := Y16.later (Below.refl u16.heap.size u16).drew
  clear B16 X16 Y16 KA KB KX KY
  generalize u16.drew = u17 at hS B17 X17 Y17
  refine takeL 0 (.agg #[.slice t1 b.totals.length f1, .slice t2 b.cells.length f2]) rfl (by kernel_rfl) (by kernel_rfl) (by kernel_rfl) (fun _ _ _ h => h) (yields_row Try.underlying35 (by kernel_rfl) (by rfl) _ rfl _ rfl (fun _ h => h.2.2.2)) hS ?_
  simp only [Act.put, List.setIfInBounds_toArray, List.set_cons_zero, List.set_cons_succ]
  refine takeL 1 (.agg #[.slice p1 b.totals.length d1, .slice p2 b.cells.length d2]) rfl (by kernel_rfl) (by kernel_rfl) (by kernel_rfl) (fun _ _ _ h => h) (yields_row Try.underlying29 (by kernel_rfl) (by rfl) _ rfl _ rfl (fun _ h => h.2.1)) hS ?_
  simp only [Act.put, List.setIfInBounds_toArray, List.set_cons_zero, List.set_cons_succ]
  refine nextL 2 rfl (by kernel_rfl) (by rfl) fun K hK => ?_
  have dd := HTB.out u17 B17
  go_simp
  refine dd.mono ?_
  rintro e u18 ⟨z18, rfl, hz18, hb18⟩
  refine hK _ _ ⟨hS.1.below hb18, hS.2.1.below hb18, hS.2.2.1.below hb18, hS.2.2.2.below hb18⟩ ?_
  clear hK K dd
  intro hS
  have B18 := B17.trans (hb18.mono B17.size)
  have X18 := X17.later hb18
  have Y18 := Y17.later hb18
  clear B17 X17 Y17 hb18
  refine nextL 3 rfl (by kernel_rfl) (by rfl) fun K hK => ?_
  have dd := eqStats_row _ z18 b u18 Y18 hz18.at HFB.out.ok
  go_simp
  refine dd.mono ?_
  rintro e u19 ⟨rfl, hb19⟩
  refine hK _ _ ⟨hS.1.below hb19, hS.2.1.below hb19, hS.2.2.1.below hb19, hS.2.2.2.below hb19⟩ ?_
  clear hK K dd hz18
  intro hS
  have B19 := B18.trans (hb19.mono B18.size)
  have X19 := X18.later hb19
  have Y19 := Y18.later hb19
  clear B18 X18 Y18 hb19
  refine takeL 4 (.bool false) rfl (by kernel_rfl) (by kernel_rfl) (by kernel_rfl) (fun _ _ _ h => h) (.inl ⟨by rfl, fun w _ => by rfl⟩) hS ?_
  simp only [Act.put, List.setIfInBounds_toArray, List.set_cons_zero, List.set_cons_succ]
  refine wpAnyH_done (by kernel_rfl) ?_ _
  obtain ⟨KA, KB, KX, KY⟩ := hS
  go_wp2
  go_ret
  exact ⟨rfl, B19⟩

/-! ### THE ROW's STEP -/
set_option maxRecDepth 100000 in
theorem lifted (os : Os) (started : os.Started) (H : Type) (enc : TypeId × Value → H) :
    ReturnsInHanded {} Try.checked os 5 .any (Rows.fnExactPromiseSpec.pre6 enc Try.prog Try.f5 Rows.fnExactPromiseRow.domain false) (Rows.fnExactPromiseSpec.post enc Try.prog Try.f5 false true false false) := by
  refine returnsInHanded_of_change (C := Try.checked) own started (by kernel_rfl) Try.func5
    (ChangeSpec.witness6 (enc := enc) (C := Try.checked) false ⟨#[], #[.agg #[.slice none 0 0, .slice none 0 0], .agg #[.slice none 0 0, .slice none 0 0]], []⟩ 8 (by kernel_rfl) (by kernel_rfl) (by kernel_rfl) (by kernel_rfl)) ?_
  intro W base args ds gs before hval0 hW hcnd _
  have hval : ∀ (j : Nat) t v, Try.f5.params[j]? = some t → args[j]? = some v → Value.okWide Try.prog W .any base t v := hval0
  have hW' := hW
  obtain ⟨p, q, hA0, hV, rfl, hfz, hnd⟩ := hW
  have hA : DataW.TrodAll enc Try.prog W 0 (fun _ => true) true Try.f5.params.toList args.toList ds p := hA0
  rw [Try.params5] at hA hval
  obtain ⟨v0, vs0, d0, ds0, p0, q0, hargs, rfl, rfl, h0, r0⟩ := trodAll_cons hA
  obtain ⟨v1, vs1, d1, ds1, p1, q1, rfl, rfl, rfl, h1, r1⟩ := trodAll_cons r0
  obtain ⟨rfl, rfl, rfl⟩ := trodAll_nil r1
  obtain rfl : args = #[v0, v1] := by cases args; simp_all
  obtain ⟨rfl, rfl⟩ := trodVars_none hV
  have k0 := h0
  have lt0 : ∀ x ∈ p0, x.block < W.heap.size := by obtain ⟨m, hm⟩ := k0; exact DataW.trod_lt m _ _ _ hm
  obtain ⟨a0, R0, I0⟩ := open_schema (hval 0 25 v0 rfl rfl) h0
  have k1 := h1
  have lt1 : ∀ x ∈ p1, x.block < W.heap.size := by obtain ⟨m, hm⟩ := k1; exact DataW.trod_lt m _ _ _ hm
  obtain ⟨a1, R1, I1⟩ := open_stats (hval 1 29 v1 rfl rfl) h1
  clear hA0 hval0
  refine (walk v0 a0 v1 a1 W R0 I0 R1 I1).mono fun e W' ⟨he, bel⟩ => ?_
  subst he
  exact ⟨_, rfl, _, _, _, [], _, [], hW', trodAll_mk1 (shut_bool Try.underlying4 _), (trodAll_cons_mk (Below.trod laidOut (by kernel_rfl) (of_decide_eq_true (by kernel_rfl)) k0 bel lt0) (trodAll_cons_mk (Below.trod laidOut (by kernel_rfl) (of_decide_eq_true (by kernel_rfl)) k1 bel lt1) trodAll_mk0)), rfl, bel.frame _, fun h => by cases h⟩

theorem over : Rows.fnExactPromiseRow.holds Try.pinned (OpenSpec.ofChange Rows.fnExactPromiseSpec) :=
  OpenClaim.holds_of_wide 5 Try.f5 rfl rfl rfl rfl rfl rfl rfl ⟨rfl, rfl, rfl, rfl, rfl⟩ rfl rfl rfl rfl rfl (by kernel_rfl) Try.func5 (by kernel_rfl)
    (of_decide_eq_true (by kernel_rfl)) (by unfold Func.isWrapper; first | (rw [if_pos (by decide +kernel)]; kernel_rfl) | (rw [if_neg (by decide +kernel)]; exact ⟨rfl, rfl⟩))
    (fun os started H enc _ => lifted os started H enc)

theorem proved : Rows.FnExactPromiseSaid :=
  over
end Go.Proofs.Ytobimpgapfecoab.fnExactPromise
namespace Go.Proofs.Ytobimpgapfecoab
theorem promise_holds : Rows.FnExactPromiseSaid := fnExactPromise.proved
#print axioms promise_holds
end Go.Proofs.Ytobimpgapfecoab
