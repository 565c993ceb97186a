/- Texts of this claim, put together: part 11. -/
import Derived.Test.YtfflodcapcamcabDoorForkTextPack8
import Derived.Test.YtfflodcapcamcabDoorForkTextPack9
import Derived.Test.YtfflodcapcamcabDoorForkTextPack10
import Derived.Test.YtfflodcapcamcabDoorForkTextPack3
import Derived.Test.YtfflodcapcamcabDoorForkTextPack2
/- The text of a question that is right, by the program. -/
namespace Go.Proofs.YtfflodcapcamcabDoor
open Go.RowKit
set_option maxRecDepth 100000
set_option linter.unusedSimpArgs false
theorem qText_each (v : Value) (a : AttrD) (n : Int) (w : World) (h : AttrAt w v a) (hok : attrOk a = true) :
    Calls Tryd.prog 17 #[v, .iface 62 (.agg #[.int .i64 n])] w fun e w' => e = .returned (.string (a.name ++ ⟨#[42]⟩)) ∧ Below w.heap.size w w' := by
  have HV : Hid (AttrAt w v a) := h
  have hnm := (word_size (ok_name hok)).2
  obtain ⟨vc, vv, rfl, hc, hv⟩ := h
  obtain ⟨oc, cc, rfl, hcc, hcr⟩ := hc
  obtain ⟨ov, cv, rfl, hvc, hvr⟩ := hv
  have h1 := fun W => as_each W (.agg #[.int .i64 n])
  have hs : (a.name ++ ⟨#[42]⟩).size ≤ 9 := by rw [ByteArray.size_append]; have : (⟨#[42]⟩ : ByteArray).size = 1 := rfl; omega
  clear hcr hvr HV
  have B : Below w.heap.size w ((w.alloc (.cells #[.string a.name, .slice oc a.cuts.length cc, .slice ov a.vals.length cv] 43)).alloc (.cells #[.int .i64 n] 62)) := ((Below.refl _ _).alloc (Nat.le_refl _) _).alloc (by simp) _
  generalize a.name = nm at hnm hs B
  go_enter Tryd.func17, Tryd.ntmps17
  go_wp2
  go_ret
  exact ⟨rfl, B⟩
set_option maxHeartbeats 1600000 in
theorem qText_most (v : Value) (a : AttrD) (p : Nat) (w : World) (h : AttrAt w v a) (hok : attrOk a = true) (hp : p < a.cuts.length) (hT : Tab w) :
    Calls Tryd.prog 17 #[v, .iface 66 (.agg #[.int .i64 (p : Int)])] w fun e w' => e = .returned (.string (a.name ++ ⟨#[60, 61]⟩ ++ itB (a.cuts.getD p 0))) ∧ Below w.heap.size w w' := by
  have HV : Hid (AttrAt w v a) := h
  have hnm := (word_size (ok_name hok)).2
  obtain ⟨vc, vv, rfl, hc, hv⟩ := h
  obtain ⟨oc, cc, rfl, hcc, hcr⟩ := hc
  obtain ⟨ov, cv, rfl, hvc, hvr⟩ := hv
  have HT : Hid (Tab w) := hT
  have h1 := fun W => as_each_most W (.agg #[.int .i64 (p : Int)])
  have h2 := fun W => as_most W (.agg #[.int .i64 (p : Int)])
  obtain ⟨-, hc3, hri⟩ := ok_cuts hok (by have := ok_kind hok; omega)
  have hx := rise_all hri hp
  obtain ⟨g, o, rfl, hg, hj⟩ := hcr (by omega)
  have hcell := hj p hp
  have hsz := itB_size hx.1 (by omega)
  clear hcr hvr HV hT hj hri hok
  generalize a.cuts.getD p 0 = x at hx hcell hsz
  generalize a.name = nm at hnm
  have e2 : (⟨#[60, 61]⟩ : ByteArray).size = 2 := rfl
  have HSZ1 : Hid (nm.size + (⟨#[60, 61]⟩ : ByteArray).size ≤ 1000000) := by show _ ≤ _; omega
  have HSZ2 : Hid ((nm ++ ⟨#[60, 61]⟩).size + (itB x).size ≤ 1000000) := by show _ ≤ _; rw [ByteArray.size_append]; omega
  clear hsz e2
  obtain ⟨KA, KM, B⟩ := blk_2 43 66 w #[.string nm, .slice (some ⟨g, o, none⟩) a.cuts.length cc, .slice ov a.vals.length cv] #[.int .i64 (p : Int)]
  have hcel2 := (B.cell (p := ⟨g, o + p, none⟩) hg).trans hcell
  clear hcell
  go_enter Tryd.func17, Tryd.ntmps17
  go_wp2_with fail
  have bd : Below ((w.alloc (.cells #[.string nm, .slice (some ⟨g, o, none⟩) a.cuts.length cc, .slice ov a.vals.length cv] 43)).alloc (.cells #[.int .i64 (p : Int)] 66)).heap.size ((w.alloc (.cells #[.string nm, .slice (some ⟨g, o, none⟩) a.cuts.length cc, .slice ov a.vals.length cv] 43)).alloc (.cells #[.int .i64 (p : Int)] 66)) ((w.alloc (.cells #[.string nm, .slice (some ⟨g, o, none⟩) a.cuts.length cc, .slice ov a.vals.length cv] 43)).alloc (.cells #[.int .i64 (p : Int)] 66)).drew := (Below.refl _ _).drew
  refine wp_region_held_drew (S := fun w' => Blk 43 w' w.heap.size #[.string nm, .slice (some ⟨g, o, none⟩) a.cuts.length cc, .slice ov a.vals.length cv] ∧ Blk 66 w' (w.heap.size + 1) #[.int .i64 (p : Int)] ∧ w'.cell? ⟨g, o + p, none⟩ = some (.int .i64 x)) (by kernel_rfl) ⟨KA.below bd, KM.below bd, (bd.cell (p := ⟨g, o + p, none⟩) (World.block_lt_of_cell? _ _ (by rw [hcel2]))).trans hcel2⟩ ?_
  intro hS
  replace B := B.trans (bd.mono B.size)
  clear bd KA KM hcel2
  generalize ((w.alloc (.cells #[.string nm, .slice (some ⟨g, o, none⟩) a.cuts.length cc, .slice ov a.vals.length cv] 43)).alloc (.cells #[.int .i64 (p : Int)] 66)).drew = w3 at B hS ⊢
  refine takeL 0 (.pointer (some ⟨w.heap.size, 0, none⟩)) rfl (by kernel_rfl) (by kernel_rfl) (by kernel_rfl) (fun _ _ _ h => h) (.inl ⟨by rfl, fun w hw => by (unfold execOp; go_simp)⟩) hS ?_
  try simp only [Act.put, List.setIfInBounds_toArray, List.set_cons_zero, List.set_cons_succ]
  refine takeL 1 (.string nm) rfl (by kernel_rfl) (by kernel_rfl) (by kernel_rfl) (fun _ _ _ h => h) (.inl ⟨by rfl, fun w hw => by (have h0 := (hw.1).cell 0; unfold execOp; go_simp)⟩) hS ?_
  try simp only [Act.put, List.setIfInBounds_toArray, List.set_cons_zero, List.set_cons_succ]
  refine takeL 2 (.string (nm ++ ⟨#[60, 61]⟩)) rfl (by kernel_rfl) (by kernel_rfl) (by kernel_rfl) (fun _ _ _ h => h) (yields_cat (by rfl) _ _ rfl (nm) (⟨#[60, 61]⟩) rfl rfl (by first | exact HSZ1.out | exact HSZ2.out)) hS ?_
  try simp only [Act.put, List.setIfInBounds_toArray, List.set_cons_zero, List.set_cons_succ]
  refine takeL 3 (.pointer (some ⟨w.heap.size, 1, none⟩)) rfl (by kernel_rfl) (by kernel_rfl) (by kernel_rfl) (fun _ _ _ h => h) (.inl ⟨by rfl, fun w hw => by (unfold execOp; go_simp)⟩) hS ?_
  try simp only [Act.put, List.setIfInBounds_toArray, List.set_cons_zero, List.set_cons_succ]
  refine takeL 4 (.slice (some ⟨g, o, none⟩) a.cuts.length cc) rfl (by kernel_rfl) (by kernel_rfl) (by kernel_rfl) (fun _ _ _ h => h) (.inl ⟨by rfl, fun w hw => by (have h0 := (hw.1).cell 1; unfold execOp; go_simp)⟩) hS ?_
  try simp only [Act.put, List.setIfInBounds_toArray, List.set_cons_zero, List.set_cons_succ]
  refine takeL 5 (.pointer (some ⟨w.heap.size + 1, 0, none⟩)) rfl (by kernel_rfl) (by kernel_rfl) (by kernel_rfl) (fun _ _ _ h => h) (.inl ⟨by rfl, fun w hw => by (unfold execOp; go_simp)⟩) hS ?_
  try simp only [Act.put, List.setIfInBounds_toArray, List.set_cons_zero, List.set_cons_succ]
  refine takeL 6 (.int .i64 ((p : Int))) rfl (by kernel_rfl) (by kernel_rfl) (by kernel_rfl) (fun _ _ _ h => h) (.inl ⟨by rfl, fun w hw => by (have h0 := (hw.2.1).cell 0; unfold execOp; go_simp)⟩) hS ?_
  try simp only [Act.put, List.setIfInBounds_toArray, List.set_cons_zero, List.set_cons_succ]
  refine takeL 7 (.pointer (some ⟨g, o + p, none⟩)) rfl (by kernel_rfl) (by kernel_rfl) (by kernel_rfl) (fun _ _ _ h => h) (.inl ⟨by rfl, fun w hw => by (unfold execOp; go_simp; all_goals omega)⟩) hS ?_
  try simp only [Act.put, List.setIfInBounds_toArray, List.set_cons_zero, List.set_cons_succ]
  refine takeL 8 (.int .i64 x) rfl (by kernel_rfl) (by kernel_rfl) (by kernel_rfl) (fun _ _ _ h => h) (.inl ⟨by rfl, fun w hw => by (have h0 := hw.2.2; unfold execOp; go_simp)⟩) hS ?_
  try simp only [Act.put, List.setIfInBounds_toArray, List.set_cons_zero, List.set_cons_succ]
  refine nextL 9 rfl (by kernel_rfl) (by rfl) fun K hK => ?_
  have dd := iDigits_any x _ (by omega) (by omega) (HT.out.later B)
  go_simp
  refine dd.mono ?_
  clear dd
  rintro e w9 ⟨rfl, hb⟩
  refine hK _ _ ⟨hS.1.below hb, hS.2.1.below hb, (hb.cell (p := ⟨g, o + p, none⟩) (World.block_lt_of_cell? _ _ (by rw [hS.2.2]))).trans hS.2.2⟩ ?_
  clear hK K hS
  intro hS
  replace B := B.trans (hb.mono B.size)
  clear hb
  refine takeL 10 (.string (nm ++ ⟨#[60, 61]⟩ ++ itB x)) rfl (by kernel_rfl) (by kernel_rfl) (by kernel_rfl) (fun _ _ _ h => h) (yields_cat (by rfl) _ _ rfl (nm ++ ⟨#[60, 61]⟩) (itB x) rfl rfl (by first | exact HSZ1.out | exact HSZ2.out)) hS ?_
  try simp only [Act.put, List.setIfInBounds_toArray, List.set_cons_zero, List.set_cons_succ]
  refine takeL 11 (.string (nm ++ ⟨#[60, 61]⟩ ++ itB x)) rfl (by kernel_rfl) (by kernel_rfl) (by kernel_rfl) (fun _ _ _ h => h) (.inl ⟨by rfl, fun w _ => by rfl⟩) hS ?_
  try simp only [Act.put, List.setIfInBounds_toArray, List.set_cons_zero, List.set_cons_succ]
  refine wpAnyH_done (by kernel_rfl) ?_ _
  clear hS
  go_wp2
  go_ret
  exact ⟨rfl, B⟩
set_option maxHeartbeats 1600000 in
theorem qText_just (v : Value) (a : AttrD) (p : Nat) (w : World) (h : AttrAt w v a) (hok : attrOk a = true) (hp : p < a.vals.length) :
    Calls Tryd.prog 17 #[v, .iface 65 (.agg #[.int .i64 (p : Int)])] w fun e w' => e = .returned (.string (a.name ++ ⟨#[61]⟩ ++ tx a.vals p)) ∧ Below w.heap.size w w' := by
  have HV : Hid (AttrAt w v a) := h
  have hnm := (word_size (ok_name hok)).2
  obtain ⟨vc, vv, rfl, hc, hv⟩ := h
  obtain ⟨oc, cc, rfl, hcc, hcr⟩ := hc
  obtain ⟨ov, cv, rfl, hvc, hvr⟩ := hv
  have h1 := fun W => as_each_just W (.agg #[.int .i64 (p : Int)])
  have h2 := fun W => as_most_just W (.agg #[.int .i64 (p : Int)])
  have h3 := fun W => as_just W (.agg #[.int .i64 (p : Int)])
  obtain ⟨-, -, hv4, hwo⟩ := ok_vals hok (by omega)
  have hsz := (word_size (words_all hwo _ (tx_mem hp))).2
  obtain ⟨g, o, rfl, hg, hj⟩ := hvr (by omega)
  have hcell := hj p hp
  clear hcr hvr HV hj hwo hok
  generalize tx a.vals p = vt at hcell hsz
  generalize a.name = nm at hnm
  have e2 : (⟨#[61]⟩ : ByteArray).size = 1 := rfl
  have HSZ1 : Hid (nm.size + (⟨#[61]⟩ : ByteArray).size ≤ 1000000) := by show _ ≤ _; omega
  have HSZ2 : Hid ((nm ++ ⟨#[61]⟩).size + vt.size ≤ 1000000) := by show _ ≤ _; rw [ByteArray.size_append]; omega
  clear hsz e2
  obtain ⟨KA, KM, B⟩ := blk_2 43 65 w #[.string nm, .slice oc a.cuts.length cc, .slice (some ⟨g, o, none⟩) a.vals.length cv] #[.int .i64 (p : Int)]
  have hcel2 := (B.cell (p := ⟨g, o + p, none⟩) hg).trans hcell
  clear hcell
  go_enter Tryd.func17, Tryd.ntmps17
  go_wp2_with fail
  have bd : Below ((w.alloc (.cells #[.string nm, .slice oc a.cuts.length cc, .slice (some ⟨g, o, none⟩) a.vals.length cv] 43)).alloc (.cells #[.int .i64 (p : Int)] 65)).heap.size ((w.alloc (.cells #[.string nm, .slice oc a.cuts.length cc, .slice (some ⟨g, o, none⟩) a.vals.length cv] 43)).alloc (.cells #[.int .i64 (p : Int)] 65)) ((w.alloc (.cells #[.string nm, .slice oc a.cuts.length cc, .slice (some ⟨g, o, none⟩) a.vals.length cv] 43)).alloc (.cells #[.int .i64 (p : Int)] 65)).drew := (Below.refl _ _).drew
  refine wp_region_held_drew (S := fun w' => Blk 43 w' w.heap.size #[.string nm, .slice oc a.cuts.length cc, .slice (some ⟨g, o, none⟩) a.vals.length cv] ∧ Blk 65 w' (w.heap.size + 1) #[.int .i64 (p : Int)] ∧ w'.cell? ⟨g, o + p, none⟩ = some (.string vt)) (by kernel_rfl) ⟨KA.below bd, KM.below bd, (bd.cell (p := ⟨g, o + p, none⟩) (World.block_lt_of_cell? _ _ (by rw [hcel2]))).trans hcel2⟩ ?_
  intro hS
  replace B := B.trans (bd.mono B.size)
  clear bd KA KM hcel2
  generalize ((w.alloc (.cells #[.string nm, .slice oc a.cuts.length cc, .slice (some ⟨g, o, none⟩) a.vals.length cv] 43)).alloc (.cells #[.int .i64 (p : Int)] 65)).drew = w3 at B hS ⊢
  refine takeL 0 (.pointer (some ⟨w.heap.size, 0, none⟩)) rfl (by kernel_rfl) (by kernel_rfl) (by kernel_rfl) (fun _ _ _ h => h) (.inl ⟨by rfl, fun w hw => by (unfold execOp; go_simp)⟩) hS ?_
  try simp only [Act.put, List.setIfInBounds_toArray, List.set_cons_zero, List.set_cons_succ]
  refine takeL 1 (.string nm) rfl (by kernel_rfl) (by kernel_rfl) (by kernel_rfl) (fun _ _ _ h => h) (.inl ⟨by rfl, fun w hw => by (have h0 := (hw.1).cell 0; unfold execOp; go_simp)⟩) hS ?_
  try simp only [Act.put, List.setIfInBounds_toArray, List.set_cons_zero, List.set_cons_succ]
  refine takeL 2 (.string (nm ++ ⟨#[61]⟩)) rfl (by kernel_rfl) (by kernel_rfl) (by kernel_rfl) (fun _ _ _ h => h) (yields_cat (by rfl) _ _ rfl (nm) (⟨#[61]⟩) rfl rfl (by first | exact HSZ1.out | exact HSZ2.out)) hS ?_
  try simp only [Act.put, List.setIfInBounds_toArray, List.set_cons_zero, List.set_cons_succ]
  refine takeL 3 (.pointer (some ⟨w.heap.size, 2, none⟩)) rfl (by kernel_rfl) (by kernel_rfl) (by kernel_rfl) (fun _ _ _ h => h) (.inl ⟨by rfl, fun w hw => by (unfold execOp; go_simp)⟩) hS ?_
  try simp only [Act.put, List.setIfInBounds_toArray, List.set_cons_zero, List.set_cons_succ]
  refine takeL 4 (.slice (some ⟨g, o, none⟩) a.vals.length cv) rfl (by kernel_rfl) (by kernel_rfl) (by kernel_rfl) (fun _ _ _ h => h) (.inl ⟨by rfl, fun w hw => by (have h0 := (hw.1).cell 2; unfold execOp; go_simp)⟩) hS ?_
  try simp only [Act.put, List.setIfInBounds_toArray, List.set_cons_zero, List.set_cons_succ]
  refine takeL 5 (.pointer (some ⟨w.heap.size + 1, 0, none⟩)) rfl (by kernel_rfl) (by kernel_rfl) (by kernel_rfl) (fun _ _ _ h => h) (.inl ⟨by rfl, fun w hw => by (unfold execOp; go_simp)⟩) hS ?_
  try simp only [Act.put, List.setIfInBounds_toArray, List.set_cons_zero, List.set_cons_succ]
  refine takeL 6 (.int .i64 ((p : Int))) rfl (by kernel_rfl) (by kernel_rfl) (by kernel_rfl) (fun _ _ _ h => h) (.inl ⟨by rfl, fun w hw => by (have h0 := (hw.2.1).cell 0; unfold execOp; go_simp)⟩) hS ?_
  try simp only [Act.put, List.setIfInBounds_toArray, List.set_cons_zero, List.set_cons_succ]
  refine takeL 7 (.pointer (some ⟨g, o + p, none⟩)) rfl (by kernel_rfl) (by kernel_rfl) (by kernel_rfl) (fun _ _ _ h => h) (.inl ⟨by rfl, fun w hw => by (unfold execOp; go_simp; all_goals omega)⟩) hS ?_
  try simp only [Act.put, List.setIfInBounds_toArray, List.set_cons_zero, List.set_cons_succ]
  refine takeL 8 (.string vt) rfl (by kernel_rfl) (by kernel_rfl) (by kernel_rfl) (fun _ _ _ h => h) (.inl ⟨by rfl, fun w hw => by (have h0 := hw.2.2; unfold execOp; go_simp)⟩) hS ?_
  try simp only [Act.put, List.setIfInBounds_toArray, List.set_cons_zero, List.set_cons_succ]
  refine takeL 9 (.string (nm ++ ⟨#[61]⟩ ++ vt)) rfl (by kernel_rfl) (by kernel_rfl) (by kernel_rfl) (fun _ _ _ h => h) (yields_cat (by rfl) _ _ rfl (nm ++ ⟨#[61]⟩) (vt) rfl rfl (by first | exact HSZ1.out | exact HSZ2.out)) hS ?_
  try simp only [Act.put, List.setIfInBounds_toArray, List.set_cons_zero, List.set_cons_succ]
  refine takeL 10 (.string (nm ++ ⟨#[61]⟩ ++ vt)) rfl (by kernel_rfl) (by kernel_rfl) (by kernel_rfl) (fun _ _ _ h => h) (.inl ⟨by rfl, fun w _ => by rfl⟩) hS ?_
  try simp only [Act.put, List.setIfInBounds_toArray, List.set_cons_zero, List.set_cons_succ]
  refine wpAnyH_done (by kernel_rfl) ?_ _
  clear hS
  go_wp2
  go_ret
  exact ⟨rfl, B⟩
end Go.Proofs.YtfflodcapcamcabDoor
/- Whether an attribute is nominal, by the program. -/
namespace Go.Proofs.YtfflodcapcamcabDoor
open Go.RowKit
set_option maxRecDepth 100000

theorem nominal_any (v : Value) (a : AttrD) (w : World) (h : AttrAt w v a) : Calls Tryd.prog 28 #[v] w fun e w' => e = .returned (.bool (decide (0 < a.vals.length))) ∧ Below w.heap.size w w' := by
  obtain ⟨vc, vv, rfl, hc, hv⟩ := h
  obtain ⟨ov, cv, rfl, hvc, hvr⟩ := hv
  clear hvr hc
  go_enter Tryd.func28, Tryd.ntmps28
  go_wp2
  go_ret
  exact ⟨rfl, (Below.refl _ _).alloc (Nat.le_refl _) _⟩
end Go.Proofs.YtfflodcapcamcabDoor
/- How many questions with two answers there are, by the program. -/
namespace Go.Proofs.YtfflodcapcamcabDoor
open Go.RowKit
set_option maxRecDepth 100000
set_option maxHeartbeats 400000 in
theorem twoWays_any (v : Value) (a : AttrD) (w : World) (h : AttrAt w v a) (hok : attrOk a = true) : Calls Tryd.prog 26 #[v] w fun e w' => e = .returned (.int .i64 (wayN a)) ∧ Below w.heap.size w w' := by
  have hk := ok_kind hok
  have B0 : ∀ o, Below w.heap.size w (w.alloc o) := fun o => (Below.refl _ _).alloc (Nat.le_refl _) _
  have c := fun o => nominal_any v a (w.alloc o) (h.later (B0 o))
  obtain ⟨vc, vv, rfl, hc, hv⟩ := h
  obtain ⟨oc, cc, rfl, -, -⟩ := hc
  obtain ⟨ov, cv, rfl, -, -⟩ := hv
  have K : Blk 43 (w.alloc (.cells #[.string a.name, .slice oc a.cuts.length cc, .slice ov a.vals.length cv] 43)) w.heap.size #[.string a.name, .slice oc a.cuts.length cc, .slice ov a.vals.length cv] := Blk.new _ _ _
  have B1 := B0 (.cells #[.string a.name, .slice oc a.cuts.length cc, .slice ov a.vals.length cv] 43)
  clear B0
  by_cases h0 : 0 < a.vals.length
  · have HE : Hid (wayN a = a.vals.length) := by unfold wayN; exact if_pos (by omega)
    rw [decide_eq_true h0] at c
    clear hk
    go_enter Tryd.func26, Tryd.ntmps26
    go_wp2_with fail
    refine (c _).mono ?_
    clear c
    rintro e w1 ⟨rfl, hb1⟩
    have k2 : w1.cell? ⟨w.heap.size, 2, none⟩ = some (.slice ov a.vals.length cv) := (K.below hb1).cell 2
    have B2 := B1.trans (hb1.mono B1.size)
    clear hb1 K B1
    go_wp2
    go_ret
    exact ⟨by rw [HE.out]; rfl, B2⟩
  · have HE : Hid (wayN a = a.cuts.length) := by unfold wayN; exact if_neg (by omega)
    rw [decide_eq_false h0] at c
    clear hk
    go_enter Tryd.func26, Tryd.ntmps26
    go_wp2_with fail
    refine (c _).mono ?_
    clear c
    rintro e w1 ⟨rfl, hb1⟩
    have k1 : w1.cell? ⟨w.heap.size, 1, none⟩ = some (.slice oc a.cuts.length cc) := (K.below hb1).cell 1
    have B2 := B1.trans (hb1.mono B1.size)
    clear hb1 K B1
    go_wp2
    go_ret
    exact ⟨by rw [HE.out]; rfl, B2⟩
end Go.Proofs.YtfflodcapcamcabDoor
/- Whether numbers ascend, by the program. -/
namespace Go.Proofs.YtfflodcapcamcabDoor
open Go.RowKit
set_option maxRecDepth 100000
set_option maxHeartbeats 400000 in
theorem ascending_any (v : Value) (cs : List Int) (lo hi : Int) (w : World) (h : RowI w v cs) (hn : cs.length ≤ 1099511627776) (h0 : cs.length ≠ 0) (hlo : -1099511627776 ≤ lo) (hhi : hi ≤ 1099511627776) :
    Calls Tryd.prog 45 #[v, .int .i64 lo, .int .i64 hi] w fun e w' => e = .returned (.bool (ascIn lo hi cs)) ∧ w' = w := by
  obtain ⟨oa, cap, rfl, hc, hr⟩ := h
  obtain ⟨g, o, rfl, hg, hj⟩ := hr (by omega)
  have HJ : Hid (∀ j, j < cs.length → w.cell? ⟨g, o + j, none⟩ = some (.int .i64 (cs.getD j 0))) := hj
  clear hj hr
  go_enter Tryd.func45, Tryd.ntmps45
  go_wp2
  go_loopw [1, 11] (fun l i wr => ∃ k : Nat, i = .int .i64 k ∧ l = .int .i64 (leastOf lo cs k) ∧ k ≤ cs.length ∧ (∀ j, j < k → ascAt lo hi cs j = true) ∧ wr = w) (fun _ i _ => cs.length - (intOf i).toNat)
  case atStart => exact ⟨0, rfl, rfl, by omega, by omega, rfl⟩
  case round =>
    obtain ⟨k, rfl, rfl, hk, hal, rfl⟩ := hrel
    have HA : Hid (∀ j, j < k → ascAt lo hi cs j = true) := hal
    clear hal
    by_cases hlt : k < cs.length
    · have hcell := HJ.out k hlt
      have HL : Hid (∀ c, cs.getD k 0 = c → (leastOf lo cs k ≤ c ∧ c ≤ hi → ascAt lo hi cs k = true) ∧ (¬ (leastOf lo cs k ≤ c ∧ c ≤ hi) → ascAt lo hi cs k = false)) := by
        intro c hc
        unfold leastOf ascAt
        rw [hc]
        by_cases hk0 : k = 0
        · subst hk0; simp
        · have hp := HA.out (k - 1) (by omega)
          unfold ascAt at hp
          simp at hp
          simp [hk0]
          constructor
          · intro a b; omega
          · intro a b c; omega
      generalize hcc : cs.getD k 0 = c at hcell
      have HK := HL.out c hcc
      have HKK : Hid ((leastOf lo cs k ≤ c ∧ c ≤ hi → ascAt lo hi cs k = true) ∧ (¬ (leastOf lo cs k ≤ c ∧ c ≤ hi) → ascAt lo hi cs k = false)) := HK
      have HN : Hid (c + 1 = leastOf lo cs (k + 1)) := by unfold leastOf; rw [if_neg (by omega), Nat.add_sub_cancel, hcc]; rfl
      have hll : -1099511627776 ≤ leastOf lo cs k := by
        unfold leastOf
        by_cases hk0 : k = 0
        · rw [if_pos hk0]; omega
        · rw [if_neg hk0]
          have hp := asc_in (HA.out (k - 1) (by omega))
          omega
      clear HL HK hcc
      generalize leastOf lo cs k = L at HKK hll
      by_cases c1 : c < L
      · have HF : Hid (ascIn lo hi cs = false) := asc_no k hlt (HKK.out.2 (by omega))
        go_wp2
        go_ret
        exact ⟨by rw [HF.out]; rfl, rfl⟩
      · by_cases c2 : c ≤ hi
        · have HF : Hid (ascAt lo hi cs k = true) := HKK.out.1 (by omega)
          go_wp2
          go_roundw
          case rel =>
            refine ⟨k + 1, by go_num, by rw [← HN.out], by omega, ?_, by first | rfl | trivial⟩
            intro j hj
            by_cases e : j = k
            · subst e; exact HF.out
            · exact HA.out j (by omega)
          case measure => simp [intOf]; omega
        · have HF : Hid (ascIn lo hi cs = false) := asc_no k hlt (HKK.out.2 (by omega))
          go_wp2
          go_ret
          exact ⟨by rw [HF.out]; rfl, rfl⟩
    · have HF : Hid (ascIn lo hi cs = true) := asc_yes fun j hj => HA.out j (by omega)
      go_wp2
      go_ret
      exact ⟨by rw [HF.out]; rfl, rfl⟩
end Go.Proofs.YtfflodcapcamcabDoor
