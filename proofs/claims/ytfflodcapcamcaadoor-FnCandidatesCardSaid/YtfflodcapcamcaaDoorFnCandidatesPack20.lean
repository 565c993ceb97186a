/- Texts of this claim, put together: part 20. -/
import Derived.Shelf.Strconv.Itoa3
import Derived.Test.YtfflodcapcamcaaDoorProg
import Derived.Test.YtfflodcapcamcaaDoorFnCandidatesPack12
import Derived.Test.YtfflodcapcamcaaDoorFnCandidatesPack1
import Derived.Lib.AppendIntMem
import Derived.Test.YtfflodcapcamcaaDoorFnCandidatesPack19
import Derived.Test.YtfflodcapcamcaaDoorFnCandidatesPack9
import Derived.Test.YtfflodcapcamcaaDoorFnCandidatesPack4
import Derived.Test.YtfflodcapcamcaaDoorFnCandidatesPack18
/- Contracts of the library that this seat calls, laid at its own numbers out of the kit. -/
namespace Go.Proofs
open Go.Shelf
def Tryd.laysM171_ren : Go.Shelf.Ren := ⟨fun | 171 => 45 | 243 => 47 | 246 => 48 | 283 => 49 | 284 => 50 | 285 => 51 | 286 => 52 | 129 => 54 | 317 => 53 | 318 => 55 | 319 => 56 | 320 => 57 | 337 => 58 | 338 => 59 | n => n, fun | 3 => 3 | 9 => 9 | 2 => 2 | 4 => 4 | 171 => 82 | 0 => 0 | 53 => 83 | 37 => 22 | 5 => 5 | 173 => 86 | 212 => 90 | 51 => 91 | 20 => 20 | 213 => 92 | 46 => 80 | 232 => 96 | 233 => 97 | n => n, fun | 17 => 0 | 18 => 1 | 19 => 2 | n => n⟩
theorem Tryd.laysM171 : Go.Proofs.LaysM.n171 Tryd.prog Tryd.laysM171_ren := {
  mixed := by kernel_rfl
  f129 := Tryd.func54.trans (congrArg some (by kernel_rfl))
  f171 := Tryd.func45.trans (congrArg some (by kernel_rfl))
  f243 := Tryd.func47.trans (congrArg some (by kernel_rfl))
  f246 := Tryd.func48.trans (congrArg some (by kernel_rfl))
  f283 := Tryd.func49.trans (congrArg some (by kernel_rfl))
  f284 := Tryd.func50.trans (congrArg some (by kernel_rfl))
  f285 := Tryd.func51.trans (congrArg some (by kernel_rfl))
  f286 := Tryd.func52.trans (congrArg some (by kernel_rfl))
  f317 := Tryd.func53.trans (congrArg some (by kernel_rfl))
  f318 := Tryd.func55.trans (congrArg some (by kernel_rfl))
  f319 := Tryd.func56.trans (congrArg some (by kernel_rfl))
  f320 := Tryd.func57.trans (congrArg some (by kernel_rfl))
  f337 := Tryd.func58.trans (congrArg some (by kernel_rfl))
  f338 := Tryd.func59.trans (congrArg some (by kernel_rfl))
  t0 := Tryd.underlying0
  a0 := Tryd.isAgg0
  z0 := Tryd.sizeOf0
  v0 := Tryd.zeroValue0
  t2 := Tryd.underlying2
  a2 := Tryd.isAgg2
  z2 := Tryd.sizeOf2
  v2 := Tryd.zeroValue2
  t3 := Tryd.underlying3
  a3 := Tryd.isAgg3
  z3 := Tryd.sizeOf3
  v3 := Tryd.zeroValue3
  t4 := Tryd.underlying4
  a4 := Tryd.isAgg4
  z4 := Tryd.sizeOf4
  v4 := Tryd.zeroValue4
  t5 := Tryd.underlying5
  a5 := Tryd.isAgg5
  z5 := Tryd.sizeOf5
  v5 := Tryd.zeroValue5
  t9 := Tryd.underlying9
  a9 := Tryd.isAgg9
  z9 := Tryd.sizeOf9
  v9 := Tryd.zeroValue9
  t20 := Tryd.underlying20
  a20 := Tryd.isAgg20
  z20 := Tryd.sizeOf20
  v20 := Tryd.zeroValue20
  t37 := Tryd.underlying22
  a37 := Tryd.isAgg22
  z37 := Tryd.sizeOf22
  v37 := Tryd.zeroValue22
  t46 := Tryd.underlying80
  a46 := Tryd.isAgg80
  z46 := Tryd.sizeOf80
  v46 := Tryd.zeroValue80
  t51 := Tryd.underlying91
  a51 := Tryd.isAgg91
  z51 := Tryd.sizeOf91
  v51 := Tryd.zeroValue91
  t53 := Tryd.underlying83
  a53 := Tryd.isAgg83
  z53 := Tryd.sizeOf83
  v53 := Tryd.zeroValue83
  t171 := Tryd.underlying82
  a171 := Tryd.isAgg82
  z171 := Tryd.sizeOf82
  v171 := Tryd.zeroValue82
  t173 := Tryd.underlying86
  a173 := Tryd.isAgg86
  z173 := Tryd.sizeOf86
  v173 := Tryd.zeroValue86
  t212 := Tryd.underlying90
  a212 := Tryd.isAgg90
  z212 := Tryd.sizeOf90
  v212 := Tryd.zeroValue90
  t213 := Tryd.underlying92
  a213 := Tryd.isAgg92
  z213 := Tryd.sizeOf92
  t232 := Tryd.underlying96
  a232 := Tryd.isAgg96
  z232 := Tryd.sizeOf96
  v232 := Tryd.zeroValue96
  t233 := Tryd.underlying97
  a233 := Tryd.isAgg97
  z233 := Tryd.sizeOf97
  v233 := Tryd.zeroValue97
  g17 := by kernel_rfl
  g18 := by kernel_rfl
  g19 := by kernel_rfl
  i0 := by kernel_rfl
  i2 := by kernel_rfl
  i3 := by kernel_rfl
  i4 := by kernel_rfl
  i5 := by kernel_rfl
  i9 := by kernel_rfl
  i20 := by kernel_rfl
  i37 := by kernel_rfl
  i46 := by kernel_rfl
  i51 := by kernel_rfl
  i53 := by kernel_rfl
  i171 := by kernel_rfl
  i173 := by kernel_rfl
  i212 := by kernel_rfl
  i232 := by kernel_rfl
  i233 := by kernel_rfl
  m17 := by kernel_rfl
  m18 := by kernel_rfl
  m19 := by kernel_rfl }
open Go.RowKit Go.Sort Go.Lib in
theorem Tryd.strconv_Itoa (n : Int) (h0 : -9223372036854775808 ≤ n) (h1 : n ≤ 9223372036854775807) (w : World) (htab : Lib.TabIs Tryd.prog w "internal/strconv.uint64pow10" .u64 Lib.pow10Tab) :
    Calls Tryd.prog 45 #[.int .i64 n] w fun e w' => e = .returned (.string ⟨(Lib.itoa n).toArray⟩) ∧ ∃ k os, w' = grow (w.drewN k) os := Any.strconv_Itoa Tryd.laysM171 n h0 h1 w htab
end Go.Proofs
/- The digits of a number, by the program: what it wants of the library's table. -/
namespace Go.Proofs.YtfflodcapcamcaaDoor
open Go.RowKit
set_option maxRecDepth 100000
theorem gPw : Tryd.prog.globalNamed "internal/strconv.uint64pow10" = some 0 := by kernel_rfl
/-- What the writer of digits wants of the library's variables. -/
def Tab (w : World) : Prop := Lib.TabIs Tryd.prog w "internal/strconv.uint64pow10" .u64 Lib.pow10Tab ∧ 0 < w.heap.size
theorem Tab.later {w w' : World} (h : Tab w) (hb : Below w.heap.size w w') : Tab w' := ⟨var?_below hb gPw h.2 h.1, Nat.lt_of_lt_of_le h.2 hb.size⟩

theorem iDigits_any (n : Int) (w : World) (h0 : -9223372036854775808 ≤ n) (h1 : n ≤ 9223372036854775807) (hr : Tab w) :
    Calls Tryd.prog 34 #[.int .i64 n] w fun e w' => e = .returned (.string (itB n)) ∧ Below w.heap.size w w' := by
  have ht := hr.1
  clear hr
  go_enter Tryd.func34, Tryd.ntmps34
  go_wp2_with fail
  refine (Tryd.strconv_Itoa n h0 h1 _ ht).mono ?_
  rintro e w' ⟨rfl, k, os, rfl⟩
  go_wp2
  go_ret
  exact ⟨rfl, Lib.below_grow _ _ (Nat.le_refl _) _ _⟩

end Go.Proofs.YtfflodcapcamcaaDoor
/- The text of a question that is right, by the program. -/
namespace Go.Proofs.YtfflodcapcamcaaDoor
open Go.RowKit
set_option maxRecDepth 100000
set_option linter.unusedSimpArgs false
theorem qText_each (v : Value) (a : AttrD) (n : Int) (w : World) (h : AttrAt w v a) (hok : attrOk a = true) :
    Calls Tryd.prog 24 #[v, .iface 67 (.agg #[.int .i64 n])] w fun e w' => e = .returned (.string (a.name ++ ⟨#[42]⟩)) ∧ Below w.heap.size w w' := by
  have HV : Hid (AttrAt w v a) := h
  have hnm := (word_size (ok_name hok)).2
  obtain ⟨vc, vv, rfl, hc, hv⟩ := h
  obtain ⟨oc, cc, rfl, hcc, hcr⟩ := hc
  obtain ⟨ov, cv, rfl, hvc, hvr⟩ := hv
  have h1 := fun W => as_each W (.agg #[.int .i64 n])
  have hs : (a.name ++ ⟨#[42]⟩).size ≤ 9 := by rw [ByteArray.size_append]; have : (⟨#[42]⟩ : ByteArray).size = 1 := rfl; omega
  clear hcr hvr HV
  have B : Below w.heap.size w ((w.alloc (.cells #[.string a.name, .slice oc a.cuts.length cc, .slice ov a.vals.length cv] 46)).alloc (.cells #[.int .i64 n] 67)) := ((Below.refl _ _).alloc (Nat.le_refl _) _).alloc (by simp) _
  generalize a.name = nm at hnm hs B
  go_enter Tryd.func24, Tryd.ntmps24
  go_wp2
  go_ret
  exact ⟨rfl, B⟩
set_option maxHeartbeats 1600000 in
theorem qText_most (v : Value) (a : AttrD) (p : Nat) (w : World) (h : AttrAt w v a) (hok : attrOk a = true) (hp : p < a.cuts.length) (hT : Tab w) :
    Calls Tryd.prog 24 #[v, .iface 70 (.agg #[.int .i64 (p : Int)])] w fun e w' => e = .returned (.string (a.name ++ ⟨#[60, 61]⟩ ++ itB (a.cuts.getD p 0))) ∧ Below w.heap.size w w' := by
  have HV : Hid (AttrAt w v a) := h
  have hnm := (word_size (ok_name hok)).2
  obtain ⟨vc, vv, rfl, hc, hv⟩ := h
  obtain ⟨oc, cc, rfl, hcc, hcr⟩ := hc
  obtain ⟨ov, cv, rfl, hvc, hvr⟩ := hv
  have HT : Hid (Tab w) := hT
  have h1 := fun W => as_each_most W (.agg #[.int .i64 (p : Int)])
  have h2 := fun W => as_most W (.agg #[.int .i64 (p : Int)])
  obtain ⟨-, hc3, hri⟩ := ok_cuts hok (by have := ok_kind hok; omega)
  have hx := rise_all hri hp
  obtain ⟨g, o, rfl, hg, hj⟩ := hcr (by omega)
  have hcell := hj p hp
  have hsz := itB_size hx.1 (by omega)
  clear hcr hvr HV hT hj hri hok
  generalize a.cuts.getD p 0 = x at hx hcell hsz
  generalize a.name = nm at hnm
  have e2 : (⟨#[60, 61]⟩ : ByteArray).size = 2 := rfl
  have HSZ1 : Hid (nm.size + (⟨#[60, 61]⟩ : ByteArray).size ≤ 1000000) := by show _ ≤ _; omega
  have HSZ2 : Hid ((nm ++ ⟨#[60, 61]⟩).size + (itB x).size ≤ 1000000) := by show _ ≤ _; rw [ByteArray.size_append]; omega
  clear hsz e2
  obtain ⟨KA, KM, B⟩ := blk_2 46 70 w #[.string nm, .slice (some ⟨g, o, none⟩) a.cuts.length cc, .slice ov a.vals.length cv] #[.int .i64 (p : Int)]
  have hcel2 := (B.cell (p := ⟨g, o + p, none⟩) hg).trans hcell
  clear hcell
  go_enter Tryd.func24, Tryd.ntmps24
  go_wp2_with fail
  have bd : Below ((w.alloc (.cells #[.string nm, .slice (some ⟨g, o, none⟩) a.cuts.length cc, .slice ov a.vals.length cv] 46)).alloc (.cells #[.int .i64 (p : Int)] 70)).heap.size ((w.alloc (.cells #[.string nm, .slice (some ⟨g, o, none⟩) a.cuts.length cc, .slice ov a.vals.length cv] 46)).alloc (.cells #[.int .i64 (p : Int)] 70)) ((w.alloc (.cells #[.string nm, .slice (some ⟨g, o, none⟩) a.cuts.length cc, .slice ov a.vals.length cv] 46)).alloc (.cells #[.int .i64 (p : Int)] 70)).drew := (Below.refl _ _).drew
  refine wp_region_held_drew (S := fun w' => Blk 46 w' w.heap.size #[.string nm, .slice (some ⟨g, o, none⟩) a.cuts.length cc, .slice ov a.vals.length cv] ∧ Blk 70 w' (w.heap.size + 1) #[.int .i64 (p : Int)] ∧ w'.cell? ⟨g, o + p, none⟩ = some (.int .i64 x)) (by kernel_rfl) ⟨KA.below bd, KM.below bd, (bd.cell (p := ⟨g, o + p, none⟩) (World.block_lt_of_cell? _ _ (by rw [hcel2]))).trans hcel2⟩ ?_
  intro hS
  replace B := B.trans (bd.mono B.size)
  clear bd KA KM hcel2
  generalize ((w.alloc (.cells #[.string nm, .slice (some ⟨g, o, none⟩) a.cuts.length cc, .slice ov a.vals.length cv] 46)).alloc (.cells #[.int .i64 (p : Int)] 70)).drew = w3 at B hS ⊢
  refine takeL 0 (.pointer (some ⟨w.heap.size, 0, none⟩)) rfl (by kernel_rfl) (by kernel_rfl) (by kernel_rfl) (fun _ _ _ h => h) (.inl ⟨by rfl, fun w hw => by (unfold execOp; go_simp)⟩) hS ?_
  try simp only [Act.put, List.setIfInBounds_toArray, List.set_cons_zero, List.set_cons_succ]
  refine takeL 1 (.string nm) rfl (by kernel_rfl) (by kernel_rfl) (by kernel_rfl) (fun _ _ _ h => h) (.inl ⟨by rfl, fun w hw => by (have h0 := (hw.1).cell 0; unfold execOp; go_simp)⟩) hS ?_
  try simp only [Act.put, List.setIfInBounds_toArray, List.set_cons_zero, List.set_cons_succ]
  refine takeL 2 (.string (nm ++ ⟨#[60, 61]⟩)) rfl (by kernel_rfl) (by kernel_rfl) (by kernel_rfl) (fun _ _ _ h => h) (yields_cat (by rfl) _ _ rfl (nm) (⟨#[60, 61]⟩) rfl rfl (by first | exact HSZ1.out | exact HSZ2.out)) hS ?_
  try simp only [Act.put, List.setIfInBounds_toArray, List.set_cons_zero, List.set_cons_succ]
  refine takeL 3 (.pointer (some ⟨w.heap.size, 1, none⟩)) rfl (by kernel_rfl) (by kernel_rfl) (by kernel_rfl) (fun _ _ _ h => h) (.inl ⟨by rfl, fun w hw => by (unfold execOp; go_simp)⟩) hS ?_
  try simp only [Act.put, List.setIfInBounds_toArray, List.set_cons_zero, List.set_cons_succ]
  refine takeL 4 (.slice (some ⟨g, o, none⟩) a.cuts.length cc) rfl (by kernel_rfl) (by kernel_rfl) (by kernel_rfl) (fun _ _ _ h => h) (.inl ⟨by rfl, fun w hw => by (have h0 := (hw.1).cell 1; unfold execOp; go_simp)⟩) hS ?_
  try simp only [Act.put, List.setIfInBounds_toArray, List.set_cons_zero, List.set_cons_succ]
  refine takeL 5 (.pointer (some ⟨w.heap.size + 1, 0, none⟩)) rfl (by kernel_rfl) (by kernel_rfl) (by kernel_rfl) (fun _ _ _ h => h) (.inl ⟨by rfl, fun w hw => by (unfold execOp; go_simp)⟩) hS ?_
  try simp only [Act.put, List.setIfInBounds_toArray, List.set_cons_zero, List.set_cons_succ]
  refine takeL 6 (.int .i64 ((p : Int))) rfl (by kernel_rfl) (by kernel_rfl) (by kernel_rfl) (fun _ _ _ h => h) (.inl ⟨by rfl, fun w hw => by (have h0 := (hw.2.1).cell 0; unfold execOp; go_simp)⟩) hS ?_
  try simp only [Act.put, List.setIfInBounds_toArray, List.set_cons_zero, List.set_cons_succ]
  refine takeL 7 (.pointer (some ⟨g, o + p, none⟩)) rfl (by kernel_rfl) (by kernel_rfl) (by kernel_rfl) (fun _ _ _ h => h) (.inl ⟨by rfl, fun w hw => by (unfold execOp; go_simp; all_goals omega)⟩) hS ?_
  try simp only [Act.put, List.setIfInBounds_toArray, List.set_cons_zero, List.set_cons_succ]
  refine takeL 8 (.int .i64 x) rfl (by kernel_rfl) (by kernel_rfl) (by kernel_rfl) (fun _ _ _ h => h) (.inl ⟨by rfl, fun w hw => by (have h0 := hw.2.2; unfold execOp; go_simp)⟩) hS ?_
  try simp only [Act.put, List.setIfInBounds_toArray, List.set_cons_zero, List.set_cons_succ]
  refine nextL 9 rfl (by kernel_rfl) (by rfl) fun K hK => ?_
  have dd := iDigits_any x _ (by omega) (by omega) (HT.out.later B)
  go_simp
  refine dd.mono ?_
  clear dd
  rintro e w9 ⟨rfl, hb⟩
  refine hK _ _ ⟨hS.1.below hb, hS.2.1.below hb, (hb.cell (p := ⟨g, o + p, none⟩) (World.block_lt_of_cell? _ _ (by rw [hS.2.2]))).trans hS.2.2⟩ ?_
  clear hK K hS
  intro hS
  replace B := B.trans (hb.mono B.size)
  clear hb
  refine takeL 10 (.string (nm ++ ⟨#[60, 61]⟩ ++ itB x)) rfl (by kernel_rfl) (by kernel_rfl) (by kernel_rfl) (fun _ _ _ h => h) (yields_cat (by rfl) _ _ rfl (nm ++ ⟨#[60, 61]⟩) (itB x) rfl rfl (by first | exact HSZ1.out | exact HSZ2.out)) hS ?_
  try simp only [Act.put, List.setIfInBounds_toArray, List.set_cons_zero, List.set_cons_succ]
  refine takeL 11 (.string (nm ++ ⟨#[60, 61]⟩ ++ itB x)) rfl (by kernel_rfl) (by kernel_rfl) (by kernel_rfl) (fun _ _ _ h => h) (.inl ⟨by rfl, fun w _ => by rfl⟩) hS ?_
  try simp only [Act.put, List.setIfInBounds_toArray, List.set_cons_zero, List.set_cons_succ]
  refine wpAnyH_done (by kernel_rfl) ?_ _
  clear hS
  go_wp2
  go_ret
  exact ⟨rfl, B⟩
set_option maxHeartbeats 1600000 in
theorem qText_just (v : Value) (a : AttrD) (p : Nat) (w : World) (h : AttrAt w v a) (hok : attrOk a = true) (hp : p < a.vals.length) :
    Calls Tryd.prog 24 #[v, .iface 69 (.agg #[.int .i64 (p : Int)])] w fun e w' => e = .returned (.string (a.name ++ ⟨#[61]⟩ ++ tx a.vals p)) ∧ Below w.heap.size w w' := by
  have HV : Hid (AttrAt w v a) := h
  have hnm := (word_size (ok_name hok)).2
  obtain ⟨vc, vv, rfl, hc, hv⟩ := h
  obtain ⟨oc, cc, rfl, hcc, hcr⟩ := hc
  obtain ⟨ov, cv, rfl, hvc, hvr⟩ := hv
  have h1 := fun W => as_each_just W (.agg #[.int .i64 (p : Int)])
  have h2 := fun W => as_most_just W (.agg #[.int .i64 (p : Int)])
  have h3 := fun W => as_just W (.agg #[.int .i64 (p : Int)])
  obtain ⟨-, -, hv4, hwo⟩ := ok_vals hok (by omega)
  have hsz := (word_size (words_all hwo _ (tx_mem hp))).2
  obtain ⟨g, o, rfl, hg, hj⟩ := hvr (by omega)
  have hcell := hj p hp
  clear hcr hvr HV hj hwo hok
  generalize tx a.vals p = vt at hcell hsz
  generalize a.name = nm at hnm
  have e2 : (⟨#[61]⟩ : ByteArray).size = 1 := rfl
  have HSZ1 : Hid (nm.size + (⟨#[61]⟩ : ByteArray).size ≤ 1000000) := by show _ ≤ _; omega
  have HSZ2 : Hid ((nm ++ ⟨#[61]⟩).size + vt.size ≤ 1000000) := by show _ ≤ _; rw [ByteArray.size_append]; omega
  clear hsz e2
  obtain ⟨KA, KM, B⟩ := blk_2 46 69 w #[.string nm, .slice oc a.cuts.length cc, .slice (some ⟨g, o, none⟩) a.vals.length cv] #[.int .i64 (p : Int)]
  have hcel2 := (B.cell (p := ⟨g, o + p, none⟩) hg).trans hcell
  clear hcell
  go_enter Tryd.func24, Tryd.ntmps24
  go_wp2_with fail
  have bd : Below ((w.alloc (.cells #[.string nm, .slice oc a.cuts.length cc, .slice (some ⟨g, o, none⟩) a.vals.length cv] 46)).alloc (.cells #[.int .i64 (p : Int)] 69)).heap.size ((w.alloc (.cells #[.string nm, .slice oc a.cuts.length cc, .slice (some ⟨g, o, none⟩) a.vals.length cv] 46)).alloc (.cells #[.int .i64 (p : Int)] 69)) ((w.alloc (.cells #[.string nm, .slice oc a.cuts.length cc, .slice (some ⟨g, o, none⟩) a.vals.length cv] 46)).alloc (.cells #[.int .i64 (p : Int)] 69)).drew := (Below.refl _ _).drew
  refine wp_region_held_drew (S := fun w' => Blk 46 w' w.heap.size #[.string nm, .slice oc a.cuts.length cc, .slice (some ⟨g, o, none⟩) a.vals.length cv] ∧ Blk 69 w' (w.heap.size + 1) #[.int .i64 (p : Int)] ∧ w'.cell? ⟨g, o + p, none⟩ = some (.string vt)) (by kernel_rfl) ⟨KA.below bd, KM.below bd, (bd.cell (p := ⟨g, o + p, none⟩) (World.block_lt_of_cell? _ _ (by rw [hcel2]))).trans hcel2⟩ ?_
  intro hS
  replace B := B.trans (bd.mono B.size)
  clear bd KA KM hcel2
  generalize ((w.alloc (.cells #[.string nm, .slice oc a.cuts.length cc, .slice (some ⟨g, o, none⟩) a.vals.length cv] 46)).alloc (.cells #[.int .i64 (p : Int)] 69)).drew = w3 at B hS ⊢
  refine takeL 0 (.pointer (some ⟨w.heap.size, 0, none⟩)) rfl (by kernel_rfl) (by kernel_rfl) (by kernel_rfl) (fun _ _ _ h => h) (.inl ⟨by rfl, fun w hw => by (unfold execOp; go_simp)⟩) hS ?_
  try simp only [Act.put, List.setIfInBounds_toArray, List.set_cons_zero, List.set_cons_succ]
  refine takeL 1 (.string nm) rfl (by kernel_rfl) (by kernel_rfl) (by kernel_rfl) (fun _ _ _ h => h) (.inl ⟨by rfl, fun w hw => by (have h0 := (hw.1).cell 0; unfold execOp; go_simp)⟩) hS ?_
  try simp only [Act.put, List.setIfInBounds_toArray, List.set_cons_zero, List.set_cons_succ]
  refine takeL 2 (.string (nm ++ ⟨#[61]⟩)) rfl (by kernel_rfl) (by kernel_rfl) (by kernel_rfl) (fun _ _ _ h => h) (yields_cat (by rfl) _ _ rfl (nm) (⟨#[61]⟩) rfl rfl (by first | exact HSZ1.out | exact HSZ2.out)) hS ?_
  try simp only [Act.put, List.setIfInBounds_toArray, List.set_cons_zero, List.set_cons_succ]
  refine takeL 3 (.pointer (some ⟨w.heap.size, 2, none⟩)) rfl (by kernel_rfl) (by kernel_rfl) (by kernel_rfl) (fun _ _ _ h => h) (.inl ⟨by rfl, fun w hw => by (unfold execOp; go_simp)⟩) hS ?_
  try simp only [Act.put, List.setIfInBounds_toArray, List.set_cons_zero, List.set_cons_succ]
  refine takeL 4 (.slice (some ⟨g, o, none⟩) a.vals.length cv) rfl (by kernel_rfl) (by kernel_rfl) (by kernel_rfl) (fun _ _ _ h => h) (.inl ⟨by rfl, fun w hw => by (have h0 := (hw.1).cell 2; unfold execOp; go_simp)⟩) hS ?_
  try simp only [Act.put, List.setIfInBounds_toArray, List.set_cons_zero, List.set_cons_succ]
  refine takeL 5 (.pointer (some ⟨w.heap.size + 1, 0, none⟩)) rfl (by kernel_rfl) (by kernel_rfl) (by kernel_rfl) (fun _ _ _ h => h) (.inl ⟨by rfl, fun w hw => by (unfold execOp; go_simp)⟩) hS ?_
  try simp only [Act.put, List.setIfInBounds_toArray, List.set_cons_zero, List.set_cons_succ]
  refine takeL 6 (.int .i64 ((p : Int))) rfl (by kernel_rfl) (by kernel_rfl) (by kernel_rfl) (fun _ _ _ h => h) (.inl ⟨by rfl, fun w hw => by (have h0 := (hw.2.1).cell 0; unfold execOp; go_simp)⟩) hS ?_
  try simp only [Act.put, List.setIfInBounds_toArray, List.set_cons_zero, List.set_cons_succ]
  refine takeL 7 (.pointer (some ⟨g, o + p, none⟩)) rfl (by kernel_rfl) (by kernel_rfl) (by kernel_rfl) (fun _ _ _ h => h) (.inl ⟨by rfl, fun w hw => by (unfold execOp; go_simp; all_goals omega)⟩) hS ?_
  try simp only [Act.put, List.setIfInBounds_toArray, List.set_cons_zero, List.set_cons_succ]
  refine takeL 8 (.string vt) rfl (by kernel_rfl) (by kernel_rfl) (by kernel_rfl) (fun _ _ _ h => h) (.inl ⟨by rfl, fun w hw => by (have h0 := hw.2.2; unfold execOp; go_simp)⟩) hS ?_
  try simp only [Act.put, List.setIfInBounds_toArray, List.set_cons_zero, List.set_cons_succ]
  refine takeL 9 (.string (nm ++ ⟨#[61]⟩ ++ vt)) rfl (by kernel_rfl) (by kernel_rfl) (by kernel_rfl) (fun _ _ _ h => h) (yields_cat (by rfl) _ _ rfl (nm ++ ⟨#[61]⟩) (vt) rfl rfl (by first | exact HSZ1.out | exact HSZ2.out)) hS ?_
  try simp only [Act.put, List.setIfInBounds_toArray, List.set_cons_zero, List.set_cons_succ]
  refine takeL 10 (.string (nm ++ ⟨#[61]⟩ ++ vt)) rfl (by kernel_rfl) (by kernel_rfl) (by kernel_rfl) (fun _ _ _ h => h) (.inl ⟨by rfl, fun w _ => by rfl⟩) hS ?_
  try simp only [Act.put, List.setIfInBounds_toArray, List.set_cons_zero, List.set_cons_succ]
  refine wpAnyH_done (by kernel_rfl) ?_ _
  clear hS
  go_wp2
  go_ret
  exact ⟨rfl, B⟩
end Go.Proofs.YtfflodcapcamcaaDoor
/- The text of a question, by the program. -/
namespace Go.Proofs.YtfflodcapcamcaaDoor
open Go.RowKit
set_option maxRecDepth 100000
set_option linter.unusedSimpArgs false
set_option maxHeartbeats 1600000 in
theorem implForkText_any (vs : Value) (s : SchemaD) (f : ForkD) (w : World) (hs : SchemaAt w vs s) (hn : okSch s) (hT : Tab w) :
    Calls Tryd.prog 12 #[vs, forkV f] w fun e w' => e = .returned (.string (forkText s f)) ∧ Below w.heap.size w w' := by
  have HS : Hid (∀ W, Below w.heap.size w W → SchemaAt W vs s) := fun W h => hs.later h
  have HT : Hid (Tab w) := hT
  have cq := fun W (hW : Below w.heap.size w W) => questionOf_any vs s f W (hs.later hW) hn
  have CQ : Hid _ := cq
  unfold forkV at CQ ⊢
  clear cq hT
  obtain ⟨va, vc, rfl, ra, -⟩ := hs
  obtain ⟨oa, ka, rfl, -, -⟩ := id ra
  have la := hn.attrs
  clear ra
  obtain ⟨KS, KF, B⟩ := blk_2 27 36 w #[.slice oa s.attrs.length ka, vc] #[.int .i64 f.attr, .int .i64 f.pos]
  have cc := CQ.out _ B
  clear CQ hn
  cases hk : forkOk s f with
  | false =>
    have HE : Hid (forkText s f = ⟨#[]⟩) := text_no hk
    rw [hk] at cc
    clear hk
    go_enter Tryd.func12, Tryd.ntmps12
    go_wp2_with fail
    refine cc.mono ?_
    clear cc
    rintro e w1 ⟨rfl, hb⟩
    replace B := B.trans (hb.mono B.size)
    go_wp2
    go_ret
    exact ⟨by rw [HE.out]; rfl, B⟩
  | true =>
    rw [hk] at cc
    have HQ : Hid (forkOk s f = true) := hk
    obtain ⟨-, ⟨k, hfa, hlt, hat⟩, -, -⟩ := fork_parts hk
    have HAT : Hid (forkAttr s f = ad s.attrs k) := hat
    clear hk hat
    have HFV : Hid (f.attr = (k : Int)) := hfa
    rw [hfa] at cc KF B ⊢
    rw [hfa] at KS
    clear hfa
    go_enter Tryd.func12, Tryd.ntmps12
    go_wp2_with fail
    refine cc.mono ?_
    clear cc
    rintro e w1 ⟨rfl, hb⟩
    replace B := B.trans (hb.mono B.size)
    replace KS := KS.below hb
    replace KF := KF.below hb
    clear hb
    obtain ⟨ga, fa, y1, z1, y2, z2, rfl, hat⟩ := attr_at (HS.out _ B) hlt
    obtain ⟨c0, c1, c2, hA⟩ := hat _ (Below.refl _ _)
    have kS0 : w1.cell? ⟨w.heap.size, 0, none⟩ = some (.slice (some ⟨ga, fa, none⟩) s.attrs.length ka) := KS.cell 0
    have kF0 : w1.cell? ⟨w.heap.size + 1, 0, none⟩ = some (.int .i64 (k : Int)) := KF.cell 0
    have HTT := HT.out.later B
    have hok : attrOk (ad s.attrs k) = true := by have h2 := fork_parts HQ.out; exact sch_attr h2.1 hlt
    have hqv := questionV_yes HQ.out
    clear hat KS KF HS HT
    by_cases hp : f.pos = -1
    · rw [if_pos hp] at hqv
      have HE : Hid (forkText s f = (ad s.attrs k).name ++ ⟨#[42]⟩) := text_each HQ.out HAT.out hp
      generalize bins (forkAttr s f) = nb at hqv
      have cc := qText_each _ _ nb _ hA hok
      clear hp HTT hok hA
      generalize questionV s f = qv at hqv ⊢
      subst hqv
      go_wp2_with fail
      refine cc.mono ?_
      clear cc
      rintro e w2 ⟨rfl, hb⟩
      replace B := B.trans (hb.mono B.size)
      go_wp2
      go_ret
      exact ⟨by rw [HE.out]; rfl, B⟩
    obtain ⟨p, hpp, hpw, -⟩ := pos_place HQ.out HAT.out hp
    have hkd := ok_kind hok
    by_cases hc : 0 < (ad s.attrs k).cuts.length
    · have HE : Hid (forkText s f = (ad s.attrs k).name ++ ⟨#[60, 61]⟩ ++ itB ((ad s.attrs k).cuts.getD p 0)) := by show _ = _; rw [text_most HQ.out HAT.out hp hc, hpp]; rfl
      rw [if_neg hp, HAT.out, if_neg (show ¬ 0 < (ad s.attrs k).vals.length by omega), hpp] at hqv
      have cc := qText_most _ _ p _ hA hok (by unfold wayN at hpw; rw [if_neg (by omega)] at hpw; exact hpw) HTT
      clear hp HTT hok hA hkd hpw hc
      generalize questionV s f = qv at hqv ⊢
      subst hqv
      have HPP : Hid (f.pos = (p : Int)) := hpp
      clear hpp
      go_wp2_with fail
      refine cc.mono ?_
      clear cc
      rintro e w2 ⟨rfl, hb⟩
      replace B := B.trans (hb.mono B.size)
      go_wp2
      go_ret
      exact ⟨by rw [HE.out]; rfl, B⟩
    · have HE : Hid (forkText s f = (ad s.attrs k).name ++ ⟨#[61]⟩ ++ tx (ad s.attrs k).vals p) := by show _ = _; rw [text_just HQ.out HAT.out hp hc, hpp]; rfl
      rw [if_neg hp, HAT.out, if_pos (show 0 < (ad s.attrs k).vals.length by omega), hpp] at hqv
      have cc := qText_just _ _ p _ hA hok (by unfold wayN at hpw; rw [if_pos (by omega)] at hpw; exact hpw)
      clear hp HTT hok hA hkd hpw hc
      generalize questionV s f = qv at hqv ⊢
      subst hqv
      have HPP : Hid (f.pos = (p : Int)) := hpp
      clear hpp
      go_wp2_with fail
      refine cc.mono ?_
      clear cc
      rintro e w2 ⟨rfl, hb⟩
      replace B := B.trans (hb.mono B.size)
      go_wp2
      go_ret
      exact ⟨by rw [HE.out]; rfl, B⟩
end Go.Proofs.YtfflodcapcamcaaDoor
