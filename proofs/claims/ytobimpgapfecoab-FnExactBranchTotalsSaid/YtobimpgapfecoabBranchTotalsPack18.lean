/- Texts of this claim, put together: part 18. -/
import Derived.Test.YtobimpgapfecoabBranchTotalsPack14
import Derived.Test.YtobimpgapfecoabBranchTotalsPack17
import Derived.Test.YtobimpgapfecoabBranchTotalsPack15
import Derived.Test.YtobimpgapfecoabBranchTotalsPack10
import Derived.Test.YtobimpgapfecoabBranchTotalsPack13
import Derived.Test.YtobimpgapfecoabBranchTotalsPack9
/- The question that is asked, by the program. -/
namespace Go.Proofs.Ytobimpgapfecoab
open Go.RowKit
set_option maxRecDepth 100000
set_option linter.unusedSimpArgs false
/-- The question as the program holds it. -/
def questionV (s : SchemaD) (f : ForkD) : Value :=
  if forkOk s f = true then
    (if f.pos = -1 then .iface 113 (.agg #[.int .i64 (bins (forkAttr s f))]) else if 0 < (forkAttr s f).vals.length then .iface 115 (.agg #[.int .i64 f.pos]) else .iface 116 (.agg #[.int .i64 f.pos]))
  else .nilIface
theorem questionV_no {s : SchemaD} {f : ForkD} (h : forkOk s f = false) : questionV s f = .nilIface := by unfold questionV; rw [if_neg (by rw [h]; exact Bool.false_ne_true)]
theorem questionV_yes {s : SchemaD} {f : ForkD} (h : forkOk s f = true) : questionV s f = if f.pos = -1 then .iface 113 (.agg #[.int .i64 (bins (forkAttr s f))]) else if 0 < (forkAttr s f).vals.length then .iface 115 (.agg #[.int .i64 f.pos]) else .iface 116 (.agg #[.int .i64 f.pos]) := by unfold questionV; exact if_pos h
theorem way_le {a : AttrD} (h : okA a) : (wayN a : Int) ≤ 1099511627776 := by
  have h1 := h.cuts
  have h2 := h.vals.1
  unfold wayN
  split <;> omega
set_option maxHeartbeats 3200000 in
theorem questionOf_any (vs : Value) (s : SchemaD) (f : ForkD) (w : World) (hs : SchemaAt w vs s) (hn : okSch s) :
    Calls Try.prog 68 #[vs, forkV f] w fun e w' => e = .returned (.tuple #[questionV s f, .bool (forkOk s f)]) ∧ Below w.heap.size w w' := by
  unfold forkV
  have HS : Hid (∀ W, Below w.heap.size w W → SchemaAt W vs s) := fun W h => hs.later h
  have HOK : Hid (okSch s) := hn
  obtain ⟨va, vc, rfl, ra, -⟩ := hs
  obtain ⟨oa, ka, rfl, -, -⟩ := id ra
  clear ra hn
  have la := HOK.out.attrs
  obtain ⟨KS, KF, B⟩ := blk_2 40 60 w #[.slice oa s.attrs.length ka, vc] #[.int .i64 f.attr, .int .i64 f.pos]
  have cc := implSchemaOk_any _ s _ (HS.out _ B) HOK.out
  cases hk : schemaOk s with
  | false =>
    have HE : Hid (forkOk s f = false) := by show _ = _; unfold forkOk; rw [hk]; rfl
    rw [hk] at cc
    clear hk
    go_enter Try.func68, Try.ntmps68
    have kS0 : ((w.alloc (.cells #[.slice oa s.attrs.length ka, vc] 40)).alloc (.cells #[.int .i64 f.attr, .int .i64 f.pos] 60)).cell? ⟨w.heap.size, 0, none⟩ = some (.slice oa s.attrs.length ka) := KS.cell 0
    have kS1 : ((w.alloc (.cells #[.slice oa s.attrs.length ka, vc] 40)).alloc (.cells #[.int .i64 f.attr, .int .i64 f.pos] 60)).cell? ⟨w.heap.size, 1, none⟩ = some (vc) := KS.cell 1
    have kF0 : ((w.alloc (.cells #[.slice oa s.attrs.length ka, vc] 40)).alloc (.cells #[.int .i64 f.attr, .int .i64 f.pos] 60)).cell? ⟨w.heap.size + 1, 0, none⟩ = some (.int .i64 f.attr) := KF.cell 0
    have kF1 : ((w.alloc (.cells #[.slice oa s.attrs.length ka, vc] 40)).alloc (.cells #[.int .i64 f.attr, .int .i64 f.pos] 60)).cell? ⟨w.heap.size + 1, 1, none⟩ = some (.int .i64 f.pos) := KF.cell 1
    go_wp2_with fail
    refine cc.mono ?_
    clear cc
    clear kS0 kS1 kF0 kF1
    rintro e w1 ⟨rfl, hb⟩
    replace KS := KS.below hb
    replace KF := KF.below hb
    replace B := B.trans (hb.mono B.size)
    go_wp2
    go_ret2
    exact ⟨by rw [questionV_no HE.out, HE.out]; rfl, B⟩
  | true =>
    have HX : Hid (forkOk s f = (decide (0 ≤ f.attr ∧ f.attr ≤ (s.attrs.length : Int) - 1) && decide (-1 ≤ f.pos ∧ f.pos ≤ forkTop s f))) := by show _ = _; unfold forkOk; rw [hk]; rfl
    rw [hk] at cc
    have HAO : Hid (∀ j, j < s.attrs.length → attrOk (ad s.attrs j) = true) := fun j hj => sch_attr hk hj
    clear hk
    by_cases ha0 : f.attr < 0
    · have HE : Hid (forkOk s f = false) := by show _ = _; rw [HX.out, decide_eq_false (by omega)]; rfl
      clear HX HAO
      go_enter Try.func68, Try.ntmps68
      have kS0 : ((w.alloc (.cells #[.slice oa s.attrs.length ka, vc] 40)).alloc (.cells #[.int .i64 f.attr, .int .i64 f.pos] 60)).cell? ⟨w.heap.size, 0, none⟩ = some (.slice oa s.attrs.length ka) := KS.cell 0
      have kS1 : ((w.alloc (.cells #[.slice oa s.attrs.length ka, vc] 40)).alloc (.cells #[.int .i64 f.attr, .int .i64 f.pos] 60)).cell? ⟨w.heap.size, 1, none⟩ = some (vc) := KS.cell 1
      have kF0 : ((w.alloc (.cells #[.slice oa s.attrs.length ka, vc] 40)).alloc (.cells #[.int .i64 f.attr, .int .i64 f.pos] 60)).cell? ⟨w.heap.size + 1, 0, none⟩ = some (.int .i64 f.attr) := KF.cell 0
      have kF1 : ((w.alloc (.cells #[.slice oa s.attrs.length ka, vc] 40)).alloc (.cells #[.int .i64 f.attr, .int .i64 f.pos] 60)).cell? ⟨w.heap.size + 1, 1, none⟩ = some (.int .i64 f.pos) := KF.cell 1
      go_wp2_with fail
      refine cc.mono ?_
      clear cc
      clear kS0 kS1 kF0 kF1
      rintro e w1 ⟨rfl, hb⟩
      replace KS := KS.below hb
      replace KF := KF.below hb
      replace B := B.trans (hb.mono B.size)
      clear hb
      have kS0 : w1.cell? ⟨w.heap.size, 0, none⟩ = some (.slice oa s.attrs.length ka) := KS.cell 0
      have kS1 : w1.cell? ⟨w.heap.size, 1, none⟩ = some (vc) := KS.cell 1
      have kF0 : w1.cell? ⟨w.heap.size + 1, 0, none⟩ = some (.int .i64 f.attr) := KF.cell 0
      have kF1 : w1.cell? ⟨w.heap.size + 1, 1, none⟩ = some (.int .i64 f.pos) := KF.cell 1
      go_wp2
      go_ret2
      exact ⟨by rw [questionV_no HE.out, HE.out]; rfl, B⟩
    by_cases ha1 : (s.attrs.length : Int) ≤ f.attr
    · have HE : Hid (forkOk s f = false) := by show _ = _; rw [HX.out, decide_eq_false (by omega)]; rfl
      clear HX HAO
      go_enter Try.func68, Try.ntmps68
      have kS0 : ((w.alloc (.cells #[.slice oa s.attrs.length ka, vc] 40)).alloc (.cells #[.int .i64 f.attr, .int .i64 f.pos] 60)).cell? ⟨w.heap.size, 0, none⟩ = some (.slice oa s.attrs.length ka) := KS.cell 0
      have kS1 : ((w.alloc (.cells #[.slice oa s.attrs.length ka, vc] 40)).alloc (.cells #[.int .i64 f.attr, .int .i64 f.pos] 60)).cell? ⟨w.heap.size, 1, none⟩ = some (vc) := KS.cell 1
      have kF0 : ((w.alloc (.cells #[.slice oa s.attrs.length ka, vc] 40)).alloc (.cells #[.int .i64 f.attr, .int .i64 f.pos] 60)).cell? ⟨w.heap.size + 1, 0, none⟩ = some (.int .i64 f.attr) := KF.cell 0
      have kF1 : ((w.alloc (.cells #[.slice oa s.attrs.length ka, vc] 40)).alloc (.cells #[.int .i64 f.attr, .int .i64 f.pos] 60)).cell? ⟨w.heap.size + 1, 1, none⟩ = some (.int .i64 f.pos) := KF.cell 1
      go_wp2_with fail
      refine cc.mono ?_
      clear cc
      clear kS0 kS1 kF0 kF1
      rintro e w1 ⟨rfl, hb⟩
      replace KS := KS.below hb
      replace KF := KF.below hb
      replace B := B.trans (hb.mono B.size)
      clear hb
      have kS0 : w1.cell? ⟨w.heap.size, 0, none⟩ = some (.slice oa s.attrs.length ka) := KS.cell 0
      have kS1 : w1.cell? ⟨w.heap.size, 1, none⟩ = some (vc) := KS.cell 1
      have kF0 : w1.cell? ⟨w.heap.size + 1, 0, none⟩ = some (.int .i64 f.attr) := KF.cell 0
      have kF1 : w1.cell? ⟨w.heap.size + 1, 1, none⟩ = some (.int .i64 f.pos) := KF.cell 1
      go_wp2
      go_ret2
      exact ⟨by rw [questionV_no HE.out, HE.out]; rfl, B⟩
    have HX2 : Hid (forkOk s f = decide (-1 ≤ f.pos ∧ f.pos ≤ forkTop s f)) := by show _ = _; rw [HX.out, decide_eq_true (by omega), Bool.true_and]
    clear HX
    obtain ⟨k, hk⟩ := Int.eq_ofNat_of_zero_le (Int.not_lt.1 ha0)
    have hlt : k < s.attrs.length := by omega
    have HFA : Hid (forkAttr s f = ad s.attrs k) := by show _ = _; unfold forkAttr; rw [hk]; rfl
    have HOA : Hid (attrOk (ad s.attrs k) = true) := HAO.out k hlt
    clear HAO
    have HT : Hid (forkTop s f = (wayN (ad s.attrs k) : Int) - 1) := by show _ = _; rw [top_eq (by rw [HFA.out]; exact HOA.out), HFA.out]
    have HQ : Hid (forkOk s f = true → questionV s f = if f.pos = -1 then .iface 113 (.agg #[.int .i64 (bins (ad s.attrs k))]) else if 0 < (ad s.attrs k).vals.length then .iface 115 (.agg #[.int .i64 f.pos]) else .iface 116 (.agg #[.int .i64 f.pos])) := fun h => by rw [questionV_yes h, HFA.out]
    have HX3 : Hid (forkOk s f = decide (-1 ≤ f.pos ∧ f.pos < (wayN (ad s.attrs k) : Int))) := by show _ = _; rw [HX2.out, HT.out]; exact decide_eq_decide.2 (by omega)
    clear HX2 HT HFA
    have hw : (wayN (ad s.attrs k) : Int) ≤ 1099511627776 := way_le (HOK.out.each _ (ad_mem hlt))
    obtain ⟨nw, hnw⟩ : ∃ nw, wayN (ad s.attrs k) = nw := ⟨_, rfl⟩
    rw [hnw] at HX3 hw
    have HKK : Hid (f.attr = (k : Int)) := hk
    obtain ⟨fv, hfv⟩ : ∃ fv, f.attr = fv := ⟨_, rfl⟩
    rw [hfv] at hk KS KF B cc HKK ha0 ha1
    rw [hfv]
    subst hk
    go_enter Try.func68, Try.ntmps68
    have kS0 : ((w.alloc (.cells #[.slice oa s.attrs.length ka, vc] 40)).alloc (.cells #[.int .i64 (k : Int), .int .i64 f.pos] 60)).cell? ⟨w.heap.size, 0, none⟩ = some (.slice oa s.attrs.length ka) := KS.cell 0
    have kS1 : ((w.alloc (.cells #[.slice oa s.attrs.length ka, vc] 40)).alloc (.cells #[.int .i64 (k : Int), .int .i64 f.pos] 60)).cell? ⟨w.heap.size, 1, none⟩ = some (vc) := KS.cell 1
    have kF0 : ((w.alloc (.cells #[.slice oa s.attrs.length ka, vc] 40)).alloc (.cells #[.int .i64 (k : Int), .int .i64 f.pos] 60)).cell? ⟨w.heap.size + 1, 0, none⟩ = some (.int .i64 (k : Int)) := KF.cell 0
    have kF1 : ((w.alloc (.cells #[.slice oa s.attrs.length ka, vc] 40)).alloc (.cells #[.int .i64 (k : Int), .int .i64 f.pos] 60)).cell? ⟨w.heap.size + 1, 1, none⟩ = some (.int .i64 f.pos) := KF.cell 1
    go_wp2_with fail
    refine cc.mono ?_
    clear cc
    clear kS0 kS1 kF0 kF1
    rintro e w1 ⟨rfl, hb⟩
    replace KS := KS.below hb
    replace KF := KF.below hb
    replace B := B.trans (hb.mono B.size)
    clear hb
    obtain ⟨ga, fa, y1, z1, y2, z2, rfl, hat⟩ := attr_at (HS.out _ B) hlt
    have HAT : Hid _ := hat
    clear hat
    obtain ⟨c0, c1, c2, -⟩ := HAT.out _ (Below.refl _ _)
    have HB : Hid (okA (ad s.attrs k)) := HOK.out.each _ (ad_mem hlt)
    have kS0 : w1.cell? ⟨w.heap.size, 0, none⟩ = some (.slice (some ⟨ga, fa, none⟩) s.attrs.length ka) := KS.cell 0
    have kS1 : w1.cell? ⟨w.heap.size, 1, none⟩ = some (vc) := KS.cell 1
    have kF0 : w1.cell? ⟨w.heap.size + 1, 0, none⟩ = some (.int .i64 (k : Int)) := KF.cell 0
    have kF1 : w1.cell? ⟨w.heap.size + 1, 1, none⟩ = some (.int .i64 f.pos) := KF.cell 1
    go_wp2_with fail
    clear kS0 kS1 kF0 kF1
    clear c0 c1 c2
    have KA := Blk.new 89 w1 #[.string (ad s.attrs k).name, .slice y1 (ad s.attrs k).cuts.length z1, .slice y2 (ad s.attrs k).vals.length z2]
    have bA : Below w1.heap.size w1 (w1.alloc (.cells #[.string (ad s.attrs k).name, .slice y1 (ad s.attrs k).cuts.length z1, .slice y2 (ad s.attrs k).vals.length z2] 89)) := (Below.refl _ _).alloc (Nat.le_refl _) _
    have HAT2 : Hid (∀ W, Below (w1.alloc (.cells #[.string (ad s.attrs k).name, .slice y1 (ad s.attrs k).cuts.length z1, .slice y2 (ad s.attrs k).vals.length z2] 89)).heap.size (w1.alloc (.cells #[.string (ad s.attrs k).name, .slice y1 (ad s.attrs k).cuts.length z1, .slice y2 (ad s.attrs k).vals.length z2] 89)) W → AttrAt W (.agg #[.string (ad s.attrs k).name, .slice y1 (ad s.attrs k).cuts.length z1, .slice y2 (ad s.attrs k).vals.length z2]) (ad s.attrs k)) := fun W h => (HAT.out W (bA.trans (h.mono (by simp)))).2.2.2
    clear HAT
    replace KS := KS.below bA
    replace KF := KF.below bA
    replace B := B.trans (bA.mono B.size)
    clear bA
    generalize w1.alloc (.cells #[.string (ad s.attrs k).name, .slice y1 (ad s.attrs k).cuts.length z1, .slice y2 (ad s.attrs k).vals.length z2] 89) = w2 at KS KF KA B HAT2
    generalize w1.heap.size = ba at KA ⊢
    clear KS HS HOK ha0 ha1
    by_cases hp0 : f.pos < -1
    · have HE : Hid (forkOk s f = false) := by show _ = _; rw [HX3.out, decide_eq_false (by omega)]
      clear HX3 HQ
      have bd : Below w2.heap.size w2 w2.drew := below_drewN (Below.refl _ _) 1
      refine wp_region_held_drew (S := fun w' => Blk 60 w' (w.heap.size + 1) #[.int .i64 (k : Int), .int .i64 f.pos] ∧ Blk 89 w' ba #[.string (ad s.attrs k).name, .slice y1 (ad s.attrs k).cuts.length z1, .slice y2 (ad s.attrs k).vals.length z2]) (by kernel_rfl) ⟨KF.below bd, KA.below bd⟩ ?_
      intro hS
      replace KF := KF.below bd
      replace B := B.trans (bd.mono B.size)
      replace KA := KA.below bd
      replace HAT2 : Hid (∀ W, Below w2.drew.heap.size w2.drew W → AttrAt W (.agg #[.string (ad s.attrs k).name, .slice y1 (ad s.attrs k).cuts.length z1, .slice y2 (ad s.attrs k).vals.length z2]) (ad s.attrs k)) := fun W h => HAT2.out W (bd.trans (h.mono bd.size))
      clear bd
      generalize w2.drew = w3 at KF KA B HAT2 hS ⊢
      refine takeL 0 (.pointer (some ⟨w.heap.size + 1, 1, none⟩)) rfl (by kernel_rfl) (by kernel_rfl) (by kernel_rfl) (fun _ _ _ h => h) (.inl ⟨by rfl, fun w hw => by (unfold execOp; go_simp)⟩) hS ?_
      try simp only [Act.put, List.setIfInBounds_toArray, List.set_cons_zero, List.set_cons_succ]
      refine takeL 1 (.int .i64 f.pos) rfl (by kernel_rfl) (by kernel_rfl) (by kernel_rfl) (fun _ _ _ h => h) (.inl ⟨by rfl, fun w hw => by (have h0 := (hw.1).cell 1; unfold execOp; go_simp)⟩) hS ?_
      try simp only [Act.put, List.setIfInBounds_toArray, List.set_cons_zero, List.set_cons_succ]
      refine takeL 2 (.bool true) rfl (by kernel_rfl) (by kernel_rfl) (by kernel_rfl) (fun _ _ _ h => h) (.inl ⟨by rfl, fun w hw => by (unfold execOp; go_simp)⟩) hS ?_
      try simp only [Act.put, List.setIfInBounds_toArray, List.set_cons_zero, List.set_cons_succ]
      refine takeL 3 (.bool true) rfl (by kernel_rfl) (by kernel_rfl) (by kernel_rfl) (fun _ _ _ h => h) (.inl ⟨by rfl, fun w _ => by rfl⟩) hS ?_
      try simp only [Act.put, List.setIfInBounds_toArray, List.set_cons_zero, List.set_cons_succ]
      refine takeL 4 (undef) rfl (by kernel_rfl) (by kernel_rfl) (by kernel_rfl) (fun _ _ _ h => h) (.inr ⟨by rfl, rfl⟩) hS ?_
      try simp only [Act.put, List.setIfInBounds_toArray, List.set_cons_zero, List.set_cons_succ]
      refine takeL 5 (undef) rfl (by kernel_rfl) (by kernel_rfl) (by kernel_rfl) (fun _ _ _ h => h) (.inr ⟨by rfl, rfl⟩) hS ?_
      try simp only [Act.put, List.setIfInBounds_toArray, List.set_cons_zero, List.set_cons_succ]
      refine takeL 6 (undef) rfl (by kernel_rfl) (by kernel_rfl) (by kernel_rfl) (fun _ _ _ h => h) (.inr ⟨by rfl, rfl⟩) hS ?_
      try simp only [Act.put, List.setIfInBounds_toArray, List.set_cons_zero, List.set_cons_succ]
      refine takeL 7 (undef) rfl (by kernel_rfl) (by kernel_rfl) (by kernel_rfl) (fun _ _ _ h => h) (.inr ⟨by rfl, rfl⟩) hS ?_
      try simp only [Act.put, List.setIfInBounds_toArray, List.set_cons_zero, List.set_cons_succ]
      refine takeL 8 (undef) rfl (by kernel_rfl) (by kernel_rfl) (by kernel_rfl) (fun _ _ _ h => h) (.inr ⟨by rfl, rfl⟩) hS ?_
      try simp only [Act.put, List.setIfInBounds_toArray, List.set_cons_zero, List.set_cons_succ]
      refine takeL 9 (.bool true) rfl (by kernel_rfl) (by kernel_rfl) (by kernel_rfl) (fun _ _ _ h => h) (.inl ⟨by rfl, fun w _ => by rfl⟩) hS ?_
      try simp only [Act.put, List.setIfInBounds_toArray, List.set_cons_zero, List.set_cons_succ]
      refine wpAnyH_done (by kernel_rfl) ?_ _
      clear hS
      go_wp2
      go_ret2
      exact ⟨by rw [questionV_no HE.out, HE.out]; rfl, B⟩
    by_cases hp1 : (nw : Int) ≤ f.pos
    · have HE : Hid (forkOk s f = false) := by show _ = _; rw [HX3.out, decide_eq_false (by omega)]
      clear HX3 HQ
      have bd : Below w2.heap.size w2 w2.drew := below_drewN (Below.refl _ _) 1
      refine wp_region_held_drew (S := fun w' => Blk 60 w' (w.heap.size + 1) #[.int .i64 (k : Int), .int .i64 f.pos] ∧ Blk 89 w' ba #[.string (ad s.attrs k).name, .slice y1 (ad s.attrs k).cuts.length z1, .slice y2 (ad s.attrs k).vals.length z2]) (by kernel_rfl) ⟨KF.below bd, KA.below bd⟩ ?_
      intro hS
      have cT := twoWays_any _ _ _ (HAT2.out _ bd) HOA.out
      rw [hnw] at cT
      replace KF := KF.below bd
      replace B := B.trans (bd.mono B.size)
      replace KA := KA.below bd
      replace HAT2 : Hid (∀ W, Below w2.drew.heap.size w2.drew W → AttrAt W (.agg #[.string (ad s.attrs k).name, .slice y1 (ad s.attrs k).cuts.length z1, .slice y2 (ad s.attrs k).vals.length z2]) (ad s.attrs k)) := fun W h => HAT2.out W (bd.trans (h.mono bd.size))
      clear bd
      generalize w2.drew = w3 at KF KA B HAT2 hS cT ⊢
      refine takeL 0 (.pointer (some ⟨w.heap.size + 1, 1, none⟩)) rfl (by kernel_rfl) (by kernel_rfl) (by kernel_rfl) (fun _ _ _ h => h) (.inl ⟨by rfl, fun w hw => by (unfold execOp; go_simp)⟩) hS ?_
      try simp only [Act.put, List.setIfInBounds_toArray, List.set_cons_zero, List.set_cons_succ]
      refine takeL 1 (.int .i64 f.pos) rfl (by kernel_rfl) (by kernel_rfl) (by kernel_rfl) (fun _ _ _ h => h) (.inl ⟨by rfl, fun w hw => by (have h0 := (hw.1).cell 1; unfold execOp; go_simp)⟩) hS ?_
      try simp only [Act.put, List.setIfInBounds_toArray, List.set_cons_zero, List.set_cons_succ]
      refine takeL 2 (.bool false) rfl (by kernel_rfl) (by kernel_rfl) (by kernel_rfl) (fun _ _ _ h => h) (.inl ⟨by rfl, fun w hw => by (unfold execOp; go_simp)⟩) hS ?_
      try simp only [Act.put, List.setIfInBounds_toArray, List.set_cons_zero, List.set_cons_succ]
      refine takeL 3 (.bool false) rfl (by kernel_rfl) (by kernel_rfl) (by kernel_rfl) (fun _ _ _ h => h) (.inl ⟨by rfl, fun w _ => by rfl⟩) hS ?_
      try simp only [Act.put, List.setIfInBounds_toArray, List.set_cons_zero, List.set_cons_succ]
      refine takeL 4 (.pointer (some ⟨w.heap.size + 1, 1, none⟩)) rfl (by kernel_rfl) (by kernel_rfl) (by kernel_rfl) (fun _ _ _ h => h) (.inl ⟨by rfl, fun w hw => by (unfold execOp; go_simp)⟩) hS ?_
      try simp only [Act.put, List.setIfInBounds_toArray, List.set_cons_zero, List.set_cons_succ]
      refine takeL 5 (.int .i64 f.pos) rfl (by kernel_rfl) (by kernel_rfl) (by kernel_rfl) (fun _ _ _ h => h) (.inl ⟨by rfl, fun w hw => by (have h0 := (hw.1).cell 1; unfold execOp; go_simp)⟩) hS ?_
      try simp only [Act.put, List.setIfInBounds_toArray, List.set_cons_zero, List.set_cons_succ]
      refine takeL 6 (.agg #[.string (ad s.attrs k).name, .slice y1 (ad s.attrs k).cuts.length z1, .slice y2 (ad s.attrs k).vals.length z2]) rfl (by kernel_rfl) (by kernel_rfl) (by kernel_rfl) (fun _ _ _ h => h) (yields_row Try.underlying89 (by kernel_rfl) (by rfl) _ rfl _ rfl (fun _ h => h.2)) hS ?_
      try simp only [Act.put, List.setIfInBounds_toArray, List.set_cons_zero, List.set_cons_succ]
      refine nextL 7 rfl (by kernel_rfl) (by rfl) fun K hK => ?_
      go_simp
      refine cT.mono ?_
      clear cT
      rintro e w4 ⟨rfl, hb⟩
      replace hS : (fun w' => Blk 60 w' (w.heap.size + 1) #[.int .i64 (k : Int), .int .i64 f.pos] ∧ Blk 89 w' ba #[.string (ad s.attrs k).name, .slice y1 (ad s.attrs k).cuts.length z1, .slice y2 (ad s.attrs k).vals.length z2]) w4 := ⟨hS.1.below hb, hS.2.below hb⟩
      replace HAT2 : Hid (∀ W, Below w4.heap.size w4 W → AttrAt W (.agg #[.string (ad s.attrs k).name, .slice y1 (ad s.attrs k).cuts.length z1, .slice y2 (ad s.attrs k).vals.length z2]) (ad s.attrs k)) := fun W h => HAT2.out W (hb.trans (h.mono hb.size))
      replace B := B.trans (hb.mono B.size)
      clear KF KA hb
      refine hK _ _ hS ?_
      clear hK K hS
      intro hS
      refine takeL 8 (.bool true) rfl (by kernel_rfl) (by kernel_rfl) (by kernel_rfl) (fun _ _ _ h => h) (.inl ⟨by rfl, fun w hw => by (unfold execOp; go_simp)⟩) hS ?_
      try simp only [Act.put, List.setIfInBounds_toArray, List.set_cons_zero, List.set_cons_succ]
      refine takeL 9 (.bool true) rfl (by kernel_rfl) (by kernel_rfl) (by kernel_rfl) (fun _ _ _ h => h) (.inl ⟨by rfl, fun w _ => by rfl⟩) hS ?_
      try simp only [Act.put, List.setIfInBounds_toArray, List.set_cons_zero, List.set_cons_succ]
      refine wpAnyH_done (by kernel_rfl) ?_ _
      obtain ⟨KF, KA⟩ := hS
      go_wp2
      go_ret2
      exact ⟨by rw [questionV_no HE.out, HE.out]; rfl, B⟩
    have HE : Hid (forkOk s f = true) := by show _ = _; rw [HX3.out, decide_eq_true (by omega)]
    have HQ2 : Hid _ := HQ.out HE.out
    clear HQ HX3
    have bd : Below w2.heap.size w2 w2.drew := below_drewN (Below.refl _ _) 1
    refine wp_region_held_drew (S := fun w' => Blk 60 w' (w.heap.size + 1) #[.int .i64 (k : Int), .int .i64 f.pos] ∧ Blk 89 w' ba #[.string (ad s.attrs k).name, .slice y1 (ad s.attrs k).cuts.length z1, .slice y2 (ad s.attrs k).vals.length z2]) (by kernel_rfl) ⟨KF.below bd, KA.below bd⟩ ?_
    intro hS
    have cT := twoWays_any _ _ _ (HAT2.out _ bd) HOA.out
    rw [hnw] at cT
    replace KF := KF.below bd
    replace B := B.trans (bd.mono B.size)
    replace KA := KA.below bd
    replace HAT2 : Hid (∀ W, Below w2.drew.heap.size w2.drew W → AttrAt W (.agg #[.string (ad s.attrs k).name, .slice y1 (ad s.attrs k).cuts.length z1, .slice y2 (ad s.attrs k).vals.length z2]) (ad s.attrs k)) := fun W h => HAT2.out W (bd.trans (h.mono bd.size))
    clear bd
    generalize w2.drew = w3 at KF KA B HAT2 hS cT ⊢
    refine takeL 0 (.pointer (some ⟨w.heap.size + 1, 1, none⟩)) rfl (by kernel_rfl) (by kernel_rfl) (by kernel_rfl) (fun _ _ _ h => h) (.inl ⟨by rfl, fun w hw => by (unfold execOp; go_simp)⟩) hS ?_
    try simp only [Act.put, List.setIfInBounds_toArray, List.set_cons_zero, List.set_cons_succ]
    refine takeL 1 (.int .i64 f.pos) rfl (by kernel_rfl) (by kernel_rfl) (by kernel_rfl) (fun _ _ _ h => h) (.inl ⟨by rfl, fun w hw => by (have h0 := (hw.1).cell 1; unfold execOp; go_simp)⟩) hS ?_
    try simp only [Act.put, List.setIfInBounds_toArray, List.set_cons_zero, List.set_cons_succ]
    refine takeL 2 (.bool false) rfl (by kernel_rfl) (by kernel_rfl) (by kernel_rfl) (fun _ _ _ h => h) (.inl ⟨by rfl, fun w hw => by (unfold execOp; go_simp)⟩) hS ?_
    try simp only [Act.put, List.setIfInBounds_toArray, List.set_cons_zero, List.set_cons_succ]
    refine takeL 3 (.bool false) rfl (by kernel_rfl) (by kernel_rfl) (by kernel_rfl) (fun _ _ _ h => h) (.inl ⟨by rfl, fun w _ => by rfl⟩) hS ?_
    try simp only [Act.put, List.setIfInBounds_toArray, List.set_cons_zero, List.set_cons_succ]
    refine takeL 4 (.pointer (some ⟨w.heap.size + 1, 1, none⟩)) rfl (by kernel_rfl) (by kernel_rfl) (by kernel_rfl) (fun _ _ _ h => h) (.inl ⟨by rfl, fun w hw => by (unfold execOp; go_simp)⟩) hS ?_
    try simp only [Act.put, List.setIfInBounds_toArray, List.set_cons_zero, List.set_cons_succ]
    refine takeL 5 (.int .i64 f.pos) rfl (by kernel_rfl) (by kernel_rfl) (by kernel_rfl) (fun _ _ _ h => h) (.inl ⟨by rfl, fun w hw => by (have h0 := (hw.1).cell 1; unfold execOp; go_simp)⟩) hS ?_
    try simp only [Act.put, List.setIfInBounds_toArray, List.set_cons_zero, List.set_cons_succ]
    refine takeL 6 (.agg #[.string (ad s.attrs k).name, .slice y1 (ad s.attrs k).cuts.length z1, .slice y2 (ad s.attrs k).vals.length z2]) rfl (by kernel_rfl) (by kernel_rfl) (by kernel_rfl) (fun _ _ _ h => h) (yields_row Try.underlying89 (by kernel_rfl) (by rfl) _ rfl _ rfl (fun _ h => h.2)) hS ?_
    try simp only [Act.put, List.setIfInBounds_toArray, List.set_cons_zero, List.set_cons_succ]
    refine nextL 7 rfl (by kernel_rfl) (by rfl) fun K hK => ?_
    go_simp
    refine cT.mono ?_
    clear cT
    rintro e w4 ⟨rfl, hb⟩
    replace hS : (fun w' => Blk 60 w' (w.heap.size + 1) #[.int .i64 (k : Int), .int .i64 f.pos] ∧ Blk 89 w' ba #[.string (ad s.attrs k).name, .slice y1 (ad s.attrs k).cuts.length z1, .slice y2 (ad s.attrs k).vals.length z2]) w4 := ⟨hS.1.below hb, hS.2.below hb⟩
    replace HAT2 : Hid (∀ W, Below w4.heap.size w4 W → AttrAt W (.agg #[.string (ad s.attrs k).name, .slice y1 (ad s.attrs k).cuts.length z1, .slice y2 (ad s.attrs k).vals.length z2]) (ad s.attrs k)) := fun W h => HAT2.out W (hb.trans (h.mono hb.size))
    replace B := B.trans (hb.mono B.size)
    clear KF KA hb
    refine hK _ _ hS ?_
    clear hK K hS
    intro hS
    refine takeL 8 (.bool false) rfl (by kernel_rfl) (by kernel_rfl) (by kernel_rfl) (fun _ _ _ h => h) (.inl ⟨by rfl, fun w hw => by (unfold execOp; go_simp)⟩) hS ?_
    try simp only [Act.put, List.setIfInBounds_toArray, List.set_cons_zero, List.set_cons_succ]
    refine takeL 9 (.bool false) rfl (by kernel_rfl) (by kernel_rfl) (by kernel_rfl) (fun _ _ _ h => h) (.inl ⟨by rfl, fun w _ => by rfl⟩) hS ?_
    try simp only [Act.put, List.setIfInBounds_toArray, List.set_cons_zero, List.set_cons_succ]
    refine wpAnyH_done (by kernel_rfl) ?_ _
    obtain ⟨KF, KA⟩ := hS
    by_cases hp : f.pos = -1
    · have hpe : (f.pos == -1) = true := by rw [hp]; rfl
      have HR : Hid (questionV s f = .iface 113 (.agg #[.int .i64 (bins (ad s.attrs k))])) := by show _ = _; rw [HQ2.out, if_pos hp]
      clear HQ2
      have cc := implBins_any _ _ _ (HAT2.out _ (Below.refl _ _)) HB.out
      generalize bins (ad s.attrs k) = nb at cc HR
      have kF0 : w4.cell? ⟨w.heap.size + 1, 0, none⟩ = some (.int .i64 (k : Int)) := KF.cell 0
      have kF1 : w4.cell? ⟨w.heap.size + 1, 1, none⟩ = some (.int .i64 f.pos) := KF.cell 1
      have kA0 : w4.cell? ⟨ba, 0, none⟩ = some (.string (ad s.attrs k).name) := KA.cell 0
      have kA1 : w4.cell? ⟨ba, 1, none⟩ = some (.slice y1 (ad s.attrs k).cuts.length z1) := KA.cell 1
      have kA2 : w4.cell? ⟨ba, 2, none⟩ = some (.slice y2 (ad s.attrs k).vals.length z2) := KA.cell 2
      go_wp2_with fail
      refine cc.mono ?_
      clear cc
      clear kF0 kF1 kA0 kA1 kA2
      rintro e w5 ⟨rfl, hb⟩
      replace KF := KF.below hb
      replace B := B.trans (hb.mono B.size)
      replace KA := KA.below hb
      go_wp2
      go_ret2
      exact ⟨by rw [HR.out, HE.out]; rfl, B⟩
    have hpe : (f.pos == -1) = false := by rw [beq_eq_false_iff_ne]; exact hp
    have cc := nominal_any _ _ _ (HAT2.out _ (Below.refl _ _))
    by_cases hv : 0 < (ad s.attrs k).vals.length
    · have HR : Hid (questionV s f = .iface 115 (.agg #[.int .i64 f.pos])) := by show _ = _; rw [HQ2.out, if_neg hp, if_pos hv]
      rw [decide_eq_true hv] at cc
      clear HQ2
      have kF0 : w4.cell? ⟨w.heap.size + 1, 0, none⟩ = some (.int .i64 (k : Int)) := KF.cell 0
      have kF1 : w4.cell? ⟨w.heap.size + 1, 1, none⟩ = some (.int .i64 f.pos) := KF.cell 1
      have kA0 : w4.cell? ⟨ba, 0, none⟩ = some (.string (ad s.attrs k).name) := KA.cell 0
      have kA1 : w4.cell? ⟨ba, 1, none⟩ = some (.slice y1 (ad s.attrs k).cuts.length z1) := KA.cell 1
      have kA2 : w4.cell? ⟨ba, 2, none⟩ = some (.slice y2 (ad s.attrs k).vals.length z2) := KA.cell 2
      go_wp2_with fail
      refine cc.mono ?_
      clear cc
      clear kF0 kF1 kA0 kA1 kA2
      rintro e w5 ⟨rfl, hb⟩
      replace KF := KF.below hb
      replace B := B.trans (hb.mono B.size)
      replace KA := KA.below hb
      have kF0 : w5.cell? ⟨w.heap.size + 1, 0, none⟩ = some (.int .i64 (k : Int)) := KF.cell 0
      have kF1 : w5.cell? ⟨w.heap.size + 1, 1, none⟩ = some (.int .i64 f.pos) := KF.cell 1
      go_wp2
      go_ret2
      exact ⟨by rw [HR.out, HE.out]; rfl, B⟩
    · have HR : Hid (questionV s f = .iface 116 (.agg #[.int .i64 f.pos])) := by show _ = _; rw [HQ2.out, if_neg hp, if_neg hv]
      rw [decide_eq_false hv] at cc
      clear HQ2
      have kF0 : w4.cell? ⟨w.heap.size + 1, 0, none⟩ = some (.int .i64 (k : Int)) := KF.cell 0
      have kF1 : w4.cell? ⟨w.heap.size + 1, 1, none⟩ = some (.int .i64 f.pos) := KF.cell 1
      have kA0 : w4.cell? ⟨ba, 0, none⟩ = some (.string (ad s.attrs k).name) := KA.cell 0
      have kA1 : w4.cell? ⟨ba, 1, none⟩ = some (.slice y1 (ad s.attrs k).cuts.length z1) := KA.cell 1
      have kA2 : w4.cell? ⟨ba, 2, none⟩ = some (.slice y2 (ad s.attrs k).vals.length z2) := KA.cell 2
      go_wp2_with fail
      refine cc.mono ?_
      clear cc
      clear kF0 kF1 kA0 kA1 kA2
      rintro e w5 ⟨rfl, hb⟩
      replace KF := KF.below hb
      replace B := B.trans (hb.mono B.size)
      replace KA := KA.below hb
      have kF0 : w5.cell? ⟨w.heap.size + 1, 0, none⟩ = some (.int .i64 (k : Int)) := KF.cell 0
      have kF1 : w5.cell? ⟨w.heap.size + 1, 1, none⟩ = some (.int .i64 f.pos) := KF.cell 1
      go_wp2
      go_ret2
      exact ⟨by rw [HR.out, HE.out]; rfl, B⟩
end Go.Proofs.Ytobimpgapfecoab
/- Questions, by the program: the small functions. -/
namespace Go.Proofs.Ytobimpgapfecoab
open Go.RowKit
set_option maxRecDepth 100000
theorem branchIf_any (b : Bool) (w : World) : Calls Try.prog 116 #[.bool b] w fun e w' => e = .returned (.int .i64 (if b = true then 0 else 1)) ∧ w' = w := by
  cases b with
  | true =>
    go_enter Try.func116, Try.ntmps116
    go_wp2
    go_ret
    exact ⟨rfl, rfl⟩
  | false =>
    go_enter Try.func116, Try.ntmps116
    go_wp2
    go_ret
    exact ⟨rfl, rfl⟩
theorem each_any (n b : Int) (w : World) : Calls Try.prog 114 #[.agg #[.int .i64 n], .int .i64 b] w fun e w' => e = .returned (.int .i64 b) ∧ Below w.heap.size w w' := by
  go_enter Try.func114, Try.ntmps114
  go_wp2
  go_ret
  exact ⟨rfl, (Below.refl _ _).alloc (Nat.le_refl _) _⟩
theorem most_any (n b : Int) (w : World) : Calls Try.prog 117 #[.agg #[.int .i64 n], .int .i64 b] w fun e w' => e = .returned (.int .i64 (if n < b then 1 else 0)) ∧ Below w.heap.size w w' := by
  have c := fun x W => branchIf_any x W
  by_cases h : b ≤ n
  · rw [if_neg (by omega)]
    go_enter Try.func117, Try.ntmps117
    go_wp2_with fail
    refine (c true _).mono ?_
    rintro e w1 ⟨rfl, rfl⟩
    go_wp2
    go_ret
    exact ⟨rfl, (Below.refl _ _).alloc (Nat.le_refl _) _⟩
  · rw [if_pos (by omega)]
    go_enter Try.func117, Try.ntmps117
    go_wp2_with fail
    refine (c false _).mono ?_
    rintro e w1 ⟨rfl, rfl⟩
    go_wp2
    go_ret
    exact ⟨rfl, (Below.refl _ _).alloc (Nat.le_refl _) _⟩
theorem just_any (n b : Int) (w : World) : Calls Try.prog 115 #[.agg #[.int .i64 n], .int .i64 b] w fun e w' => e = .returned (.int .i64 (if b = n then 0 else 1)) ∧ Below w.heap.size w w' := by
  have c := fun x W => branchIf_any x W
  by_cases h : b = n
  · subst h
    rw [if_pos rfl]
    go_enter Try.func115, Try.ntmps115
    go_wp2_with fail
    refine (c true _).mono ?_
    rintro e w1 ⟨rfl, rfl⟩
    go_wp2
    go_ret
    exact ⟨rfl, (Below.refl _ _).alloc (Nat.le_refl _) _⟩
  · rw [if_neg h]
    have hq : (b == n) = false := by rw [beq_eq_false_iff_ne]; exact h
    go_enter Try.func115, Try.ntmps115
    go_wp2_with fail
    refine (c false _).mono ?_
    rintro e w1 ⟨rfl, rfl⟩
    go_wp2
    go_ret
    exact ⟨rfl, (Below.refl _ _).alloc (Nat.le_refl _) _⟩
end Go.Proofs.Ytobimpgapfecoab
/- What a question says of a bin, by the program. -/
namespace Go.Proofs.Ytobimpgapfecoab
open Go.RowKit
set_option maxRecDepth 100000
set_option linter.unusedSimpArgs false
/-- What a question says of a bin. -/
def qBranch (s : SchemaD) (f : ForkD) (b : Int) : Int := if f.pos = -1 then b else if 0 < (forkAttr s f).cuts.length then (if f.pos < b then 1 else 0) else (if b = f.pos then 0 else 1)
theorem branchOf_yes {s : SchemaD} {f : ForkD} {b : Int} (h : forkOk s f = true) (h0 : 0 ≤ b) (h1 : b < bins (forkAttr s f)) : branchOf s f b = qBranch s f b := by
  unfold branchOf qBranch
  exact if_pos (And.intro h (And.intro h0 (show b ≤ bins (forkAttr s f) - 1 by omega)))
theorem branchOf_no {s : SchemaD} {f : ForkD} {b : Int} (h : ¬ (forkOk s f = true ∧ 0 ≤ b ∧ b ≤ bins (forkAttr s f) - 1)) : branchOf s f b = -1 := if_neg h
/-- A question right has an attribute that is right. -/
theorem fork_attr {s : SchemaD} {f : ForkD} (h : forkOk s f = true) : attrOk (forkAttr s f) = true := by
  obtain ⟨h1, ⟨k, h2, h3, h4⟩, -, -⟩ := fork_parts h
  rw [h4]; exact sch_attr h1 h3
theorem branch_any (s : SchemaD) (f : ForkD) (b : Int) (w : World) (h : forkOk s f = true) {R : Ending → World → Prop} (hR : ∀ w', Below w.heap.size w w' → R (.returned (.int .i64 (qBranch s f b))) w') :
    (f.pos = -1 → questionV s f = .iface 113 (.agg #[.int .i64 (bins (forkAttr s f))]) ∧ Calls Try.prog 114 #[.agg #[.int .i64 (bins (forkAttr s f))], .int .i64 b] w R) ∧
    (f.pos ≠ -1 → 0 < (forkAttr s f).vals.length → questionV s f = .iface 115 (.agg #[.int .i64 f.pos]) ∧ Calls Try.prog 115 #[.agg #[.int .i64 f.pos], .int .i64 b] w R) ∧
    (f.pos ≠ -1 → ¬ 0 < (forkAttr s f).vals.length → questionV s f = .iface 116 (.agg #[.int .i64 f.pos]) ∧ Calls Try.prog 117 #[.agg #[.int .i64 f.pos], .int .i64 b] w R) := by
  have hk := ok_kind (fork_attr h)
  have hR' : ∀ e w', (e = .returned (.int .i64 (qBranch s f b)) ∧ Below w.heap.size w w') → R e w' := by rintro e w' ⟨rfl, hb⟩; exact hR w' hb
  refine ⟨fun hp => ⟨by rw [questionV_yes h, if_pos hp], ?_⟩, fun hp hv => ⟨by rw [questionV_yes h, if_neg hp, if_pos hv], ?_⟩, fun hp hv => ⟨by rw [questionV_yes h, if_neg hp, if_neg hv], ?_⟩⟩
  · have e : qBranch s f b = b := if_pos hp
    rw [e] at hR'
    exact (each_any _ b w).mono hR'
  · have e : qBranch s f b = if b = f.pos then 0 else 1 := by unfold qBranch; rw [if_neg hp, if_neg (by omega)]
    rw [e] at hR'
    exact (just_any _ b w).mono hR'
  · have e : qBranch s f b = if f.pos < b then 1 else 0 := by unfold qBranch; rw [if_neg hp, if_pos (by omega)]
    rw [e] at hR'
    exact (most_any _ b w).mono hR'
end Go.Proofs.Ytobimpgapfecoab
/- Which kind of question it is: what the assertions give. -/
namespace Go.Proofs.Ytobimpgapfecoab
open Go.RowKit
set_option maxRecDepth 100000
set_option linter.unusedSimpArgs false
theorem as_each (W : World) (v : Value) : (Instr.typeAssert (.iface 113 v) 92 113 true).run Try.prog W = .ok (.tuple #[v, .bool true]) W := by kernel_rfl
theorem as_each_most (W : World) (v : Value) : (Instr.typeAssert (.iface 116 v) 92 113 true).run Try.prog W = .ok (.tuple #[.agg #[.int .i64 0], .bool false]) W := by kernel_rfl
theorem as_each_just (W : World) (v : Value) : (Instr.typeAssert (.iface 115 v) 92 113 true).run Try.prog W = .ok (.tuple #[.agg #[.int .i64 0], .bool false]) W := by kernel_rfl
theorem as_each_nil (W : World) : (Instr.typeAssert .nilIface 92 113 true).run Try.prog W = .ok (.tuple #[.agg #[.int .i64 0], .bool false]) W := by kernel_rfl
theorem as_most (W : World) (v : Value) : (Instr.typeAssert (.iface 116 v) 92 116 true).run Try.prog W = .ok (.tuple #[v, .bool true]) W := by kernel_rfl
theorem as_most_just (W : World) (v : Value) : (Instr.typeAssert (.iface 115 v) 92 116 true).run Try.prog W = .ok (.tuple #[.agg #[.int .i64 0], .bool false]) W := by kernel_rfl
theorem as_most_nil (W : World) : (Instr.typeAssert .nilIface 92 116 true).run Try.prog W = .ok (.tuple #[.agg #[.int .i64 0], .bool false]) W := by kernel_rfl
theorem as_just (W : World) (v : Value) : (Instr.typeAssert (.iface 115 v) 92 115 true).run Try.prog W = .ok (.tuple #[v, .bool true]) W := by kernel_rfl
theorem as_just_most (W : World) (v : Value) : (Instr.typeAssert (.iface 116 v) 92 115 true).run Try.prog W = .ok (.tuple #[.agg #[.int .i64 0], .bool false]) W := by kernel_rfl
theorem as_just_nil (W : World) : (Instr.typeAssert .nilIface 92 115 true).run Try.prog W = .ok (.tuple #[.agg #[.int .i64 0], .bool false]) W := by kernel_rfl
end Go.Proofs.Ytobimpgapfecoab
