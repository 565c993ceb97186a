/- Texts of this claim, put together: part 21. -/
import Derived.Test.YtfflodcapcamcaaDoorFnCandidatesPack13
import Derived.Test.YtfflodcapcamcaaDoorFnCandidatesPack3
import Derived.Test.YtfflodcapcamcaaDoorFnCandidatesPack10
import Derived.Test.YtfflodcapcamcaaDoorFnCandidatesPack17
import Derived.Test.YtfflodcapcamcaaDoorFnCandidatesPack18
import Derived.Test.YtfflodcapcamcaaDoorFnCandidatesPack16
import Derived.Test.YtfflodcapcamcaaDoorFnCandidatesPack19
import Derived.Test.YtfflodcapcamcaaDoorFnCandidatesPack20
import Derived.BigGuardPart
/- How often a number stands in a list. -/
namespace Go.Proofs.YtfflodcapcamcaaDoor
open Go.RowKit
set_option maxRecDepth 100000
theorem times_any (v : Value) (cs : List Int) (x : Int) (w : World) (h : RowI w v cs) (hn : cs.length ≤ 1099511627776) :
    Calls Tryd.prog 10 #[v, .int .i64 x] w fun e w' => e = .returned (.int .i64 (timesN cs x : Int)) ∧ w' = w := by
  obtain ⟨oa, cap, rfl, hc, hr⟩ := h
  have HJ : Hid (∀ k, k < cs.length → ∃ g o, oa = some ⟨g, o, none⟩ ∧ w.cell? ⟨g, o + k, none⟩ = some (.int .i64 (cs.getD k 0))) := fun k hk => by
    obtain ⟨g, o, e, hg, hj⟩ := hr (by omega)
    exact ⟨g, o, e, hj k hk⟩
  clear hr
  go_enter Tryd.func10, Tryd.ntmps10
  go_wp2
  go_loop [5, 6] (fun n i => ∃ k : Nat, i = .int .i64 k ∧ n = .int .i64 (timesN (cs.take k) x : Int) ∧ k ≤ cs.length) (fun _ i => cs.length - (intOf i).toNat)
  case atStart => exact ⟨0, rfl, rfl, by omega⟩
  case round =>
    obtain ⟨k, rfl, rfl, hk⟩ := hrel
    have HL := timesN_le (cs.take k) x
    rw [List.length_take] at HL
    by_cases hlt : k < cs.length
    · obtain ⟨g, o, rfl, hcell⟩ := HJ.out k hlt
      have HS : Hid (timesN (cs.take (k + 1)) x = timesN (cs.take k) x + (if cs.getD k 0 = x then 1 else 0)) := timesN_step cs x k hlt
      generalize cs.getD k 0 = c at hcell HS
      generalize timesN (cs.take k) x = b at HL HS
      by_cases hcx : c = x
      · have HE : Hid (timesN (cs.take (k + 1)) x = b + 1) := by rw [HS.out, if_pos hcx]; rfl
        clear HS
        have hcb : (c == x) = true := by simp [hcx]
        clear hcx
        go_wp2
        go_round
        case rel => exact ⟨k + 1, by go_num, by rw [HE.out]; go_num, by omega⟩
        case measure => simp [intOf]; omega
      · have HE : Hid (timesN (cs.take (k + 1)) x = b) := by rw [HS.out, if_neg hcx]; rfl
        clear HS
        have hcb : (c == x) = false := by simp [hcx]
        clear hcx
        go_wp2
        go_round
        case rel => exact ⟨k + 1, by go_num, by rw [HE.out], by omega⟩
        case measure => simp [intOf]; omega
    · have HE : Hid (timesN (cs.take k) x = timesN cs x) := by rw [List.take_of_length_le (by omega)]; rfl
      rw [HE.out]
      go_wp2
      go_ret
      exact ⟨rfl, rfl⟩
end Go.Proofs.YtfflodcapcamcaaDoor
/- For every code the law FnCandidates returns true (the walk). -/
namespace Go.Proofs.YtfflodcapcamcaaDoor
open Go.RowKit
set_option maxRecDepth 100000
set_option linter.unusedSimpArgs false
theorem text_ne {t : ByteArray} (h : t ≠ ⟨#[]⟩) : ¬ t.toList = [] := by
  intro e
  rw [ByteArray.toList_eq] at e
  obtain ⟨a⟩ := t
  have e2 : a = #[] := by simpa using e
  exact h (by rw [e2])
theorem own_fkc {W : World} {n : Nat} {v : Value} {L : List ForkD} (h : W.ownsRow n 36 2 v L.length (fkC L)) : ∃ o k, v = .slice o L.length k ∧ (0 < L.length → ∃ g, o = some ⟨g, 0, none⟩ ∧ g < W.heap.size ∧ ∀ j, j < L.length → W.cell? ⟨g, j * 2, none⟩ = some (.int .i64 (fk L j).attr) ∧ W.cell? ⟨g, j * 2 + 1, none⟩ = some (.int .i64 (fk L j).pos)) := by
  rcases id h.2 with ⟨rfl, h0⟩ | ⟨g, cap, cur, rfl, hg, hcur, hcap, r⟩
  · exact ⟨none, 0, by rw [h0], fun h1 => by omega⟩
  · exact ⟨_, _, rfl, fun _ => ⟨g, rfl, (Array.getElem?_eq_some_iff.1 hcur).1, fun j hj => ⟨by rw [h.cellAt (j * 2) (by omega)]; exact (fkC_at L j hj).1, by rw [h.cellAt (j * 2 + 1) (by omega)]; exact (fkC_at L j hj).2⟩⟩⟩
set_option maxHeartbeats 6400000 in
theorem cands_in (a0 : Option Addr) (len0 cap0 : Nat) (z0 : List Int) (w : World) (h0 : IsRow .u8 w a0 len0 cap0 z0) (hT : Tab w) (hlen : len0 ≤ 1048576) :
    Calls Tryd.prog 3 #[.slice a0 len0 cap0] w fun e w' => e = .returned (.bool true) ∧ Below w.heap.size w w' := by
  have c1 := big_any a0 len0 cap0 w (by omega)
  rw [decide_eq_false (by omega)] at c1
  go_enter Tryd.func3, Tryd.ntmps3
  go_wp2_with fail
  refine c1.mono ?_
  clear c1
  rintro e w0 ⟨rfl, e0⟩
  rw [e0]; clear e0 w0
  go_wp2_with fail
  refine (drawCands_any a0 len0 cap0 z0 w h0 hlen).mono ?_
  clear h0
  rintro e w1 ⟨vs, d, va, ys, q, rfl, hx, htn, hr, hyl, B⟩
  have HOK : Hid (okSch d) := htn.ok9
  clear htn
  replace hT := hT.later B
  obtain ⟨y1, y2, rfl, rr1, rr2⟩ := id hx
  obtain ⟨oa, oka, rfl, -, -⟩ := id rr1
  obtain ⟨oc, okc, rfl, -, -⟩ := id rr2
  clear rr1 rr2
  obtain ⟨oy, ky, rfl, -, -⟩ := id hr
  obtain ⟨KS, BN⟩ := blk_1 27 w1 #[.slice none 0 0, .slice none 0 0]
  have ZS := KS
  replace KS := KS.setRow #[.slice oa d.attrs.length oka, .slice oc d.classes.length okc]
  have BM : Below w1.heap.size w1 ((w1.alloc (.cells #[.slice none 0 0, .slice none 0 0] 27)).setRow w1.heap.size #[.slice oa d.attrs.length oka, .slice oc d.classes.length okc]) := (below_row BN (by omega) #[.slice oa d.attrs.length oka, .slice oc d.classes.length okc])
  replace hx := hx.later BM
  replace hr := hr.later BM
  replace hT := hT.later BM
  replace B := B.trans (BM.mono B.size)
  clear BM BN
  have cc := implCandidates_any _ _ d ys q ((w1.alloc (.cells #[.slice none 0 0, .slice none 0 0] 27)).setRow w1.heap.size #[.slice oa d.attrs.length oka, .slice oc d.classes.length okc]) hx HOK.out hr (by omega)
  have kS0 : ((w1.alloc (.cells #[.slice none 0 0, .slice none 0 0] 27)).setRow w1.heap.size #[.slice oa d.attrs.length oka, .slice oc d.classes.length okc]).cell? ⟨w1.heap.size, 0, none⟩ = some (.slice oa d.attrs.length oka) := KS.cell 0
  have kS1 : ((w1.alloc (.cells #[.slice none 0 0, .slice none 0 0] 27)).setRow w1.heap.size #[.slice oa d.attrs.length oka, .slice oc d.classes.length okc]).cell? ⟨w1.heap.size, 1, none⟩ = some (.slice oc d.classes.length okc) := KS.cell 1
  go_wp2_with (first | (with_reducible refine wp_sc_store rfl _ _ rfl ?_; refine ⟨_, rfl, _, _, _, _, _, _, rfl, _, _, ZS, ?_⟩))
  clear kS0 kS1
  clear ZS
  refine cc.mono ?_
  clear cc
  rintro e w2 ⟨vc, rfl, ho, hb⟩
  replace hx := hx.later hb
  replace hr := hr.later hb
  replace hT := hT.later hb
  replace B := B.trans (hb.mono B.size)
  replace KS := KS.below hb
  clear hb
  have hlen2 := candidates_len (s := d) (l := ys) q
  have HF : Hid (placesOk d ys = true → _) := fun h => cand_facts (s := d) (l := ys) (two := q) h
  have HE : Hid (placesOk d ys = false → (candidates d ys q).length = 0) := fun h => by unfold candidates; rw [if_neg (by rw [h]; decide)]; rfl
  generalize candidates d ys q = L at ho HF HE hlen2
  obtain ⟨ox, kx, rfl, hco⟩ := own_fkc ho
  clear ho
  have HCO : Hid (0 < L.length → ∃ g, ox = some ⟨g, 0, none⟩ ∧ ∀ W, Below w2.heap.size w2 W → ∀ j, j < L.length → W.cell? ⟨g, j * 2, none⟩ = some (.int .i64 (fk L j).attr) ∧ W.cell? ⟨g, j * 2 + 1, none⟩ = some (.int .i64 (fk L j).pos)) := fun h => by
    obtain ⟨g, h1, h2, h3⟩ := hco h
    exact ⟨g, h1, fun W hW j hj => ⟨(hW.cell (p := ⟨g, j * 2, none⟩) h2).trans (h3 j hj).1, (hW.cell (p := ⟨g, j * 2 + 1, none⟩) h2).trans (h3 j hj).2⟩⟩
  clear hco
  have HB00 : Hid (Below w2.heap.size w2 w2) := Below.refl _ _
  have hbc := HB00.out
  clear HB00
  have cc := specAttrsOk_any _ _ d ys w2 hx HOK.out hr (by omega)
  have kS0 : w2.cell? ⟨w1.heap.size, 0, none⟩ = some (.slice oa d.attrs.length oka) := KS.cell 0
  have kS1 : w2.cell? ⟨w1.heap.size, 1, none⟩ = some (.slice oc d.classes.length okc) := KS.cell 1
  go_wp2_with fail
  refine cc.mono ?_
  clear cc
  clear kS0 kS1
  rintro e w3 ⟨rfl, hb⟩
  replace hx := hx.later hb
  replace hr := hr.later hb
  replace hT := hT.later hb
  replace B := B.trans (hb.mono B.size)
  replace KS := KS.below hb
  replace hbc := hbc.trans (hb.mono hbc.size)
  clear hb
  cases hk : placesOk d ys with
  | false =>
    have h0 := HE.out hk
    have hq : ((L.length : Int) == 0) = true := by rw [h0]; rfl
    clear h0
    have cc := implAttrsOk_any _ _ d ys w3 hx HOK.out hr (by omega)
    rw [hk] at cc
    have kS0 : w3.cell? ⟨w1.heap.size, 0, none⟩ = some (.slice oa d.attrs.length oka) := KS.cell 0
    have kS1 : w3.cell? ⟨w1.heap.size, 1, none⟩ = some (.slice oc d.classes.length okc) := KS.cell 1
    go_wp2_with fail
    refine cc.mono ?_
    clear cc
    clear kS0 kS1
    rintro e w4 ⟨rfl, hb⟩
    replace hx := hx.later hb
    replace hr := hr.later hb
    replace hT := hT.later hb
    replace B := B.trans (hb.mono B.size)
    replace KS := KS.below hb
    replace hbc := hbc.trans (hb.mono hbc.size)
    clear hb
    go_wp2
    go_ret
    exact ⟨rfl, B⟩
  | true =>
    obtain ⟨hmore, hfk, hne⟩ := HF.out hk
    have HFK : Hid (∀ i, i < L.length → _) := hfk
    have HNE : Hid (∀ i j, j < i → i < L.length → _) := hne
    clear hfk hne HF HE hk
    have HB0 : Hid (∀ W, Below w3.heap.size w3 W → Blk 27 W (w1.heap.size) #[.slice oa d.attrs.length oka, .slice oc d.classes.length okc] ∧ SchemaAt W (.agg #[.slice oa d.attrs.length oka, .slice oc d.classes.length okc]) d ∧ RowI W (.slice oy ys.length ky) ys ∧ Tab W ∧ Below w2.heap.size w2 W) := fun W h => ⟨KS.below h, hx.later h, hr.later h, hT.later h, hbc.trans (h.mono hbc.size)⟩
    have HBB : Hid (Below w.heap.size w w3) := B
    clear KS hx hr hT hbc B
    have hql : decide (L.length < ys.length) = false := decide_eq_false (by omega)
    clear hmore
    go_wp2
    clear hql
    go_loopw [7] (fun i wr => ∃ k : Nat, i = .int .i64 k ∧ k ≤ L.length ∧ Below w3.heap.size w3 wr) (fun i _ => L.length - (intOf i).toNat)
    case atStart => exact ⟨0, rfl, by omega, Below.refl _ _⟩
    case round =>
      obtain ⟨k, rfl, hk, hbr⟩ := hrel
      by_cases hlt : k < L.length
      rotate_left
      · have B := HBB.out.trans (hbr.mono HBB.out.size)
        go_wp2
        go_ret
        exact ⟨rfl, B⟩
      obtain ⟨gc, rfl, hcl⟩ := HCO.out (by omega)
      have HCL : Hid (∀ W, Below w3.heap.size w3 W → ∀ j, j < L.length → W.cell? ⟨gc, j * 2, none⟩ = some (.int .i64 (fk L j).attr) ∧ W.cell? ⟨gc, j * 2 + 1, none⟩ = some (.int .i64 (fk L j).pos)) := fun W hW => hcl W (HB0.out W hW).2.2.2.2
      clear hcl
      obtain ⟨h1, h2, h3, h4⟩ := HFK.out k hlt
      have HNK : Hid (∀ j, j < k → fk L k ≠ fk L j) := fun j hj => HNE.out k j hj hlt
      have HCK : Hid (∀ W, Below w3.heap.size w3 W → W.cell? ⟨gc, k * 2, none⟩ = some (.int .i64 (fk L k).attr) ∧ W.cell? ⟨gc, k * 2 + 1, none⟩ = some (.int .i64 (fk L k).pos)) := fun W hW => HCL.out W hW k hlt
      generalize fk L k = f at h1 h2 h3 h4 HNK HCK
      obtain ⟨fa, fp⟩ := f
      have HOKF : Hid (forkOk d ⟨fa, fp⟩ = true) := h1
      have HTI : Hid (((timesN ys fa : Nat) : Int) = 1) := by show _ = _; rw [h2]; rfl
      have HBR : Hid (q = true → branches d ⟨fa, fp⟩ = 2) := h3
      have HTX : Hid (forkText d ⟨fa, fp⟩ ≠ ⟨#[]⟩) := h4
      clear h1 h2 h3 h4
      have HSS : Hid (∀ W, Below w3.heap.size w3 W → (fun w' => Blk 27 w' (w1.heap.size) #[.slice oa d.attrs.length oka, .slice oc d.classes.length okc] ∧ w'.cell? ⟨gc, k * 2, none⟩ = some (.int .i64 fa) ∧ w'.cell? ⟨gc, k * 2 + 1, none⟩ = some (.int .i64 fp)) W) := fun W hW => ⟨(HB0.out W hW).1, HCK.out W hW⟩
      clear HCK
      cases q with
      | false =>
        go_wp2_with fail
        have bd : Below wr.heap.size wr wr.drew := below_drewN (Below.refl _ _) 1
        replace hbr := hbr.trans (bd.mono hbr.size)
        clear bd
        refine wp_region_held_drew (S := (fun w' => Blk 27 w' (w1.heap.size) #[.slice oa d.attrs.length oka, .slice oc d.classes.length okc] ∧ w'.cell? ⟨gc, k * 2, none⟩ = some (.int .i64 fa) ∧ w'.cell? ⟨gc, k * 2 + 1, none⟩ = some (.int .i64 fp))) (by kernel_rfl) (HSS.out _ hbr) ?_
        intro hS
        generalize wr.drew = wd at hbr hS ⊢
        
        refine takeL 0 (.agg #[.slice oa d.attrs.length oka, .slice oc d.classes.length okc]) rfl (by kernel_rfl) (by kernel_rfl) (by kernel_rfl) (fun _ _ _ h => h) (yields_row Tryd.underlying27 (by kernel_rfl) (by rfl) _ rfl _ rfl (fun _ h => h.1)) hS ?_
        try simp only [Act.put, List.setIfInBounds_toArray, List.set_cons_zero, List.set_cons_succ]
        refine takeL 1 (.slice (some ⟨gc, 0, none⟩) L.length kx) rfl (by kernel_rfl) (by kernel_rfl) (by kernel_rfl) (fun _ _ _ h => h) (.inl ⟨by rfl, fun w _ => by rfl⟩) hS ?_
        try simp only [Act.put, List.setIfInBounds_toArray, List.set_cons_zero, List.set_cons_succ]
        refine takeL 2 (.int .i64 ((k : Int))) rfl (by kernel_rfl) (by kernel_rfl) (by kernel_rfl) (fun _ _ _ h => h) (.inl ⟨by rfl, fun w _ => by rfl⟩) hS ?_
        try simp only [Act.put, List.setIfInBounds_toArray, List.set_cons_zero, List.set_cons_succ]
        refine takeL 3 (.pointer (some ⟨gc, k * 2, none⟩)) rfl (by kernel_rfl) (by kernel_rfl) (by kernel_rfl) (fun _ _ _ h => h) (.inl ⟨by rfl, fun w hw => by (unfold execOp; go_simp; all_goals omega)⟩) hS ?_
        try simp only [Act.put, List.setIfInBounds_toArray, List.set_cons_zero, List.set_cons_succ]
        refine takeL 4 (.agg #[.int .i64 fa, .int .i64 fp]) rfl (by kernel_rfl) (by kernel_rfl) (by kernel_rfl) (fun _ _ _ h => h) (.inl ⟨by rfl, fun w hw => by (have h0 := hw.2.1; have h1 := hw.2.2; unfold execOp; go_simp)⟩) hS ?_
        try simp only [Act.put, List.setIfInBounds_toArray, List.set_cons_zero, List.set_cons_succ]
        have cc := implForkOk_any _ d ⟨fa, fp⟩ wd (HB0.out _ hbr).2.1 HOK.out
        simp only [forkV] at cc
        rw [HOKF.out] at cc
        refine nextL 5 rfl (by kernel_rfl) (by rfl) fun K hK => ?_
        go_simp
        refine cc.mono ?_
        clear cc
        rintro e wx1 ⟨rfl, hb⟩
        replace hbr := hbr.trans (hb.mono hbr.size)
        clear hb hS
        refine hK _ _ (HSS.out _ hbr) ?_
        clear hK K
        intro hS
        refine takeL 6 (.bool false) rfl (by kernel_rfl) (by kernel_rfl) (by kernel_rfl) (fun _ _ _ h => h) (.inl ⟨by rfl, fun w hw => by (unfold execOp; go_simp)⟩) hS ?_
        try simp only [Act.put, List.setIfInBounds_toArray, List.set_cons_zero, List.set_cons_succ]
        refine takeL 7 (.bool false) rfl (by kernel_rfl) (by kernel_rfl) (by kernel_rfl) (fun _ _ _ h => h) (.inl ⟨by rfl, fun w _ => by rfl⟩) hS ?_
        try simp only [Act.put, List.setIfInBounds_toArray, List.set_cons_zero, List.set_cons_succ]
        refine takeL 8 (.slice oy ys.length ky) rfl (by kernel_rfl) (by kernel_rfl) (by kernel_rfl) (fun _ _ _ h => h) (.inl ⟨by rfl, fun w _ => by rfl⟩) hS ?_
        try simp only [Act.put, List.setIfInBounds_toArray, List.set_cons_zero, List.set_cons_succ]
        refine takeL 9 (.slice (some ⟨gc, 0, none⟩) L.length kx) rfl (by kernel_rfl) (by kernel_rfl) (by kernel_rfl) (fun _ _ _ h => h) (.inl ⟨by rfl, fun w _ => by rfl⟩) hS ?_
        try simp only [Act.put, List.setIfInBounds_toArray, List.set_cons_zero, List.set_cons_succ]
        refine takeL 10 (.int .i64 ((k : Int))) rfl (by kernel_rfl) (by kernel_rfl) (by kernel_rfl) (fun _ _ _ h => h) (.inl ⟨by rfl, fun w _ => by rfl⟩) hS ?_
        try simp only [Act.put, List.setIfInBounds_toArray, List.set_cons_zero, List.set_cons_succ]
        refine takeL 11 (.pointer (some ⟨gc, k * 2, none⟩)) rfl (by kernel_rfl) (by kernel_rfl) (by kernel_rfl) (fun _ _ _ h => h) (.inl ⟨by rfl, fun w hw => by (unfold execOp; go_simp; all_goals omega)⟩) hS ?_
        try simp only [Act.put, List.setIfInBounds_toArray, List.set_cons_zero, List.set_cons_succ]
        refine takeL 12 (.pointer (some ⟨gc, k * 2, none⟩)) rfl (by kernel_rfl) (by kernel_rfl) (by kernel_rfl) (fun _ _ _ h => h) (.inl ⟨by rfl, fun w hw => by (unfold execOp; go_simp)⟩) hS ?_
        try simp only [Act.put, List.setIfInBounds_toArray, List.set_cons_zero, List.set_cons_succ]
        refine takeL 13 (.int .i64 fa) rfl (by kernel_rfl) (by kernel_rfl) (by kernel_rfl) (fun _ _ _ h => h) (.inl ⟨by rfl, fun w hw => by (have h0 := hw.2.1; unfold execOp; go_simp)⟩) hS ?_
        try simp only [Act.put, List.setIfInBounds_toArray, List.set_cons_zero, List.set_cons_succ]
        have cc := times_any _ ys fa wx1 (HB0.out _ hbr).2.2.1 (by omega)
        rw [HTI.out] at cc
        refine nextL 14 rfl (by kernel_rfl) (by rfl) fun K hK => ?_
        go_simp
        refine cc.mono ?_
        clear cc
        rintro e wt ⟨rfl, e5⟩
        rw [e5]
        clear e5 wt
        refine hK _ _ hS ?_
        clear hK K hS
        intro hS
        refine takeL 15 (.bool false) rfl (by kernel_rfl) (by kernel_rfl) (by kernel_rfl) (fun _ _ _ h => h) (.inl ⟨by rfl, fun w hw => by (unfold execOp; go_simp)⟩) hS ?_
        try simp only [Act.put, List.setIfInBounds_toArray, List.set_cons_zero, List.set_cons_succ]
        refine takeL 16 (.bool false) rfl (by kernel_rfl) (by kernel_rfl) (by kernel_rfl) (fun _ _ _ h => h) (.inl ⟨by rfl, fun w _ => by rfl⟩) hS ?_
        try simp only [Act.put, List.setIfInBounds_toArray, List.set_cons_zero, List.set_cons_succ]
        refine takeL 17 (.bool false) rfl (by kernel_rfl) (by kernel_rfl) (by kernel_rfl) (fun _ _ _ h => h) (.inl ⟨by rfl, fun w _ => by rfl⟩) hS ?_
        try simp only [Act.put, List.setIfInBounds_toArray, List.set_cons_zero, List.set_cons_succ]
        refine takeL 18 (.bool false) rfl (by kernel_rfl) (by kernel_rfl) (by kernel_rfl) (fun _ _ _ h => h) (.inl ⟨by rfl, fun w _ => by rfl⟩) hS ?_
        try simp only [Act.put, List.setIfInBounds_toArray, List.set_cons_zero, List.set_cons_succ]
        refine takeL 19 (.bool false) rfl (by kernel_rfl) (by kernel_rfl) (by kernel_rfl) (fun _ _ _ h => h) (.inl ⟨by rfl, fun w _ => by rfl⟩) hS ?_
        try simp only [Act.put, List.setIfInBounds_toArray, List.set_cons_zero, List.set_cons_succ]
        refine takeL 20 (undef) rfl (by kernel_rfl) (by kernel_rfl) (by kernel_rfl) (fun _ _ _ h => h) (.inr ⟨by rfl, rfl⟩) hS ?_
        try simp only [Act.put, List.setIfInBounds_toArray, List.set_cons_zero, List.set_cons_succ]
        refine takeL 21 (undef) rfl (by kernel_rfl) (by kernel_rfl) (by kernel_rfl) (fun _ _ _ h => h) (.inr ⟨by rfl, rfl⟩) hS ?_
        try simp only [Act.put, List.setIfInBounds_toArray, List.set_cons_zero, List.set_cons_succ]
        refine takeL 22 (undef) rfl (by kernel_rfl) (by kernel_rfl) (by kernel_rfl) (fun _ _ _ h => h) (.inr ⟨by rfl, rfl⟩) hS ?_
        try simp only [Act.put, List.setIfInBounds_toArray, List.set_cons_zero, List.set_cons_succ]
        refine takeL 23 (undef) rfl (by kernel_rfl) (by kernel_rfl) (by kernel_rfl) (fun _ _ _ h => h) (.inr ⟨by rfl, rfl⟩) hS ?_
        try simp only [Act.put, List.setIfInBounds_toArray, List.set_cons_zero, List.set_cons_succ]
        refine takeL 24 (undef) rfl (by kernel_rfl) (by kernel_rfl) (by kernel_rfl) (fun _ _ _ h => h) (.inr ⟨by rfl, rfl⟩) hS ?_
        try simp only [Act.put, List.setIfInBounds_toArray, List.set_cons_zero, List.set_cons_succ]
        refine takeL 25 (undef) rfl (by kernel_rfl) (by kernel_rfl) (by kernel_rfl) (fun _ _ _ h => h) (.inr ⟨by rfl, rfl⟩) hS ?_
        try simp only [Act.put, List.setIfInBounds_toArray, List.set_cons_zero, List.set_cons_succ]
        refine takeL 26 (undef) rfl (by kernel_rfl) (by kernel_rfl) (by kernel_rfl) (fun _ _ _ h => h) (.inr ⟨by rfl, rfl⟩) hS ?_
        try simp only [Act.put, List.setIfInBounds_toArray, List.set_cons_zero, List.set_cons_succ]
        refine takeL 27 (.bool false) rfl (by kernel_rfl) (by kernel_rfl) (by kernel_rfl) (fun _ _ _ h => h) (.inl ⟨by rfl, fun w _ => by rfl⟩) hS ?_
        try simp only [Act.put, List.setIfInBounds_toArray, List.set_cons_zero, List.set_cons_succ]
        refine takeL 28 (.bool false) rfl (by kernel_rfl) (by kernel_rfl) (by kernel_rfl) (fun _ _ _ h => h) (.inl ⟨by rfl, fun w _ => by rfl⟩) hS ?_
        try simp only [Act.put, List.setIfInBounds_toArray, List.set_cons_zero, List.set_cons_succ]
        refine takeL 29 (.bool false) rfl (by kernel_rfl) (by kernel_rfl) (by kernel_rfl) (fun _ _ _ h => h) (.inl ⟨by rfl, fun w _ => by rfl⟩) hS ?_
        try simp only [Act.put, List.setIfInBounds_toArray, List.set_cons_zero, List.set_cons_succ]
        refine takeL 30 (.agg #[.slice oa d.attrs.length oka, .slice oc d.classes.length okc]) rfl (by kernel_rfl) (by kernel_rfl) (by kernel_rfl) (fun _ _ _ h => h) (yields_row Tryd.underlying27 (by kernel_rfl) (by rfl) _ rfl _ rfl (fun _ h => h.1)) hS ?_
        try simp only [Act.put, List.setIfInBounds_toArray, List.set_cons_zero, List.set_cons_succ]
        refine takeL 31 (.slice (some ⟨gc, 0, none⟩) L.length kx) rfl (by kernel_rfl) (by kernel_rfl) (by kernel_rfl) (fun _ _ _ h => h) (.inl ⟨by rfl, fun w _ => by rfl⟩) hS ?_
        try simp only [Act.put, List.setIfInBounds_toArray, List.set_cons_zero, List.set_cons_succ]
        refine takeL 32 (.int .i64 ((k : Int))) rfl (by kernel_rfl) (by kernel_rfl) (by kernel_rfl) (fun _ _ _ h => h) (.inl ⟨by rfl, fun w _ => by rfl⟩) hS ?_
        try simp only [Act.put, List.setIfInBounds_toArray, List.set_cons_zero, List.set_cons_succ]
        refine takeL 33 (.pointer (some ⟨gc, k * 2, none⟩)) rfl (by kernel_rfl) (by kernel_rfl) (by kernel_rfl) (fun _ _ _ h => h) (.inl ⟨by rfl, fun w hw => by (unfold execOp; go_simp; all_goals omega)⟩) hS ?_
        try simp only [Act.put, List.setIfInBounds_toArray, List.set_cons_zero, List.set_cons_succ]
        refine takeL 34 (.agg #[.int .i64 fa, .int .i64 fp]) rfl (by kernel_rfl) (by kernel_rfl) (by kernel_rfl) (fun _ _ _ h => h) (.inl ⟨by rfl, fun w hw => by (have h0 := hw.2.1; have h1 := hw.2.2; unfold execOp; go_simp)⟩) hS ?_
        try simp only [Act.put, List.setIfInBounds_toArray, List.set_cons_zero, List.set_cons_succ]
        have cc := implForkText_any _ d ⟨fa, fp⟩ wx1 (HB0.out _ hbr).2.1 HOK.out (HB0.out _ hbr).2.2.2.1
        simp only [forkV] at cc
        generalize forkText d ⟨fa, fp⟩ = tx at cc HTX
        refine nextL 35 rfl (by kernel_rfl) (by rfl) fun K hK => ?_
        go_simp
        refine cc.mono ?_
        clear cc
        rintro e wx2 ⟨rfl, hb⟩
        replace hbr := hbr.trans (hb.mono hbr.size)
        clear hb hS
        refine hK _ _ (HSS.out _ hbr) ?_
        clear hK K
        intro hS
        refine takeL 36 (.bool false) rfl (by kernel_rfl) (by kernel_rfl) (by kernel_rfl) (fun _ _ _ h => h) (.inl ⟨by rfl, fun w hw => by (unfold execOp; go_simp; exact text_ne HTX.out)⟩) hS ?_
        try simp only [Act.put, List.setIfInBounds_toArray, List.set_cons_zero, List.set_cons_succ]
        refine takeL 37 (.bool false) rfl (by kernel_rfl) (by kernel_rfl) (by kernel_rfl) (fun _ _ _ h => h) (.inl ⟨by rfl, fun w _ => by rfl⟩) hS ?_
        try simp only [Act.put, List.setIfInBounds_toArray, List.set_cons_zero, List.set_cons_succ]
        refine wpAnyH_done (by kernel_rfl) ?_ _
        clear hS HTX HBR
        go_wp2
        go_loopw [8] (fun i wr => ∃ j : Nat, i = .int .i64 j ∧ j ≤ k ∧ Below w3.heap.size w3 wr) (fun i _ => k - (intOf i).toNat)
        case atStart => exact ⟨0, rfl, by omega, hbr⟩
        case round =>
          clear hbr
          obtain ⟨j, rfl, hj, hbr⟩ := hrel
          by_cases hjt : j < k
          rotate_left
          · go_wp2
            go_roundw
            case rel => exact ⟨k + 1, by go_num, by omega, hbr⟩
            case measure => simp [intOf]; omega
          have hne := HNK.out j hjt
          have HCJ : Hid (∀ W, Below w3.heap.size w3 W → W.cell? ⟨gc, j * 2, none⟩ = some (.int .i64 (fk L j).attr) ∧ W.cell? ⟨gc, j * 2 + 1, none⟩ = some (.int .i64 (fk L j).pos)) := fun W hW => HCL.out W hW j (by omega)
          generalize fk L j = f2 at hne HCJ
          obtain ⟨fb, fq⟩ := f2
          have HEQ : Hid (fa = fb → ¬ fp = fq) := fun h1 h2 => hne (by rw [h1, h2])
          clear hne
          go_wp2_with fail
          have bd : Below wr.heap.size wr wr.drew := below_drewN (Below.refl _ _) 1
          replace hbr := hbr.trans (bd.mono hbr.size)
          clear bd
          refine wp_region_held_drew (S := (fun w' => (w'.cell? ⟨gc, k * 2, none⟩ = some (.int .i64 fa) ∧ w'.cell? ⟨gc, k * 2 + 1, none⟩ = some (.int .i64 fp)) ∧ w'.cell? ⟨gc, j * 2, none⟩ = some (.int .i64 fb) ∧ w'.cell? ⟨gc, j * 2 + 1, none⟩ = some (.int .i64 fq))) (by kernel_rfl) ⟨(HSS.out _ hbr).2, HCJ.out _ hbr⟩ ?_
          intro hS
          generalize wr.drew = wd at hbr hS ⊢
          refine takeL 0 (.slice (some ⟨gc, 0, none⟩) L.length kx) rfl (by kernel_rfl) (by kernel_rfl) (by kernel_rfl) (fun _ _ _ h => h) (.inl ⟨by rfl, fun w _ => by rfl⟩) hS ?_
          try simp only [Act.put, List.setIfInBounds_toArray, List.set_cons_zero, List.set_cons_succ]
          refine takeL 1 (.int .i64 ((k : Int))) rfl (by kernel_rfl) (by kernel_rfl) (by kernel_rfl) (fun _ _ _ h => h) (.inl ⟨by rfl, fun w _ => by rfl⟩) hS ?_
          try simp only [Act.put, List.setIfInBounds_toArray, List.set_cons_zero, List.set_cons_succ]
          refine takeL 2 (.pointer (some ⟨gc, k * 2, none⟩)) rfl (by kernel_rfl) (by kernel_rfl) (by kernel_rfl) (fun _ _ _ h => h) (.inl ⟨by rfl, fun w hw => by (unfold execOp; go_simp; all_goals omega)⟩) hS ?_
          try simp only [Act.put, List.setIfInBounds_toArray, List.set_cons_zero, List.set_cons_succ]
          refine takeL 3 (.agg #[.int .i64 fa, .int .i64 fp]) rfl (by kernel_rfl) (by kernel_rfl) (by kernel_rfl) (fun _ _ _ h => h) (.inl ⟨by rfl, fun w hw => by (have h0 := hw.1.1; have h1 := hw.1.2; unfold execOp; go_simp)⟩) hS ?_
          try simp only [Act.put, List.setIfInBounds_toArray, List.set_cons_zero, List.set_cons_succ]
          refine takeL 4 (.slice (some ⟨gc, 0, none⟩) L.length kx) rfl (by kernel_rfl) (by kernel_rfl) (by kernel_rfl) (fun _ _ _ h => h) (.inl ⟨by rfl, fun w _ => by rfl⟩) hS ?_
          try simp only [Act.put, List.setIfInBounds_toArray, List.set_cons_zero, List.set_cons_succ]
          refine takeL 5 (.int .i64 ((j : Int))) rfl (by kernel_rfl) (by kernel_rfl) (by kernel_rfl) (fun _ _ _ h => h) (.inl ⟨by rfl, fun w _ => by rfl⟩) hS ?_
          try simp only [Act.put, List.setIfInBounds_toArray, List.set_cons_zero, List.set_cons_succ]
          refine takeL 6 (.pointer (some ⟨gc, j * 2, none⟩)) rfl (by kernel_rfl) (by kernel_rfl) (by kernel_rfl) (fun _ _ _ h => h) (.inl ⟨by rfl, fun w hw => by (unfold execOp; go_simp; all_goals omega)⟩) hS ?_
          try simp only [Act.put, List.setIfInBounds_toArray, List.set_cons_zero, List.set_cons_succ]
          refine takeL 7 (.agg #[.int .i64 fb, .int .i64 fq]) rfl (by kernel_rfl) (by kernel_rfl) (by kernel_rfl) (fun _ _ _ h => h) (.inl ⟨by rfl, fun w hw => by (have h0 := hw.2.1; have h1 := hw.2.2; unfold execOp; go_simp)⟩) hS ?_
          try simp only [Act.put, List.setIfInBounds_toArray, List.set_cons_zero, List.set_cons_succ]
          refine takeL 8 (.bool false) rfl (by kernel_rfl) (by kernel_rfl) (by kernel_rfl) (fun _ _ _ h => h) (.inl ⟨by rfl, fun w hw => by (unfold execOp; go_simp; exact HEQ.out)⟩) hS ?_
          try simp only [Act.put, List.setIfInBounds_toArray, List.set_cons_zero, List.set_cons_succ]
          refine wpAnyH_done (by kernel_rfl) ?_ _
          clear hS
          go_wp2
          go_roundw
          case rel => exact ⟨j + 1, by go_num, by omega, hbr⟩
          case measure => simp [intOf]; omega
      | true =>
        go_wp2_with fail
        have bd : Below wr.heap.size wr wr.drew := below_drewN (Below.refl _ _) 1
        replace hbr := hbr.trans (bd.mono hbr.size)
        clear bd
        refine wp_region_held_drew (S := (fun w' => Blk 27 w' (w1.heap.size) #[.slice oa d.attrs.length oka, .slice oc d.classes.length okc] ∧ w'.cell? ⟨gc, k * 2, none⟩ = some (.int .i64 fa) ∧ w'.cell? ⟨gc, k * 2 + 1, none⟩ = some (.int .i64 fp))) (by kernel_rfl) (HSS.out _ hbr) ?_
        intro hS
        generalize wr.drew = wd at hbr hS ⊢
        
        refine takeL 0 (.agg #[.slice oa d.attrs.length oka, .slice oc d.classes.length okc]) rfl (by kernel_rfl) (by kernel_rfl) (by kernel_rfl) (fun _ _ _ h => h) (yields_row Tryd.underlying27 (by kernel_rfl) (by rfl) _ rfl _ rfl (fun _ h => h.1)) hS ?_
        try simp only [Act.put, List.setIfInBounds_toArray, List.set_cons_zero, List.set_cons_succ]
        refine takeL 1 (.slice (some ⟨gc, 0, none⟩) L.length kx) rfl (by kernel_rfl) (by kernel_rfl) (by kernel_rfl) (fun _ _ _ h => h) (.inl ⟨by rfl, fun w _ => by rfl⟩) hS ?_
        try simp only [Act.put, List.setIfInBounds_toArray, List.set_cons_zero, List.set_cons_succ]
        refine takeL 2 (.int .i64 ((k : Int))) rfl (by kernel_rfl) (by kernel_rfl) (by kernel_rfl) (fun _ _ _ h => h) (.inl ⟨by rfl, fun w _ => by rfl⟩) hS ?_
        try simp only [Act.put, List.setIfInBounds_toArray, List.set_cons_zero, List.set_cons_succ]
        refine takeL 3 (.pointer (some ⟨gc, k * 2, none⟩)) rfl (by kernel_rfl) (by kernel_rfl) (by kernel_rfl) (fun _ _ _ h => h) (.inl ⟨by rfl, fun w hw => by (unfold execOp; go_simp; all_goals omega)⟩) hS ?_
        try simp only [Act.put, List.setIfInBounds_toArray, List.set_cons_zero, List.set_cons_succ]
        refine takeL 4 (.agg #[.int .i64 fa, .int .i64 fp]) rfl (by kernel_rfl) (by kernel_rfl) (by kernel_rfl) (fun _ _ _ h => h) (.inl ⟨by rfl, fun w hw => by (have h0 := hw.2.1; have h1 := hw.2.2; unfold execOp; go_simp)⟩) hS ?_
        try simp only [Act.put, List.setIfInBounds_toArray, List.set_cons_zero, List.set_cons_succ]
        have cc := implForkOk_any _ d ⟨fa, fp⟩ wd (HB0.out _ hbr).2.1 HOK.out
        simp only [forkV] at cc
        rw [HOKF.out] at cc
        refine nextL 5 rfl (by kernel_rfl) (by rfl) fun K hK => ?_
        go_simp
        refine cc.mono ?_
        clear cc
        rintro e wx1 ⟨rfl, hb⟩
        replace hbr := hbr.trans (hb.mono hbr.size)
        clear hb hS
        refine hK _ _ (HSS.out _ hbr) ?_
        clear hK K
        intro hS
        refine takeL 6 (.bool false) rfl (by kernel_rfl) (by kernel_rfl) (by kernel_rfl) (fun _ _ _ h => h) (.inl ⟨by rfl, fun w hw => by (unfold execOp; go_simp)⟩) hS ?_
        try simp only [Act.put, List.setIfInBounds_toArray, List.set_cons_zero, List.set_cons_succ]
        refine takeL 7 (.bool false) rfl (by kernel_rfl) (by kernel_rfl) (by kernel_rfl) (fun _ _ _ h => h) (.inl ⟨by rfl, fun w _ => by rfl⟩) hS ?_
        try simp only [Act.put, List.setIfInBounds_toArray, List.set_cons_zero, List.set_cons_succ]
        refine takeL 8 (.slice oy ys.length ky) rfl (by kernel_rfl) (by kernel_rfl) (by kernel_rfl) (fun _ _ _ h => h) (.inl ⟨by rfl, fun w _ => by rfl⟩) hS ?_
        try simp only [Act.put, List.setIfInBounds_toArray, List.set_cons_zero, List.set_cons_succ]
        refine takeL 9 (.slice (some ⟨gc, 0, none⟩) L.length kx) rfl (by kernel_rfl) (by kernel_rfl) (by kernel_rfl) (fun _ _ _ h => h) (.inl ⟨by rfl, fun w _ => by rfl⟩) hS ?_
        try simp only [Act.put, List.setIfInBounds_toArray, List.set_cons_zero, List.set_cons_succ]
        refine takeL 10 (.int .i64 ((k : Int))) rfl (by kernel_rfl) (by kernel_rfl) (by kernel_rfl) (fun _ _ _ h => h) (.inl ⟨by rfl, fun w _ => by rfl⟩) hS ?_
        try simp only [Act.put, List.setIfInBounds_toArray, List.set_cons_zero, List.set_cons_succ]
        refine takeL 11 (.pointer (some ⟨gc, k * 2, none⟩)) rfl (by kernel_rfl) (by kernel_rfl) (by kernel_rfl) (fun _ _ _ h => h) (.inl ⟨by rfl, fun w hw => by (unfold execOp; go_simp; all_goals omega)⟩) hS ?_
        try simp only [Act.put, List.setIfInBounds_toArray, List.set_cons_zero, List.set_cons_succ]
        refine takeL 12 (.pointer (some ⟨gc, k * 2, none⟩)) rfl (by kernel_rfl) (by kernel_rfl) (by kernel_rfl) (fun _ _ _ h => h) (.inl ⟨by rfl, fun w hw => by (unfold execOp; go_simp)⟩) hS ?_
        try simp only [Act.put, List.setIfInBounds_toArray, List.set_cons_zero, List.set_cons_succ]
        refine takeL 13 (.int .i64 fa) rfl (by kernel_rfl) (by kernel_rfl) (by kernel_rfl) (fun _ _ _ h => h) (.inl ⟨by rfl, fun w hw => by (have h0 := hw.2.1; unfold execOp; go_simp)⟩) hS ?_
        try simp only [Act.put, List.setIfInBounds_toArray, List.set_cons_zero, List.set_cons_succ]
        have cc := times_any _ ys fa wx1 (HB0.out _ hbr).2.2.1 (by omega)
        rw [HTI.out] at cc
        refine nextL 14 rfl (by kernel_rfl) (by rfl) fun K hK => ?_
        go_simp
        refine cc.mono ?_
        clear cc
        rintro e wt ⟨rfl, e5⟩
        rw [e5]
        clear e5 wt
        refine hK _ _ hS ?_
        clear hK K hS
        intro hS
        refine takeL 15 (.bool false) rfl (by kernel_rfl) (by kernel_rfl) (by kernel_rfl) (fun _ _ _ h => h) (.inl ⟨by rfl, fun w hw => by (unfold execOp; go_simp)⟩) hS ?_
        try simp only [Act.put, List.setIfInBounds_toArray, List.set_cons_zero, List.set_cons_succ]
        refine takeL 16 (.bool false) rfl (by kernel_rfl) (by kernel_rfl) (by kernel_rfl) (fun _ _ _ h => h) (.inl ⟨by rfl, fun w _ => by rfl⟩) hS ?_
        try simp only [Act.put, List.setIfInBounds_toArray, List.set_cons_zero, List.set_cons_succ]
        refine takeL 17 (.bool false) rfl (by kernel_rfl) (by kernel_rfl) (by kernel_rfl) (fun _ _ _ h => h) (.inl ⟨by rfl, fun w _ => by rfl⟩) hS ?_
        try simp only [Act.put, List.setIfInBounds_toArray, List.set_cons_zero, List.set_cons_succ]
        refine takeL 18 (.bool true) rfl (by kernel_rfl) (by kernel_rfl) (by kernel_rfl) (fun _ _ _ h => h) (.inl ⟨by rfl, fun w _ => by rfl⟩) hS ?_
        try simp only [Act.put, List.setIfInBounds_toArray, List.set_cons_zero, List.set_cons_succ]
        refine takeL 19 (.bool true) rfl (by kernel_rfl) (by kernel_rfl) (by kernel_rfl) (fun _ _ _ h => h) (.inl ⟨by rfl, fun w _ => by rfl⟩) hS ?_
        try simp only [Act.put, List.setIfInBounds_toArray, List.set_cons_zero, List.set_cons_succ]
        refine takeL 20 (.agg #[.slice oa d.attrs.length oka, .slice oc d.classes.length okc]) rfl (by kernel_rfl) (by kernel_rfl) (by kernel_rfl) (fun _ _ _ h => h) (yields_row Tryd.underlying27 (by kernel_rfl) (by rfl) _ rfl _ rfl (fun _ h => h.1)) hS ?_
        try simp only [Act.put, List.setIfInBounds_toArray, List.set_cons_zero, List.set_cons_succ]
        refine takeL 21 (.slice (some ⟨gc, 0, none⟩) L.length kx) rfl (by kernel_rfl) (by kernel_rfl) (by kernel_rfl) (fun _ _ _ h => h) (.inl ⟨by rfl, fun w _ => by rfl⟩) hS ?_
        try simp only [Act.put, List.setIfInBounds_toArray, List.set_cons_zero, List.set_cons_succ]
        refine takeL 22 (.int .i64 ((k : Int))) rfl (by kernel_rfl) (by kernel_rfl) (by kernel_rfl) (fun _ _ _ h => h) (.inl ⟨by rfl, fun w _ => by rfl⟩) hS ?_
        try simp only [Act.put, List.setIfInBounds_toArray, List.set_cons_zero, List.set_cons_succ]
        refine takeL 23 (.pointer (some ⟨gc, k * 2, none⟩)) rfl (by kernel_rfl) (by kernel_rfl) (by kernel_rfl) (fun _ _ _ h => h) (.inl ⟨by rfl, fun w hw => by (unfold execOp; go_simp; all_goals omega)⟩) hS ?_
        try simp only [Act.put, List.setIfInBounds_toArray, List.set_cons_zero, List.set_cons_succ]
        refine takeL 24 (.agg #[.int .i64 fa, .int .i64 fp]) rfl (by kernel_rfl) (by kernel_rfl) (by kernel_rfl) (fun _ _ _ h => h) (.inl ⟨by rfl, fun w hw => by (have h0 := hw.2.1; have h1 := hw.2.2; unfold execOp; go_simp)⟩) hS ?_
        try simp only [Act.put, List.setIfInBounds_toArray, List.set_cons_zero, List.set_cons_succ]
        have cc := implBranches_any _ d ⟨fa, fp⟩ wx1 (HB0.out _ hbr).2.1 HOK.out
        simp only [forkV] at cc
        rw [show branches d ⟨fa, fp⟩ = 2 from (by first | exact HBR.out rfl | exact HBR.out trivial)] at cc
        refine nextL 25 rfl (by kernel_rfl) (by rfl) fun K hK => ?_
        go_simp
        refine cc.mono ?_
        clear cc
        rintro e wx2 ⟨rfl, hb⟩
        replace hbr := hbr.trans (hb.mono hbr.size)
        clear hb hS
        refine hK _ _ (HSS.out _ hbr) ?_
        clear hK K
        intro hS
        refine takeL 26 (.bool false) rfl (by kernel_rfl) (by kernel_rfl) (by kernel_rfl) (fun _ _ _ h => h) (.inl ⟨by rfl, fun w hw => by (unfold execOp; go_simp)⟩) hS ?_
        try simp only [Act.put, List.setIfInBounds_toArray, List.set_cons_zero, List.set_cons_succ]
        refine takeL 27 (.bool false) rfl (by kernel_rfl) (by kernel_rfl) (by kernel_rfl) (fun _ _ _ h => h) (.inl ⟨by rfl, fun w _ => by rfl⟩) hS ?_
        try simp only [Act.put, List.setIfInBounds_toArray, List.set_cons_zero, List.set_cons_succ]
        refine takeL 28 (.bool false) rfl (by kernel_rfl) (by kernel_rfl) (by kernel_rfl) (fun _ _ _ h => h) (.inl ⟨by rfl, fun w _ => by rfl⟩) hS ?_
        try simp only [Act.put, List.setIfInBounds_toArray, List.set_cons_zero, List.set_cons_succ]
        refine takeL 29 (.bool false) rfl (by kernel_rfl) (by kernel_rfl) (by kernel_rfl) (fun _ _ _ h => h) (.inl ⟨by rfl, fun w _ => by rfl⟩) hS ?_
        try simp only [Act.put, List.setIfInBounds_toArray, List.set_cons_zero, List.set_cons_succ]
        refine takeL 30 (.agg #[.slice oa d.attrs.length oka, .slice oc d.classes.length okc]) rfl (by kernel_rfl) (by kernel_rfl) (by kernel_rfl) (fun _ _ _ h => h) (yields_row Tryd.underlying27 (by kernel_rfl) (by rfl) _ rfl _ rfl (fun _ h => h.1)) hS ?_
        try simp only [Act.put, List.setIfInBounds_toArray, List.set_cons_zero, List.set_cons_succ]
        refine takeL 31 (.slice (some ⟨gc, 0, none⟩) L.length kx) rfl (by kernel_rfl) (by kernel_rfl) (by kernel_rfl) (fun _ _ _ h => h) (.inl ⟨by rfl, fun w _ => by rfl⟩) hS ?_
        try simp only [Act.put, List.setIfInBounds_toArray, List.set_cons_zero, List.set_cons_succ]
        refine takeL 32 (.int .i64 ((k : Int))) rfl (by kernel_rfl) (by kernel_rfl) (by kernel_rfl) (fun _ _ _ h => h) (.inl ⟨by rfl, fun w _ => by rfl⟩) hS ?_
        try simp only [Act.put, List.setIfInBounds_toArray, List.set_cons_zero, List.set_cons_succ]
        refine takeL 33 (.pointer (some ⟨gc, k * 2, none⟩)) rfl (by kernel_rfl) (by kernel_rfl) (by kernel_rfl) (fun _ _ _ h => h) (.inl ⟨by rfl, fun w hw => by (unfold execOp; go_simp; all_goals omega)⟩) hS ?_
        try simp only [Act.put, List.setIfInBounds_toArray, List.set_cons_zero, List.set_cons_succ]
        refine takeL 34 (.agg #[.int .i64 fa, .int .i64 fp]) rfl (by kernel_rfl) (by kernel_rfl) (by kernel_rfl) (fun _ _ _ h => h) (.inl ⟨by rfl, fun w hw => by (have h0 := hw.2.1; have h1 := hw.2.2; unfold execOp; go_simp)⟩) hS ?_
        try simp only [Act.put, List.setIfInBounds_toArray, List.set_cons_zero, List.set_cons_succ]
        have cc := implForkText_any _ d ⟨fa, fp⟩ wx2 (HB0.out _ hbr).2.1 HOK.out (HB0.out _ hbr).2.2.2.1
        simp only [forkV] at cc
        generalize forkText d ⟨fa, fp⟩ = tx at cc HTX
        refine nextL 35 rfl (by kernel_rfl) (by rfl) fun K hK => ?_
        go_simp
        refine cc.mono ?_
        clear cc
        rintro e wx3 ⟨rfl, hb⟩
        replace hbr := hbr.trans (hb.mono hbr.size)
        clear hb hS
        refine hK _ _ (HSS.out _ hbr) ?_
        clear hK K
        intro hS
        refine takeL 36 (.bool false) rfl (by kernel_rfl) (by kernel_rfl) (by kernel_rfl) (fun _ _ _ h => h) (.inl ⟨by rfl, fun w hw => by (unfold execOp; go_simp; exact text_ne HTX.out)⟩) hS ?_
        try simp only [Act.put, List.setIfInBounds_toArray, List.set_cons_zero, List.set_cons_succ]
        refine takeL 37 (.bool false) rfl (by kernel_rfl) (by kernel_rfl) (by kernel_rfl) (fun _ _ _ h => h) (.inl ⟨by rfl, fun w _ => by rfl⟩) hS ?_
        try simp only [Act.put, List.setIfInBounds_toArray, List.set_cons_zero, List.set_cons_succ]
        refine wpAnyH_done (by kernel_rfl) ?_ _
        clear hS HTX HBR
        go_wp2
        go_loopw [8] (fun i wr => ∃ j : Nat, i = .int .i64 j ∧ j ≤ k ∧ Below w3.heap.size w3 wr) (fun i _ => k - (intOf i).toNat)
        case atStart => exact ⟨0, rfl, by omega, hbr⟩
        case round =>
          clear hbr
          obtain ⟨j, rfl, hj, hbr⟩ := hrel
          by_cases hjt : j < k
          rotate_left
          · go_wp2
            go_roundw
            case rel => exact ⟨k + 1, by go_num, by omega, hbr⟩
            case measure => simp [intOf]; omega
          have hne := HNK.out j hjt
          have HCJ : Hid (∀ W, Below w3.heap.size w3 W → W.cell? ⟨gc, j * 2, none⟩ = some (.int .i64 (fk L j).attr) ∧ W.cell? ⟨gc, j * 2 + 1, none⟩ = some (.int .i64 (fk L j).pos)) := fun W hW => HCL.out W hW j (by omega)
          generalize fk L j = f2 at hne HCJ
          obtain ⟨fb, fq⟩ := f2
          have HEQ : Hid (fa = fb → ¬ fp = fq) := fun h1 h2 => hne (by rw [h1, h2])
          clear hne
          go_wp2_with fail
          have bd : Below wr.heap.size wr wr.drew := below_drewN (Below.refl _ _) 1
          replace hbr := hbr.trans (bd.mono hbr.size)
          clear bd
          refine wp_region_held_drew (S := (fun w' => (w'.cell? ⟨gc, k * 2, none⟩ = some (.int .i64 fa) ∧ w'.cell? ⟨gc, k * 2 + 1, none⟩ = some (.int .i64 fp)) ∧ w'.cell? ⟨gc, j * 2, none⟩ = some (.int .i64 fb) ∧ w'.cell? ⟨gc, j * 2 + 1, none⟩ = some (.int .i64 fq))) (by kernel_rfl) ⟨(HSS.out _ hbr).2, HCJ.out _ hbr⟩ ?_
          intro hS
          generalize wr.drew = wd at hbr hS ⊢
          refine takeL 0 (.slice (some ⟨gc, 0, none⟩) L.length kx) rfl (by kernel_rfl) (by kernel_rfl) (by kernel_rfl) (fun _ _ _ h => h) (.inl ⟨by rfl, fun w _ => by rfl⟩) hS ?_
          try simp only [Act.put, List.setIfInBounds_toArray, List.set_cons_zero, List.set_cons_succ]
          refine takeL 1 (.int .i64 ((k : Int))) rfl (by kernel_rfl) (by kernel_rfl) (by kernel_rfl) (fun _ _ _ h => h) (.inl ⟨by rfl, fun w _ => by rfl⟩) hS ?_
          try simp only [Act.put, List.setIfInBounds_toArray, List.set_cons_zero, List.set_cons_succ]
          refine takeL 2 (.pointer (some ⟨gc, k * 2, none⟩)) rfl (by kernel_rfl) (by kernel_rfl) (by kernel_rfl) (fun _ _ _ h => h) (.inl ⟨by rfl, fun w hw => by (unfold execOp; go_simp; all_goals omega)⟩) hS ?_
          try simp only [Act.put, List.setIfInBounds_toArray, List.set_cons_zero, List.set_cons_succ]
          refine takeL 3 (.agg #[.int .i64 fa, .int .i64 fp]) rfl (by kernel_rfl) (by kernel_rfl) (by kernel_rfl) (fun _ _ _ h => h) (.inl ⟨by rfl, fun w hw => by (have h0 := hw.1.1; have h1 := hw.1.2; unfold execOp; go_simp)⟩) hS ?_
          try simp only [Act.put, List.setIfInBounds_toArray, List.set_cons_zero, List.set_cons_succ]
          refine takeL 4 (.slice (some ⟨gc, 0, none⟩) L.length kx) rfl (by kernel_rfl) (by kernel_rfl) (by kernel_rfl) (fun _ _ _ h => h) (.inl ⟨by rfl, fun w _ => by rfl⟩) hS ?_
          try simp only [Act.put, List.setIfInBounds_toArray, List.set_cons_zero, List.set_cons_succ]
          refine takeL 5 (.int .i64 ((j : Int))) rfl (by kernel_rfl) (by kernel_rfl) (by kernel_rfl) (fun _ _ _ h => h) (.inl ⟨by rfl, fun w _ => by rfl⟩) hS ?_
          try simp only [Act.put, List.setIfInBounds_toArray, List.set_cons_zero, List.set_cons_succ]
          refine takeL 6 (.pointer (some ⟨gc, j * 2, none⟩)) rfl (by kernel_rfl) (by kernel_rfl) (by kernel_rfl) (fun _ _ _ h => h) (.inl ⟨by rfl, fun w hw => by (unfold execOp; go_simp; all_goals omega)⟩) hS ?_
          try simp only [Act.put, List.setIfInBounds_toArray, List.set_cons_zero, List.set_cons_succ]
          refine takeL 7 (.agg #[.int .i64 fb, .int .i64 fq]) rfl (by kernel_rfl) (by kernel_rfl) (by kernel_rfl) (fun _ _ _ h => h) (.inl ⟨by rfl, fun w hw => by (have h0 := hw.2.1; have h1 := hw.2.2; unfold execOp; go_simp)⟩) hS ?_
          try simp only [Act.put, List.setIfInBounds_toArray, List.set_cons_zero, List.set_cons_succ]
          refine takeL 8 (.bool false) rfl (by kernel_rfl) (by kernel_rfl) (by kernel_rfl) (fun _ _ _ h => h) (.inl ⟨by rfl, fun w hw => by (unfold execOp; go_simp; exact HEQ.out)⟩) hS ?_
          try simp only [Act.put, List.setIfInBounds_toArray, List.set_cons_zero, List.set_cons_succ]
          refine wpAnyH_done (by kernel_rfl) ?_ _
          clear hS
          go_wp2
          go_roundw
          case rel => exact ⟨j + 1, by go_num, by omega, hbr⟩
          case measure => simp [intOf]; omega
end Go.Proofs.YtfflodcapcamcaaDoor
