/- Texts of this claim, put together: part 18. -/
import Derived.Test.YtfflodcapcamcaaDoorFnCandidatesPack11
import Derived.Test.YtfflodcapcamcaaDoorFnCandidatesPack17
import Derived.Test.YtfflodcapcamcaaDoorFnCandidatesPack14
import Derived.Test.YtfflodcapcamcaaDoorFnCandidatesPack9
import Derived.Test.YtfflodcapcamcaaDoorFnCandidatesPack10
import Derived.Test.YtfflodcapcamcaaDoorFnCandidatesPack16
import Derived.Test.YtfflodcapcamcaaDoorFnCandidatesPack4
/- Places of attributes, whether they are right, by the specification. -/
namespace Go.Proofs.YtfflodcapcamcaaDoor
open Go.RowKit
set_option maxRecDepth 100000
set_option linter.unusedSimpArgs false
set_option maxHeartbeats 3200000 in
theorem specAttrsOk_any (vs vl : Value) (s : SchemaD) (l : List Int) (w : World) (hs : SchemaAt w vs s) (hn : okSch s) (hl : RowI w vl l) (hl2 : l.length ≤ 1099511627776) :
    Calls Tryd.prog 7 #[vs, vl] w fun e w' => e = .returned (.bool (placesOk s l)) ∧ Below w.heap.size w w' := by
  have HL : Hid (∀ W, Below w.heap.size w W → RowI W vl l) := fun W h => hl.later h
  have la := hn.attrs
  have cc := fun o => specSchemaOk_any vs s (w.alloc o) (hs.later ((Below.refl _ _).alloc (Nat.le_refl _) _)) hn
  obtain ⟨va, vc, rfl, ra, -⟩ := hs
  obtain ⟨oa, ka, rfl, -, -⟩ := id ra
  obtain ⟨ol, kl, rfl, hcl, hrl⟩ := id hl
  clear ra hn hl
  obtain ⟨KS, B⟩ := blk_1 27 w #[.slice oa s.attrs.length ka, vc]
  cases hk : schemaOk s with
  | false =>
    have HE : Hid (placesOk s l = false) := by unfold placesOk; rw [hk]; rfl
    rw [hk] at cc
    clear hk hrl
    go_enter Tryd.func7, Tryd.ntmps7
    go_wp2_with fail
    refine (cc _).mono ?_
    clear cc
    rintro e w1 ⟨rfl, hb⟩
    replace B := B.trans (hb.mono B.size)
    go_wp2
    go_ret
    exact ⟨by rw [HE.out]; rfl, B⟩
  | true =>
    have HX : Hid (placesOk s l = (decide (0 < l.length) && ascIn 0 ((s.attrs.length : Int) - 1) l)) := by show _ = _; unfold placesOk; rw [hk]; rfl
    rw [hk] at cc
    clear hk
    by_cases h0 : l.length = 0
    · have HE : Hid (placesOk s l = false) := by show _ = _; rw [HX.out, decide_eq_false (by omega)]; rfl
      clear HX hrl
      go_enter Tryd.func7, Tryd.ntmps7
      go_wp2_with fail
      refine (cc _).mono ?_
      clear cc
      rintro e w1 ⟨rfl, hb⟩
      replace B := B.trans (hb.mono B.size)
      rw [h0]
      go_wp2
      go_ret
      exact ⟨by rw [HE.out]; rfl, B⟩
    have HE : Hid (placesOk s l = ascIn 0 ((s.attrs.length : Int) - 1) l) := by show _ = _; rw [HX.out, decide_eq_true (by omega)]; rfl
    clear HX
    obtain ⟨g, o, rfl, hg, hj⟩ := hrl (by omega)
    have HJ : Hid (∀ W, Below w.heap.size w W → ∀ j, j < l.length → W.cell? ⟨g, o + j, none⟩ = some (.int .i64 (l.getD j 0))) := fun W h j hj' => (h.cell (p := ⟨g, o + j, none⟩) hg).trans (hj j hj')
    clear hj hrl HL
    have hq : ((l.length : Int) == 0) = false := by rw [beq_eq_false_iff_ne]; omega
    go_enter Tryd.func7, Tryd.ntmps7
    go_wp2_with fail
    refine (cc _).mono ?_
    clear cc
    rintro e w1 ⟨rfl, hb⟩
    replace KS := KS.below hb
    replace B := B.trans (hb.mono B.size)
    have HK : Hid (∀ W, Below w1.heap.size w1 W → Blk 27 W w.heap.size #[.slice oa s.attrs.length ka, vc]) := fun W h => KS.below h
    have HB1 : Hid (Below w.heap.size w w1) := B
    clear hb KS B h0
    go_wp2
    go_loopw [5] (fun i wr => ∃ k : Nat, i = .int .i64 k ∧ k ≤ l.length ∧ Hid (∀ j, j < k → ascAt 0 ((s.attrs.length : Int) - 1) l j = true) ∧ Below w1.heap.size w1 wr) (fun i _ => l.length - (intOf i).toNat)
    case atStart => exact ⟨0, rfl, by omega, fun j hj => by omega, Below.refl _ _⟩
    case round =>
      obtain ⟨k, rfl, hk, hal, hbr⟩ := hrel
      have B := HB1.out.trans (hbr.mono HB1.out.size)
      by_cases hlt : k < l.length
      rotate_left
      · have HF : Hid (ascIn 0 ((s.attrs.length : Int) - 1) l = true) := asc_yes fun j hj => hal.out j (by omega)
        go_wp2
        go_ret
        exact ⟨by rw [HE.out, HF.out]; rfl, B⟩
      have bd : Below wr.heap.size wr wr.drew := below_drewN (Below.refl _ _) 1
      obtain ⟨x, hx⟩ : ∃ x, l.getD k 0 = x := ⟨_, rfl⟩
      obtain ⟨j, hjk⟩ : ∃ j, k - 1 = j := ⟨_, rfl⟩
      have hjl : j < l.length := by omega
      obtain ⟨y, hy⟩ : ∃ y, l.getD j 0 = y := ⟨_, rfl⟩
      have HJK : Hid (k - 1 = j) := hjk
      have HST : Hid (ascAt 0 ((s.attrs.length : Int) - 1) l k = (decide (0 ≤ x ∧ x ≤ (s.attrs.length : Int) - 1) && (decide (k = 0) || decide (y < x)))) := by show _ = _; unfold ascAt; rw [hx, hjk, hy]
      have hcx := HJ.out wr.drew (B.trans (bd.mono B.size)) k hlt
      have hcy := HJ.out wr.drew (B.trans (bd.mono B.size)) j hjl
      rw [hx] at hcx
      rw [hy] at hcy
      clear hx hy hjk
      have KS := (HK.out wr hbr).below bd
      have BB := B.trans (bd.mono B.size)
      have BR := hbr.trans (bd.mono hbr.size)
      have HW : Hid (wr.drew = wr.drew) := rfl
      clear B
      go_wp2_with fail
      refine wp_region_held_drew (S := fun w' => Blk 27 w' w.heap.size #[.slice oa s.attrs.length ka, vc] ∧ w'.cell? ⟨g, o + k, none⟩ = some (.int .i64 x) ∧ w'.cell? ⟨g, o + j, none⟩ = some (.int .i64 y)) (by kernel_rfl) ⟨KS, hcx, hcy⟩ ?_
      intro hS
      clear KS hcx hcy bd hbr
      generalize wr.drew = w3 at BB BR hS ⊢
      have cI := in_any x 0 ((s.attrs.length : Int) - 1) w3
      by_cases hin : 0 ≤ x ∧ x ≤ (s.attrs.length : Int) - 1
      rotate_left
      · rw [decide_eq_false hin] at cI
        have HF : Hid (ascIn 0 ((s.attrs.length : Int) - 1) l = false) := asc_no k hlt (by rw [HST.out, decide_eq_false hin]; rfl)
        clear HST hin
        refine takeL 0 (.slice (some ⟨g, o, none⟩) l.length kl) rfl (by kernel_rfl) (by kernel_rfl) (by kernel_rfl) (fun _ _ _ h => h) (.inl ⟨by rfl, fun w _ => by rfl⟩) hS ?_
        try simp only [Act.put, List.setIfInBounds_toArray, List.set_cons_zero, List.set_cons_succ]
        refine takeL 1 (.int .i64 ((k : Int))) rfl (by kernel_rfl) (by kernel_rfl) (by kernel_rfl) (fun _ _ _ h => h) (.inl ⟨by rfl, fun w _ => by rfl⟩) hS ?_
        try simp only [Act.put, List.setIfInBounds_toArray, List.set_cons_zero, List.set_cons_succ]
        refine takeL 2 (.pointer (some ⟨g, o + k, none⟩)) rfl (by kernel_rfl) (by kernel_rfl) (by kernel_rfl) (fun _ _ _ h => h) (.inl ⟨by rfl, fun w hw => by (unfold execOp; go_simp; all_goals omega)⟩) hS ?_
        try simp only [Act.put, List.setIfInBounds_toArray, List.set_cons_zero, List.set_cons_succ]
        refine takeL 3 (.int .i64 x) rfl (by kernel_rfl) (by kernel_rfl) (by kernel_rfl) (fun _ _ _ h => h) (.inl ⟨by rfl, fun w hw => by (have h0 := hw.2.1; unfold execOp; go_simp)⟩) hS ?_
        try simp only [Act.put, List.setIfInBounds_toArray, List.set_cons_zero, List.set_cons_succ]
        refine takeL 4 (.pointer (some ⟨w.heap.size, 0, none⟩)) rfl (by kernel_rfl) (by kernel_rfl) (by kernel_rfl) (fun _ _ _ h => h) (.inl ⟨by rfl, fun w hw => by (unfold execOp; go_simp)⟩) hS ?_
        try simp only [Act.put, List.setIfInBounds_toArray, List.set_cons_zero, List.set_cons_succ]
        refine takeL 5 (.slice oa s.attrs.length ka) rfl (by kernel_rfl) (by kernel_rfl) (by kernel_rfl) (fun _ _ _ h => h) (.inl ⟨by rfl, fun w hw => by (have h0 := (hw.1).cell 0; unfold execOp; go_simp)⟩) hS ?_
        try simp only [Act.put, List.setIfInBounds_toArray, List.set_cons_zero, List.set_cons_succ]
        refine takeL 6 (.int .i64 ((s.attrs.length : Int))) rfl (by kernel_rfl) (by kernel_rfl) (by kernel_rfl) (fun _ _ _ h => h) (.inl ⟨by rfl, fun w hw => by (unfold execOp; go_simp)⟩) hS ?_
        try simp only [Act.put, List.setIfInBounds_toArray, List.set_cons_zero, List.set_cons_succ]
        refine takeL 7 (.int .i64 (((s.attrs.length : Int)) - 1)) rfl (by kernel_rfl) (by kernel_rfl) (by kernel_rfl) (fun _ _ _ h => h) (.inl ⟨by rfl, fun w hw => by (unfold execOp; go_simp; all_goals (rw [IntKind.wrap_i64]; omega))⟩) hS ?_
        try simp only [Act.put, List.setIfInBounds_toArray, List.set_cons_zero, List.set_cons_succ]
        refine nextL 8 rfl (by kernel_rfl) (by rfl) fun K hK => ?_
        go_simp
        refine cI.mono ?_
        clear cI
        rintro e w5 ⟨rfl, e5⟩
        rw [e5]
        clear e5 w5
        refine hK _ _ hS ?_
        clear hK K hS
        intro hS
        refine takeL 9 (.bool true) rfl (by kernel_rfl) (by kernel_rfl) (by kernel_rfl) (fun _ _ _ h => h) (.inl ⟨by rfl, fun w hw => by (unfold execOp; go_simp)⟩) hS ?_
        try simp only [Act.put, List.setIfInBounds_toArray, List.set_cons_zero, List.set_cons_succ]
        refine takeL 10 (.bool true) rfl (by kernel_rfl) (by kernel_rfl) (by kernel_rfl) (fun _ _ _ h => h) (.inl ⟨by rfl, fun w _ => by rfl⟩) hS ?_
        try simp only [Act.put, List.setIfInBounds_toArray, List.set_cons_zero, List.set_cons_succ]
        refine takeL 11 (undef) rfl (by kernel_rfl) (by kernel_rfl) (by kernel_rfl) (fun _ _ _ h => h) (.inr ⟨by rfl, rfl⟩) hS ?_
        try simp only [Act.put, List.setIfInBounds_toArray, List.set_cons_zero, List.set_cons_succ]
        refine takeL 12 (undef) rfl (by kernel_rfl) (by kernel_rfl) (by kernel_rfl) (fun _ _ _ h => h) (.inr ⟨by rfl, rfl⟩) hS ?_
        try simp only [Act.put, List.setIfInBounds_toArray, List.set_cons_zero, List.set_cons_succ]
        refine takeL 13 (undef) rfl (by kernel_rfl) (by kernel_rfl) (by kernel_rfl) (fun _ _ _ h => h) (.inr ⟨by rfl, rfl⟩) hS ?_
        try simp only [Act.put, List.setIfInBounds_toArray, List.set_cons_zero, List.set_cons_succ]
        refine takeL 14 (undef) rfl (by kernel_rfl) (by kernel_rfl) (by kernel_rfl) (fun _ _ _ h => h) (.inr ⟨by rfl, rfl⟩) hS ?_
        try simp only [Act.put, List.setIfInBounds_toArray, List.set_cons_zero, List.set_cons_succ]
        refine takeL 15 (undef) rfl (by kernel_rfl) (by kernel_rfl) (by kernel_rfl) (fun _ _ _ h => h) (.inr ⟨by rfl, rfl⟩) hS ?_
        try simp only [Act.put, List.setIfInBounds_toArray, List.set_cons_zero, List.set_cons_succ]
        refine takeL 16 (undef) rfl (by kernel_rfl) (by kernel_rfl) (by kernel_rfl) (fun _ _ _ h => h) (.inr ⟨by rfl, rfl⟩) hS ?_
        try simp only [Act.put, List.setIfInBounds_toArray, List.set_cons_zero, List.set_cons_succ]
        refine takeL 17 (undef) rfl (by kernel_rfl) (by kernel_rfl) (by kernel_rfl) (fun _ _ _ h => h) (.inr ⟨by rfl, rfl⟩) hS ?_
        try simp only [Act.put, List.setIfInBounds_toArray, List.set_cons_zero, List.set_cons_succ]
        refine takeL 18 (undef) rfl (by kernel_rfl) (by kernel_rfl) (by kernel_rfl) (fun _ _ _ h => h) (.inr ⟨by rfl, rfl⟩) hS ?_
        try simp only [Act.put, List.setIfInBounds_toArray, List.set_cons_zero, List.set_cons_succ]
        refine takeL 19 (undef) rfl (by kernel_rfl) (by kernel_rfl) (by kernel_rfl) (fun _ _ _ h => h) (.inr ⟨by rfl, rfl⟩) hS ?_
        try simp only [Act.put, List.setIfInBounds_toArray, List.set_cons_zero, List.set_cons_succ]
        refine takeL 20 (undef) rfl (by kernel_rfl) (by kernel_rfl) (by kernel_rfl) (fun _ _ _ h => h) (.inr ⟨by rfl, rfl⟩) hS ?_
        try simp only [Act.put, List.setIfInBounds_toArray, List.set_cons_zero, List.set_cons_succ]
        refine takeL 21 (undef) rfl (by kernel_rfl) (by kernel_rfl) (by kernel_rfl) (fun _ _ _ h => h) (.inr ⟨by rfl, rfl⟩) hS ?_
        try simp only [Act.put, List.setIfInBounds_toArray, List.set_cons_zero, List.set_cons_succ]
        refine takeL 22 (undef) rfl (by kernel_rfl) (by kernel_rfl) (by kernel_rfl) (fun _ _ _ h => h) (.inr ⟨by rfl, rfl⟩) hS ?_
        try simp only [Act.put, List.setIfInBounds_toArray, List.set_cons_zero, List.set_cons_succ]
        refine takeL 23 (undef) rfl (by kernel_rfl) (by kernel_rfl) (by kernel_rfl) (fun _ _ _ h => h) (.inr ⟨by rfl, rfl⟩) hS ?_
        try simp only [Act.put, List.setIfInBounds_toArray, List.set_cons_zero, List.set_cons_succ]
        refine takeL 24 (undef) rfl (by kernel_rfl) (by kernel_rfl) (by kernel_rfl) (fun _ _ _ h => h) (.inr ⟨by rfl, rfl⟩) hS ?_
        try simp only [Act.put, List.setIfInBounds_toArray, List.set_cons_zero, List.set_cons_succ]
        refine takeL 25 (.bool true) rfl (by kernel_rfl) (by kernel_rfl) (by kernel_rfl) (fun _ _ _ h => h) (.inl ⟨by rfl, fun w _ => by rfl⟩) hS ?_
        try simp only [Act.put, List.setIfInBounds_toArray, List.set_cons_zero, List.set_cons_succ]
        refine wpAnyH_done (by kernel_rfl) ?_ _
        clear hS
        go_wp2
        go_ret
        exact ⟨by rw [HE.out, HF.out]; rfl, BB⟩
      rw [decide_eq_true hin] at cI HST
      by_cases hk0 : k = 0
      · have HF : Hid (ascAt 0 ((s.attrs.length : Int) - 1) l k = true) := by show _ = _; rw [HST.out, decide_eq_true hk0]; rfl
        have hk1 : ¬ (0 : Int) < (k : Int) := by omega
        clear HST hin hk0
        refine takeL 0 (.slice (some ⟨g, o, none⟩) l.length kl) rfl (by kernel_rfl) (by kernel_rfl) (by kernel_rfl) (fun _ _ _ h => h) (.inl ⟨by rfl, fun w _ => by rfl⟩) hS ?_
        try simp only [Act.put, List.setIfInBounds_toArray, List.set_cons_zero, List.set_cons_succ]
        refine takeL 1 (.int .i64 ((k : Int))) rfl (by kernel_rfl) (by kernel_rfl) (by kernel_rfl) (fun _ _ _ h => h) (.inl ⟨by rfl, fun w _ => by rfl⟩) hS ?_
        try simp only [Act.put, List.setIfInBounds_toArray, List.set_cons_zero, List.set_cons_succ]
        refine takeL 2 (.pointer (some ⟨g, o + k, none⟩)) rfl (by kernel_rfl) (by kernel_rfl) (by kernel_rfl) (fun _ _ _ h => h) (.inl ⟨by rfl, fun w hw => by (unfold execOp; go_simp; all_goals omega)⟩) hS ?_
        try simp only [Act.put, List.setIfInBounds_toArray, List.set_cons_zero, List.set_cons_succ]
        refine takeL 3 (.int .i64 x) rfl (by kernel_rfl) (by kernel_rfl) (by kernel_rfl) (fun _ _ _ h => h) (.inl ⟨by rfl, fun w hw => by (have h0 := hw.2.1; unfold execOp; go_simp)⟩) hS ?_
        try simp only [Act.put, List.setIfInBounds_toArray, List.set_cons_zero, List.set_cons_succ]
        refine takeL 4 (.pointer (some ⟨w.heap.size, 0, none⟩)) rfl (by kernel_rfl) (by kernel_rfl) (by kernel_rfl) (fun _ _ _ h => h) (.inl ⟨by rfl, fun w hw => by (unfold execOp; go_simp)⟩) hS ?_
        try simp only [Act.put, List.setIfInBounds_toArray, List.set_cons_zero, List.set_cons_succ]
        refine takeL 5 (.slice oa s.attrs.length ka) rfl (by kernel_rfl) (by kernel_rfl) (by kernel_rfl) (fun _ _ _ h => h) (.inl ⟨by rfl, fun w hw => by (have h0 := (hw.1).cell 0; unfold execOp; go_simp)⟩) hS ?_
        try simp only [Act.put, List.setIfInBounds_toArray, List.set_cons_zero, List.set_cons_succ]
        refine takeL 6 (.int .i64 ((s.attrs.length : Int))) rfl (by kernel_rfl) (by kernel_rfl) (by kernel_rfl) (fun _ _ _ h => h) (.inl ⟨by rfl, fun w hw => by (unfold execOp; go_simp)⟩) hS ?_
        try simp only [Act.put, List.setIfInBounds_toArray, List.set_cons_zero, List.set_cons_succ]
        refine takeL 7 (.int .i64 (((s.attrs.length : Int)) - 1)) rfl (by kernel_rfl) (by kernel_rfl) (by kernel_rfl) (fun _ _ _ h => h) (.inl ⟨by rfl, fun w hw => by (unfold execOp; go_simp; all_goals (rw [IntKind.wrap_i64]; omega))⟩) hS ?_
        try simp only [Act.put, List.setIfInBounds_toArray, List.set_cons_zero, List.set_cons_succ]
        refine nextL 8 rfl (by kernel_rfl) (by rfl) fun K hK => ?_
        go_simp
        refine cI.mono ?_
        clear cI
        rintro e w5 ⟨rfl, e5⟩
        rw [e5]
        clear e5 w5
        refine hK _ _ hS ?_
        clear hK K hS
        intro hS
        refine takeL 9 (.bool false) rfl (by kernel_rfl) (by kernel_rfl) (by kernel_rfl) (fun _ _ _ h => h) (.inl ⟨by rfl, fun w hw => by (unfold execOp; go_simp)⟩) hS ?_
        try simp only [Act.put, List.setIfInBounds_toArray, List.set_cons_zero, List.set_cons_succ]
        refine takeL 10 (.bool false) rfl (by kernel_rfl) (by kernel_rfl) (by kernel_rfl) (fun _ _ _ h => h) (.inl ⟨by rfl, fun w _ => by rfl⟩) hS ?_
        try simp only [Act.put, List.setIfInBounds_toArray, List.set_cons_zero, List.set_cons_succ]
        refine takeL 11 (.int .i64 ((k : Int))) rfl (by kernel_rfl) (by kernel_rfl) (by kernel_rfl) (fun _ _ _ h => h) (.inl ⟨by rfl, fun w _ => by rfl⟩) hS ?_
        try simp only [Act.put, List.setIfInBounds_toArray, List.set_cons_zero, List.set_cons_succ]
        refine takeL 12 (.bool false) rfl (by kernel_rfl) (by kernel_rfl) (by kernel_rfl) (fun _ _ _ h => h) (.inl ⟨by rfl, fun w hw => by (unfold execOp; go_simp; all_goals first | omega | (rw [IntKind.wrap_i64] <;> omega))⟩) hS ?_
        try simp only [Act.put, List.setIfInBounds_toArray, List.set_cons_zero, List.set_cons_succ]
        refine takeL 13 (.bool false) rfl (by kernel_rfl) (by kernel_rfl) (by kernel_rfl) (fun _ _ _ h => h) (.inl ⟨by rfl, fun w _ => by rfl⟩) hS ?_
        try simp only [Act.put, List.setIfInBounds_toArray, List.set_cons_zero, List.set_cons_succ]
        refine takeL 14 (undef) rfl (by kernel_rfl) (by kernel_rfl) (by kernel_rfl) (fun _ _ _ h => h) (.inr ⟨by rfl, rfl⟩) hS ?_
        try simp only [Act.put, List.setIfInBounds_toArray, List.set_cons_zero, List.set_cons_succ]
        refine takeL 15 (undef) rfl (by kernel_rfl) (by kernel_rfl) (by kernel_rfl) (fun _ _ _ h => h) (.inr ⟨by rfl, rfl⟩) hS ?_
        try simp only [Act.put, List.setIfInBounds_toArray, List.set_cons_zero, List.set_cons_succ]
        refine takeL 16 (undef) rfl (by kernel_rfl) (by kernel_rfl) (by kernel_rfl) (fun _ _ _ h => h) (.inr ⟨by rfl, rfl⟩) hS ?_
        try simp only [Act.put, List.setIfInBounds_toArray, List.set_cons_zero, List.set_cons_succ]
        refine takeL 17 (undef) rfl (by kernel_rfl) (by kernel_rfl) (by kernel_rfl) (fun _ _ _ h => h) (.inr ⟨by rfl, rfl⟩) hS ?_
        try simp only [Act.put, List.setIfInBounds_toArray, List.set_cons_zero, List.set_cons_succ]
        refine takeL 18 (undef) rfl (by kernel_rfl) (by kernel_rfl) (by kernel_rfl) (fun _ _ _ h => h) (.inr ⟨by rfl, rfl⟩) hS ?_
        try simp only [Act.put, List.setIfInBounds_toArray, List.set_cons_zero, List.set_cons_succ]
        refine takeL 19 (undef) rfl (by kernel_rfl) (by kernel_rfl) (by kernel_rfl) (fun _ _ _ h => h) (.inr ⟨by rfl, rfl⟩) hS ?_
        try simp only [Act.put, List.setIfInBounds_toArray, List.set_cons_zero, List.set_cons_succ]
        refine takeL 20 (undef) rfl (by kernel_rfl) (by kernel_rfl) (by kernel_rfl) (fun _ _ _ h => h) (.inr ⟨by rfl, rfl⟩) hS ?_
        try simp only [Act.put, List.setIfInBounds_toArray, List.set_cons_zero, List.set_cons_succ]
        refine takeL 21 (undef) rfl (by kernel_rfl) (by kernel_rfl) (by kernel_rfl) (fun _ _ _ h => h) (.inr ⟨by rfl, rfl⟩) hS ?_
        try simp only [Act.put, List.setIfInBounds_toArray, List.set_cons_zero, List.set_cons_succ]
        refine takeL 22 (undef) rfl (by kernel_rfl) (by kernel_rfl) (by kernel_rfl) (fun _ _ _ h => h) (.inr ⟨by rfl, rfl⟩) hS ?_
        try simp only [Act.put, List.setIfInBounds_toArray, List.set_cons_zero, List.set_cons_succ]
        refine takeL 23 (undef) rfl (by kernel_rfl) (by kernel_rfl) (by kernel_rfl) (fun _ _ _ h => h) (.inr ⟨by rfl, rfl⟩) hS ?_
        try simp only [Act.put, List.setIfInBounds_toArray, List.set_cons_zero, List.set_cons_succ]
        refine takeL 24 (.bool false) rfl (by kernel_rfl) (by kernel_rfl) (by kernel_rfl) (fun _ _ _ h => h) (.inl ⟨by rfl, fun w _ => by rfl⟩) hS ?_
        try simp only [Act.put, List.setIfInBounds_toArray, List.set_cons_zero, List.set_cons_succ]
        refine takeL 25 (.bool false) rfl (by kernel_rfl) (by kernel_rfl) (by kernel_rfl) (fun _ _ _ h => h) (.inl ⟨by rfl, fun w _ => by rfl⟩) hS ?_
        try simp only [Act.put, List.setIfInBounds_toArray, List.set_cons_zero, List.set_cons_succ]
        refine wpAnyH_done (by kernel_rfl) ?_ _
        clear hS
        go_wp2
        go_roundw
        case rel =>
          refine ⟨k + 1, by go_num, by omega, ?_, BR⟩
          intro j' hj'
          by_cases e : j' = k
          · subst e; exact HF.out
          · exact hal.out j' (by omega)
        case measure => simp [intOf]; omega
      have hj1 : (k : Int) - 1 = (j : Int) := by have := HJK.out; omega
      have hk1 : (0 : Int) < (k : Int) := by omega
      clear hk0
      by_cases hyx : y < x
      rotate_left
      · have HF : Hid (ascIn 0 ((s.attrs.length : Int) - 1) l = false) := asc_no k hlt (by rw [HST.out, decide_eq_false hyx, decide_eq_false (show ¬ k = 0 by omega)]; rfl)
        clear HST hin
        refine takeL 0 (.slice (some ⟨g, o, none⟩) l.length kl) rfl (by kernel_rfl) (by kernel_rfl) (by kernel_rfl) (fun _ _ _ h => h) (.inl ⟨by rfl, fun w _ => by rfl⟩) hS ?_
        try simp only [Act.put, List.setIfInBounds_toArray, List.set_cons_zero, List.set_cons_succ]
        refine takeL 1 (.int .i64 ((k : Int))) rfl (by kernel_rfl) (by kernel_rfl) (by kernel_rfl) (fun _ _ _ h => h) (.inl ⟨by rfl, fun w _ => by rfl⟩) hS ?_
        try simp only [Act.put, List.setIfInBounds_toArray, List.set_cons_zero, List.set_cons_succ]
        refine takeL 2 (.pointer (some ⟨g, o + k, none⟩)) rfl (by kernel_rfl) (by kernel_rfl) (by kernel_rfl) (fun _ _ _ h => h) (.inl ⟨by rfl, fun w hw => by (unfold execOp; go_simp; all_goals omega)⟩) hS ?_
        try simp only [Act.put, List.setIfInBounds_toArray, List.set_cons_zero, List.set_cons_succ]
        refine takeL 3 (.int .i64 x) rfl (by kernel_rfl) (by kernel_rfl) (by kernel_rfl) (fun _ _ _ h => h) (.inl ⟨by rfl, fun w hw => by (have h0 := hw.2.1; unfold execOp; go_simp)⟩) hS ?_
        try simp only [Act.put, List.setIfInBounds_toArray, List.set_cons_zero, List.set_cons_succ]
        refine takeL 4 (.pointer (some ⟨w.heap.size, 0, none⟩)) rfl (by kernel_rfl) (by kernel_rfl) (by kernel_rfl) (fun _ _ _ h => h) (.inl ⟨by rfl, fun w hw => by (unfold execOp; go_simp)⟩) hS ?_
        try simp only [Act.put, List.setIfInBounds_toArray, List.set_cons_zero, List.set_cons_succ]
        refine takeL 5 (.slice oa s.attrs.length ka) rfl (by kernel_rfl) (by kernel_rfl) (by kernel_rfl) (fun _ _ _ h => h) (.inl ⟨by rfl, fun w hw => by (have h0 := (hw.1).cell 0; unfold execOp; go_simp)⟩) hS ?_
        try simp only [Act.put, List.setIfInBounds_toArray, List.set_cons_zero, List.set_cons_succ]
        refine takeL 6 (.int .i64 ((s.attrs.length : Int))) rfl (by kernel_rfl) (by kernel_rfl) (by kernel_rfl) (fun _ _ _ h => h) (.inl ⟨by rfl, fun w hw => by (unfold execOp; go_simp)⟩) hS ?_
        try simp only [Act.put, List.setIfInBounds_toArray, List.set_cons_zero, List.set_cons_succ]
        refine takeL 7 (.int .i64 (((s.attrs.length : Int)) - 1)) rfl (by kernel_rfl) (by kernel_rfl) (by kernel_rfl) (fun _ _ _ h => h) (.inl ⟨by rfl, fun w hw => by (unfold execOp; go_simp; all_goals (rw [IntKind.wrap_i64]; omega))⟩) hS ?_
        try simp only [Act.put, List.setIfInBounds_toArray, List.set_cons_zero, List.set_cons_succ]
        refine nextL 8 rfl (by kernel_rfl) (by rfl) fun K hK => ?_
        go_simp
        refine cI.mono ?_
        clear cI
        rintro e w5 ⟨rfl, e5⟩
        rw [e5]
        clear e5 w5
        refine hK _ _ hS ?_
        clear hK K hS
        intro hS
        refine takeL 9 (.bool false) rfl (by kernel_rfl) (by kernel_rfl) (by kernel_rfl) (fun _ _ _ h => h) (.inl ⟨by rfl, fun w hw => by (unfold execOp; go_simp)⟩) hS ?_
        try simp only [Act.put, List.setIfInBounds_toArray, List.set_cons_zero, List.set_cons_succ]
        refine takeL 10 (.bool false) rfl (by kernel_rfl) (by kernel_rfl) (by kernel_rfl) (fun _ _ _ h => h) (.inl ⟨by rfl, fun w _ => by rfl⟩) hS ?_
        try simp only [Act.put, List.setIfInBounds_toArray, List.set_cons_zero, List.set_cons_succ]
        refine takeL 11 (.int .i64 ((k : Int))) rfl (by kernel_rfl) (by kernel_rfl) (by kernel_rfl) (fun _ _ _ h => h) (.inl ⟨by rfl, fun w _ => by rfl⟩) hS ?_
        try simp only [Act.put, List.setIfInBounds_toArray, List.set_cons_zero, List.set_cons_succ]
        refine takeL 12 (.bool true) rfl (by kernel_rfl) (by kernel_rfl) (by kernel_rfl) (fun _ _ _ h => h) (.inl ⟨by rfl, fun w hw => by (unfold execOp; go_simp; all_goals first | omega | (rw [IntKind.wrap_i64] <;> omega))⟩) hS ?_
        try simp only [Act.put, List.setIfInBounds_toArray, List.set_cons_zero, List.set_cons_succ]
        refine takeL 13 (.bool true) rfl (by kernel_rfl) (by kernel_rfl) (by kernel_rfl) (fun _ _ _ h => h) (.inl ⟨by rfl, fun w _ => by rfl⟩) hS ?_
        try simp only [Act.put, List.setIfInBounds_toArray, List.set_cons_zero, List.set_cons_succ]
        refine takeL 14 (.slice (some ⟨g, o, none⟩) l.length kl) rfl (by kernel_rfl) (by kernel_rfl) (by kernel_rfl) (fun _ _ _ h => h) (.inl ⟨by rfl, fun w _ => by rfl⟩) hS ?_
        try simp only [Act.put, List.setIfInBounds_toArray, List.set_cons_zero, List.set_cons_succ]
        refine takeL 15 (.int .i64 ((k : Int))) rfl (by kernel_rfl) (by kernel_rfl) (by kernel_rfl) (fun _ _ _ h => h) (.inl ⟨by rfl, fun w _ => by rfl⟩) hS ?_
        try simp only [Act.put, List.setIfInBounds_toArray, List.set_cons_zero, List.set_cons_succ]
        refine takeL 16 (.pointer (some ⟨g, o + k, none⟩)) rfl (by kernel_rfl) (by kernel_rfl) (by kernel_rfl) (fun _ _ _ h => h) (.inl ⟨by rfl, fun w hw => by (unfold execOp; go_simp; all_goals omega)⟩) hS ?_
        try simp only [Act.put, List.setIfInBounds_toArray, List.set_cons_zero, List.set_cons_succ]
        refine takeL 17 (.int .i64 x) rfl (by kernel_rfl) (by kernel_rfl) (by kernel_rfl) (fun _ _ _ h => h) (.inl ⟨by rfl, fun w hw => by (have h0 := hw.2.1; unfold execOp; go_simp)⟩) hS ?_
        try simp only [Act.put, List.setIfInBounds_toArray, List.set_cons_zero, List.set_cons_succ]
        refine takeL 18 (.slice (some ⟨g, o, none⟩) l.length kl) rfl (by kernel_rfl) (by kernel_rfl) (by kernel_rfl) (fun _ _ _ h => h) (.inl ⟨by rfl, fun w _ => by rfl⟩) hS ?_
        try simp only [Act.put, List.setIfInBounds_toArray, List.set_cons_zero, List.set_cons_succ]
        refine takeL 19 (.int .i64 ((k : Int))) rfl (by kernel_rfl) (by kernel_rfl) (by kernel_rfl) (fun _ _ _ h => h) (.inl ⟨by rfl, fun w _ => by rfl⟩) hS ?_
        try simp only [Act.put, List.setIfInBounds_toArray, List.set_cons_zero, List.set_cons_succ]
        refine takeL 20 (.int .i64 ((j : Int))) rfl (by kernel_rfl) (by kernel_rfl) (by kernel_rfl) (fun _ _ _ h => h) (.inl ⟨by rfl, fun w hw => by (unfold execOp; go_simp; all_goals first | omega | (rw [IntKind.wrap_i64] <;> omega))⟩) hS ?_
        try simp only [Act.put, List.setIfInBounds_toArray, List.set_cons_zero, List.set_cons_succ]
        refine takeL 21 (.pointer (some ⟨g, o + j, none⟩)) rfl (by kernel_rfl) (by kernel_rfl) (by kernel_rfl) (fun _ _ _ h => h) (.inl ⟨by rfl, fun w hw => by (unfold execOp; go_simp; all_goals omega)⟩) hS ?_
        try simp only [Act.put, List.setIfInBounds_toArray, List.set_cons_zero, List.set_cons_succ]
        refine takeL 22 (.int .i64 y) rfl (by kernel_rfl) (by kernel_rfl) (by kernel_rfl) (fun _ _ _ h => h) (.inl ⟨by rfl, fun w hw => by (have h0 := hw.2.2; unfold execOp; go_simp)⟩) hS ?_
        try simp only [Act.put, List.setIfInBounds_toArray, List.set_cons_zero, List.set_cons_succ]
        refine takeL 23 (.bool true) rfl (by kernel_rfl) (by kernel_rfl) (by kernel_rfl) (fun _ _ _ h => h) (.inl ⟨by rfl, fun w hw => by (unfold execOp; go_simp; all_goals first | omega | (rw [IntKind.wrap_i64] <;> omega))⟩) hS ?_
        try simp only [Act.put, List.setIfInBounds_toArray, List.set_cons_zero, List.set_cons_succ]
        refine takeL 24 (.bool true) rfl (by kernel_rfl) (by kernel_rfl) (by kernel_rfl) (fun _ _ _ h => h) (.inl ⟨by rfl, fun w _ => by rfl⟩) hS ?_
        try simp only [Act.put, List.setIfInBounds_toArray, List.set_cons_zero, List.set_cons_succ]
        refine takeL 25 (.bool true) rfl (by kernel_rfl) (by kernel_rfl) (by kernel_rfl) (fun _ _ _ h => h) (.inl ⟨by rfl, fun w _ => by rfl⟩) hS ?_
        try simp only [Act.put, List.setIfInBounds_toArray, List.set_cons_zero, List.set_cons_succ]
        refine wpAnyH_done (by kernel_rfl) ?_ _
        clear hS
        go_wp2
        go_ret
        exact ⟨by rw [HE.out, HF.out]; rfl, BB⟩
      have HF : Hid (ascAt 0 ((s.attrs.length : Int) - 1) l k = true) := by show _ = _; rw [HST.out, decide_eq_true hyx, Bool.or_true]; rfl
      clear HST hin
      refine takeL 0 (.slice (some ⟨g, o, none⟩) l.length kl) rfl (by kernel_rfl) (by kernel_rfl) (by kernel_rfl) (fun _ _ _ h => h) (.inl ⟨by rfl, fun w _ => by rfl⟩) hS ?_
      try simp only [Act.put, List.setIfInBounds_toArray, List.set_cons_zero, List.set_cons_succ]
      refine takeL 1 (.int .i64 ((k : Int))) rfl (by kernel_rfl) (by kernel_rfl) (by kernel_rfl) (fun _ _ _ h => h) (.inl ⟨by rfl, fun w _ => by rfl⟩) hS ?_
      try simp only [Act.put, List.setIfInBounds_toArray, List.set_cons_zero, List.set_cons_succ]
      refine takeL 2 (.pointer (some ⟨g, o + k, none⟩)) rfl (by kernel_rfl) (by kernel_rfl) (by kernel_rfl) (fun _ _ _ h => h) (.inl ⟨by rfl, fun w hw => by (unfold execOp; go_simp; all_goals omega)⟩) hS ?_
      try simp only [Act.put, List.setIfInBounds_toArray, List.set_cons_zero, List.set_cons_succ]
      refine takeL 3 (.int .i64 x) rfl (by kernel_rfl) (by kernel_rfl) (by kernel_rfl) (fun _ _ _ h => h) (.inl ⟨by rfl, fun w hw => by (have h0 := hw.2.1; unfold execOp; go_simp)⟩) hS ?_
      try simp only [Act.put, List.setIfInBounds_toArray, List.set_cons_zero, List.set_cons_succ]
      refine takeL 4 (.pointer (some ⟨w.heap.size, 0, none⟩)) rfl (by kernel_rfl) (by kernel_rfl) (by kernel_rfl) (fun _ _ _ h => h) (.inl ⟨by rfl, fun w hw => by (unfold execOp; go_simp)⟩) hS ?_
      try simp only [Act.put, List.setIfInBounds_toArray, List.set_cons_zero, List.set_cons_succ]
      refine takeL 5 (.slice oa s.attrs.length ka) rfl (by kernel_rfl) (by kernel_rfl) (by kernel_rfl) (fun _ _ _ h => h) (.inl ⟨by rfl, fun w hw => by (have h0 := (hw.1).cell 0; unfold execOp; go_simp)⟩) hS ?_
      try simp only [Act.put, List.setIfInBounds_toArray, List.set_cons_zero, List.set_cons_succ]
      refine takeL 6 (.int .i64 ((s.attrs.length : Int))) rfl (by kernel_rfl) (by kernel_rfl) (by kernel_rfl) (fun _ _ _ h => h) (.inl ⟨by rfl, fun w hw => by (unfold execOp; go_simp)⟩) hS ?_
      try simp only [Act.put, List.setIfInBounds_toArray, List.set_cons_zero, List.set_cons_succ]
      refine takeL 7 (.int .i64 (((s.attrs.length : Int)) - 1)) rfl (by kernel_rfl) (by kernel_rfl) (by kernel_rfl) (fun _ _ _ h => h) (.inl ⟨by rfl, fun w hw => by (unfold execOp; go_simp; all_goals (rw [IntKind.wrap_i64]; omega))⟩) hS ?_
      try simp only [Act.put, List.setIfInBounds_toArray, List.set_cons_zero, List.set_cons_succ]
      refine nextL 8 rfl (by kernel_rfl) (by rfl) fun K hK => ?_
      go_simp
      refine cI.mono ?_
      clear cI
      rintro e w5 ⟨rfl, e5⟩
      rw [e5]
      clear e5 w5
      refine hK _ _ hS ?_
      clear hK K hS
      intro hS
      refine takeL 9 (.bool false) rfl (by kernel_rfl) (by kernel_rfl) (by kernel_rfl) (fun _ _ _ h => h) (.inl ⟨by rfl, fun w hw => by (unfold execOp; go_simp)⟩) hS ?_
      try simp only [Act.put, List.setIfInBounds_toArray, List.set_cons_zero, List.set_cons_succ]
      refine takeL 10 (.bool false) rfl (by kernel_rfl) (by kernel_rfl) (by kernel_rfl) (fun _ _ _ h => h) (.inl ⟨by rfl, fun w _ => by rfl⟩) hS ?_
      try simp only [Act.put, List.setIfInBounds_toArray, List.set_cons_zero, List.set_cons_succ]
      refine takeL 11 (.int .i64 ((k : Int))) rfl (by kernel_rfl) (by kernel_rfl) (by kernel_rfl) (fun _ _ _ h => h) (.inl ⟨by rfl, fun w _ => by rfl⟩) hS ?_
      try simp only [Act.put, List.setIfInBounds_toArray, List.set_cons_zero, List.set_cons_succ]
      refine takeL 12 (.bool true) rfl (by kernel_rfl) (by kernel_rfl) (by kernel_rfl) (fun _ _ _ h => h) (.inl ⟨by rfl, fun w hw => by (unfold execOp; go_simp; all_goals first | omega | (rw [IntKind.wrap_i64] <;> omega))⟩) hS ?_
      try simp only [Act.put, List.setIfInBounds_toArray, List.set_cons_zero, List.set_cons_succ]
      refine takeL 13 (.bool true) rfl (by kernel_rfl) (by kernel_rfl) (by kernel_rfl) (fun _ _ _ h => h) (.inl ⟨by rfl, fun w _ => by rfl⟩) hS ?_
      try simp only [Act.put, List.setIfInBounds_toArray, List.set_cons_zero, List.set_cons_succ]
      refine takeL 14 (.slice (some ⟨g, o, none⟩) l.length kl) rfl (by kernel_rfl) (by kernel_rfl) (by kernel_rfl) (fun _ _ _ h => h) (.inl ⟨by rfl, fun w _ => by rfl⟩) hS ?_
      try simp only [Act.put, List.setIfInBounds_toArray, List.set_cons_zero, List.set_cons_succ]
      refine takeL 15 (.int .i64 ((k : Int))) rfl (by kernel_rfl) (by kernel_rfl) (by kernel_rfl) (fun _ _ _ h => h) (.inl ⟨by rfl, fun w _ => by rfl⟩) hS ?_
      try simp only [Act.put, List.setIfInBounds_toArray, List.set_cons_zero, List.set_cons_succ]
      refine takeL 16 (.pointer (some ⟨g, o + k, none⟩)) rfl (by kernel_rfl) (by kernel_rfl) (by kernel_rfl) (fun _ _ _ h => h) (.inl ⟨by rfl, fun w hw => by (unfold execOp; go_simp; all_goals omega)⟩) hS ?_
      try simp only [Act.put, List.setIfInBounds_toArray, List.set_cons_zero, List.set_cons_succ]
      refine takeL 17 (.int .i64 x) rfl (by kernel_rfl) (by kernel_rfl) (by kernel_rfl) (fun _ _ _ h => h) (.inl ⟨by rfl, fun w hw => by (have h0 := hw.2.1; unfold execOp; go_simp)⟩) hS ?_
      try simp only [Act.put, List.setIfInBounds_toArray, List.set_cons_zero, List.set_cons_succ]
      refine takeL 18 (.slice (some ⟨g, o, none⟩) l.length kl) rfl (by kernel_rfl) (by kernel_rfl) (by kernel_rfl) (fun _ _ _ h => h) (.inl ⟨by rfl, fun w _ => by rfl⟩) hS ?_
      try simp only [Act.put, List.setIfInBounds_toArray, List.set_cons_zero, List.set_cons_succ]
      refine takeL 19 (.int .i64 ((k : Int))) rfl (by kernel_rfl) (by kernel_rfl) (by kernel_rfl) (fun _ _ _ h => h) (.inl ⟨by rfl, fun w _ => by rfl⟩) hS ?_
      try simp only [Act.put, List.setIfInBounds_toArray, List.set_cons_zero, List.set_cons_succ]
      refine takeL 20 (.int .i64 ((j : Int))) rfl (by kernel_rfl) (by kernel_rfl) (by kernel_rfl) (fun _ _ _ h => h) (.inl ⟨by rfl, fun w hw => by (unfold execOp; go_simp; all_goals first | omega | (rw [IntKind.wrap_i64] <;> omega))⟩) hS ?_
      try simp only [Act.put, List.setIfInBounds_toArray, List.set_cons_zero, List.set_cons_succ]
      refine takeL 21 (.pointer (some ⟨g, o + j, none⟩)) rfl (by kernel_rfl) (by kernel_rfl) (by kernel_rfl) (fun _ _ _ h => h) (.inl ⟨by rfl, fun w hw => by (unfold execOp; go_simp; all_goals omega)⟩) hS ?_
      try simp only [Act.put, List.setIfInBounds_toArray, List.set_cons_zero, List.set_cons_succ]
      refine takeL 22 (.int .i64 y) rfl (by kernel_rfl) (by kernel_rfl) (by kernel_rfl) (fun _ _ _ h => h) (.inl ⟨by rfl, fun w hw => by (have h0 := hw.2.2; unfold execOp; go_simp)⟩) hS ?_
      try simp only [Act.put, List.setIfInBounds_toArray, List.set_cons_zero, List.set_cons_succ]
      refine takeL 23 (.bool false) rfl (by kernel_rfl) (by kernel_rfl) (by kernel_rfl) (fun _ _ _ h => h) (.inl ⟨by rfl, fun w hw => by (unfold execOp; go_simp; all_goals first | omega | (rw [IntKind.wrap_i64] <;> omega))⟩) hS ?_
      try simp only [Act.put, List.setIfInBounds_toArray, List.set_cons_zero, List.set_cons_succ]
      refine takeL 24 (.bool false) rfl (by kernel_rfl) (by kernel_rfl) (by kernel_rfl) (fun _ _ _ h => h) (.inl ⟨by rfl, fun w _ => by rfl⟩) hS ?_
      try simp only [Act.put, List.setIfInBounds_toArray, List.set_cons_zero, List.set_cons_succ]
      refine takeL 25 (.bool false) rfl (by kernel_rfl) (by kernel_rfl) (by kernel_rfl) (fun _ _ _ h => h) (.inl ⟨by rfl, fun w _ => by rfl⟩) hS ?_
      try simp only [Act.put, List.setIfInBounds_toArray, List.set_cons_zero, List.set_cons_succ]
      refine wpAnyH_done (by kernel_rfl) ?_ _
      clear hS
      go_wp2
      go_roundw
      case rel =>
        refine ⟨k + 1, by go_num, by omega, ?_, BR⟩
        intro j' hj'
        by_cases e : j' = k
        · subst e; exact HF.out
        · exact hal.out j' (by omega)
      case measure => simp [intOf]; omega
end Go.Proofs.YtfflodcapcamcaaDoor
/- How many bins an attribute has, by the program and by the specification. -/
namespace Go.Proofs.YtfflodcapcamcaaDoor
open Go.RowKit
set_option maxRecDepth 100000

set_option maxHeartbeats 400000 in
theorem implBins_any (v : Value) (a : AttrD) (w : World) (h : AttrAt w v a) (hn : okA a) :
    Calls Tryd.prog 33 #[v] w fun e w' => e = .returned (.int .i64 (bins a)) ∧ Below w.heap.size w w' := by
  have c := fun W (hW : Below w.heap.size w W) => implAttrOk_any v a W (h.later hW) hn
  have c' := fun W (hW : Below w.heap.size w W) => nominal_any v a W (h.later hW)
  have lc := hn.cuts
  have lv := hn.vals.1
  obtain ⟨vc, vv, rfl, hc, hv⟩ := h
  obtain ⟨oc, cc, rfl, hcc, hcr⟩ := hc
  obtain ⟨ov, cv, rfl, hvc, hvr⟩ := hv
  clear hcr hvr hn
  have B0 : ∀ o, Below w.heap.size w (w.alloc o) := fun o => (Below.refl _ _).alloc (Nat.le_refl _) _
  have HB : Hid (∀ o, Below w.heap.size w (w.alloc o)) := B0
  clear B0
  cases hok : attrOk a with
  | false =>
    have HF : Hid (bins a = 0) := by unfold bins; rw [hok]; rfl
    rw [hok] at c
    clear hok c'
    go_enter Tryd.func33, Tryd.ntmps33
    go_wp2_with fail
    refine (c _ (HB.out _)).mono ?_
    rintro e w1 ⟨rfl, hb1⟩
    go_wp2
    go_ret
    exact ⟨by rw [HF.out]; rfl, (HB.out _).trans (hb1.mono (by simp))⟩
  | true =>
    rw [hok] at c
    by_cases h0 : 0 < a.vals.length
    · have HF : Hid (bins a = a.vals.length) := by unfold bins; rw [hok, if_pos rfl, if_neg (by omega)]; rfl
      clear hok
      go_enter Tryd.func33, Tryd.ntmps33
      go_wp2_with fail
      refine (c _ (HB.out _)).mono ?_
      rintro e w1 ⟨rfl, hb1⟩
      have K := (Blk.new _ _ _).below hb1
      have B1 := (HB.out _).trans (hb1.mono (by simp))
      have k0 : w1.cell? ⟨w.heap.size, 0, none⟩ = some (.string a.name) := K.cell 0
      have k1 : w1.cell? ⟨w.heap.size, 1, none⟩ = some (.slice oc a.cuts.length cc) := K.cell 1
      have k2 : w1.cell? ⟨w.heap.size, 2, none⟩ = some (.slice ov a.vals.length cv) := K.cell 2
      clear c hb1
      go_wp2_with fail
      refine (c' _ B1).mono ?_
      rintro e w2 ⟨rfl, hb2⟩
      have k2 : w2.cell? ⟨w.heap.size, 2, none⟩ = some (.slice ov a.vals.length cv) := (K.below hb2).cell 2
      clear c' K
      rw [decide_eq_true h0]
      go_wp2
      go_ret
      exact ⟨by rw [HF.out]; rfl, B1.trans (hb2.mono B1.size)⟩
    · have HF : Hid (bins a = a.cuts.length + 1) := by unfold bins; rw [hok, if_pos rfl, if_pos (by omega)]; rfl
      clear hok
      go_enter Tryd.func33, Tryd.ntmps33
      go_wp2_with fail
      refine (c _ (HB.out _)).mono ?_
      rintro e w1 ⟨rfl, hb1⟩
      have K := (Blk.new _ _ _).below hb1
      have B1 := (HB.out _).trans (hb1.mono (by simp))
      have k0 : w1.cell? ⟨w.heap.size, 0, none⟩ = some (.string a.name) := K.cell 0
      have k1 : w1.cell? ⟨w.heap.size, 1, none⟩ = some (.slice oc a.cuts.length cc) := K.cell 1
      have k2 : w1.cell? ⟨w.heap.size, 2, none⟩ = some (.slice ov a.vals.length cv) := K.cell 2
      clear c hb1
      go_wp2_with fail
      refine (c' _ B1).mono ?_
      rintro e w2 ⟨rfl, hb2⟩
      have k1 : w2.cell? ⟨w.heap.size, 1, none⟩ = some (.slice oc a.cuts.length cc) := (K.below hb2).cell 1
      clear c' K
      rw [decide_eq_false h0]
      go_wp2
      go_ret
      exact ⟨by rw [HF.out]; first | rfl | (congr 1; go_num), B1.trans (hb2.mono B1.size)⟩

end Go.Proofs.YtfflodcapcamcaaDoor
/- The question that is asked, by the program. -/
namespace Go.Proofs.YtfflodcapcamcaaDoor
open Go.RowKit
set_option maxRecDepth 100000
set_option linter.unusedSimpArgs false
/-- The question as the program holds it. -/
def questionV (s : SchemaD) (f : ForkD) : Value :=
  if forkOk s f = true then
    (if f.pos = -1 then .iface 67 (.agg #[.int .i64 (bins (forkAttr s f))]) else if 0 < (forkAttr s f).vals.length then .iface 69 (.agg #[.int .i64 f.pos]) else .iface 70 (.agg #[.int .i64 f.pos]))
  else .nilIface
theorem questionV_no {s : SchemaD} {f : ForkD} (h : forkOk s f = false) : questionV s f = .nilIface := by unfold questionV; rw [if_neg (by rw [h]; exact Bool.false_ne_true)]
theorem questionV_yes {s : SchemaD} {f : ForkD} (h : forkOk s f = true) : questionV s f = if f.pos = -1 then .iface 67 (.agg #[.int .i64 (bins (forkAttr s f))]) else if 0 < (forkAttr s f).vals.length then .iface 69 (.agg #[.int .i64 f.pos]) else .iface 70 (.agg #[.int .i64 f.pos]) := by unfold questionV; exact if_pos h
theorem way_le {a : AttrD} (h : okA a) : (wayN a : Int) ≤ 1099511627776 := by
  have h1 := h.cuts
  have h2 := h.vals.1
  unfold wayN
  split <;> omega
set_option maxHeartbeats 3200000 in
theorem questionOf_any (vs : Value) (s : SchemaD) (f : ForkD) (w : World) (hs : SchemaAt w vs s) (hn : okSch s) :
    Calls Tryd.prog 22 #[vs, forkV f] w fun e w' => e = .returned (.tuple #[questionV s f, .bool (forkOk s f)]) ∧ Below w.heap.size w w' := by
  unfold forkV
  have HS : Hid (∀ W, Below w.heap.size w W → SchemaAt W vs s) := fun W h => hs.later h
  have HOK : Hid (okSch s) := hn
  obtain ⟨va, vc, rfl, ra, -⟩ := hs
  obtain ⟨oa, ka, rfl, -, -⟩ := id ra
  clear ra hn
  have la := HOK.out.attrs
  obtain ⟨KS, KF, B⟩ := blk_2 27 36 w #[.slice oa s.attrs.length ka, vc] #[.int .i64 f.attr, .int .i64 f.pos]
  have cc := implSchemaOk_any _ s _ (HS.out _ B) HOK.out
  cases hk : schemaOk s with
  | false =>
    have HE : Hid (forkOk s f = false) := by show _ = _; unfold forkOk; rw [hk]; rfl
    rw [hk] at cc
    clear hk
    go_enter Tryd.func22, Tryd.ntmps22
    have kS0 : ((w.alloc (.cells #[.slice oa s.attrs.length ka, vc] 27)).alloc (.cells #[.int .i64 f.attr, .int .i64 f.pos] 36)).cell? ⟨w.heap.size, 0, none⟩ = some (.slice oa s.attrs.length ka) := KS.cell 0
    have kS1 : ((w.alloc (.cells #[.slice oa s.attrs.length ka, vc] 27)).alloc (.cells #[.int .i64 f.attr, .int .i64 f.pos] 36)).cell? ⟨w.heap.size, 1, none⟩ = some (vc) := KS.cell 1
    have kF0 : ((w.alloc (.cells #[.slice oa s.attrs.length ka, vc] 27)).alloc (.cells #[.int .i64 f.attr, .int .i64 f.pos] 36)).cell? ⟨w.heap.size + 1, 0, none⟩ = some (.int .i64 f.attr) := KF.cell 0
    have kF1 : ((w.alloc (.cells #[.slice oa s.attrs.length ka, vc] 27)).alloc (.cells #[.int .i64 f.attr, .int .i64 f.pos] 36)).cell? ⟨w.heap.size + 1, 1, none⟩ = some (.int .i64 f.pos) := KF.cell 1
    go_wp2_with fail
    refine cc.mono ?_
    clear cc
    clear kS0 kS1 kF0 kF1
    rintro e w1 ⟨rfl, hb⟩
    replace KS := KS.below hb
    replace KF := KF.below hb
    replace B := B.trans (hb.mono B.size)
    go_wp2
    go_ret2
    exact ⟨by rw [questionV_no HE.out, HE.out]; rfl, B⟩
  | true =>
    have HX : Hid (forkOk s f = (decide (0 ≤ f.attr ∧ f.attr ≤ (s.attrs.length : Int) - 1) && decide (-1 ≤ f.pos ∧ f.pos ≤ forkTop s f))) := by show _ = _; unfold forkOk; rw [hk]; rfl
    rw [hk] at cc
    have HAO : Hid (∀ j, j < s.attrs.length → attrOk (ad s.attrs j) = true) := fun j hj => sch_attr hk hj
    clear hk
    by_cases ha0 : f.attr < 0
    · have HE : Hid (forkOk s f = false) := by show _ = _; rw [HX.out, decide_eq_false (by omega)]; rfl
      clear HX HAO
      go_enter Tryd.func22, Tryd.ntmps22
      have kS0 : ((w.alloc (.cells #[.slice oa s.attrs.length ka, vc] 27)).alloc (.cells #[.int .i64 f.attr, .int .i64 f.pos] 36)).cell? ⟨w.heap.size, 0, none⟩ = some (.slice oa s.attrs.length ka) := KS.cell 0
      have kS1 : ((w.alloc (.cells #[.slice oa s.attrs.length ka, vc] 27)).alloc (.cells #[.int .i64 f.attr, .int .i64 f.pos] 36)).cell? ⟨w.heap.size, 1, none⟩ = some (vc) := KS.cell 1
      have kF0 : ((w.alloc (.cells #[.slice oa s.attrs.length ka, vc] 27)).alloc (.cells #[.int .i64 f.attr, .int .i64 f.pos] 36)).cell? ⟨w.heap.size + 1, 0, none⟩ = some (.int .i64 f.attr) := KF.cell 0
      have kF1 : ((w.alloc (.cells #[.slice oa s.attrs.length ka, vc] 27)).alloc (.cells #[.int .i64 f.attr, .int .i64 f.pos] 36)).cell? ⟨w.heap.size + 1, 1, none⟩ = some (.int .i64 f.pos) := KF.cell 1
      go_wp2_with fail
      refine cc.mono ?_
      clear cc
      clear kS0 kS1 kF0 kF1
      rintro e w1 ⟨rfl, hb⟩
      replace KS := KS.below hb
      replace KF := KF.below hb
      replace B := B.trans (hb.mono B.size)
      clear hb
      have kS0 : w1.cell? ⟨w.heap.size, 0, none⟩ = some (.slice oa s.attrs.length ka) := KS.cell 0
      have kS1 : w1.cell? ⟨w.heap.size, 1, none⟩ = some (vc) := KS.cell 1
      have kF0 : w1.cell? ⟨w.heap.size + 1, 0, none⟩ = some (.int .i64 f.attr) := KF.cell 0
      have kF1 : w1.cell? ⟨w.heap.size + 1, 1, none⟩ = some (.int .i64 f.pos) := KF.cell 1
      go_wp2
      go_ret2
      exact ⟨by rw [questionV_no HE.out, HE.out]; rfl, B⟩
    by_cases ha1 : (s.attrs.length : Int) ≤ f.attr
    · have HE : Hid (forkOk s f = false) := by show _ = _; rw [HX.out, decide_eq_false (by omega)]; rfl
      clear HX HAO
      go_enter Tryd.func22, Tryd.ntmps22
      have kS0 : ((w.alloc (.cells #[.slice oa s.attrs.length ka, vc] 27)).alloc (.cells #[.int .i64 f.attr, .int .i64 f.pos] 36)).cell? ⟨w.heap.size, 0, none⟩ = some (.slice oa s.attrs.length ka) := KS.cell 0
      have kS1 : ((w.alloc (.cells #[.slice oa s.attrs.length ka, vc] 27)).alloc (.cells #[.int .i64 f.attr, .int .i64 f.pos] 36)).cell? ⟨w.heap.size, 1, none⟩ = some (vc) := KS.cell 1
      have kF0 : ((w.alloc (.cells #[.slice oa s.attrs.length ka, vc] 27)).alloc (.cells #[.int .i64 f.attr, .int .i64 f.pos] 36)).cell? ⟨w.heap.size + 1, 0, none⟩ = some (.int .i64 f.attr) := KF.cell 0
      have kF1 : ((w.alloc (.cells #[.slice oa s.attrs.length ka, vc] 27)).alloc (.cells #[.int .i64 f.attr, .int .i64 f.pos] 36)).cell? ⟨w.heap.size + 1, 1, none⟩ = some (.int .i64 f.pos) := KF.cell 1
      go_wp2_with fail
      refine cc.mono ?_
      clear cc
      clear kS0 kS1 kF0 kF1
      rintro e w1 ⟨rfl, hb⟩
      replace KS := KS.below hb
      replace KF := KF.below hb
      replace B := B.trans (hb.mono B.size)
      clear hb
      have kS0 : w1.cell? ⟨w.heap.size, 0, none⟩ = some (.slice oa s.attrs.length ka) := KS.cell 0
      have kS1 : w1.cell? ⟨w.heap.size, 1, none⟩ = some (vc) := KS.cell 1
      have kF0 : w1.cell? ⟨w.heap.size + 1, 0, none⟩ = some (.int .i64 f.attr) := KF.cell 0
      have kF1 : w1.cell? ⟨w.heap.size + 1, 1, none⟩ = some (.int .i64 f.pos) := KF.cell 1
      go_wp2
      go_ret2
      exact ⟨by rw [questionV_no HE.out, HE.out]; rfl, B⟩
    have HX2 : Hid (forkOk s f = decide (-1 ≤ f.pos ∧ f.pos ≤ forkTop s f)) := by show _ = _; rw [HX.out, decide_eq_true (by omega), Bool.true_and]
    clear HX
    obtain ⟨k, hk⟩ := Int.eq_ofNat_of_zero_le (Int.not_lt.1 ha0)
    have hlt : k < s.attrs.length := by omega
    have HFA : Hid (forkAttr s f = ad s.attrs k) := by show _ = _; unfold forkAttr; rw [hk]; rfl
    have HOA : Hid (attrOk (ad s.attrs k) = true) := HAO.out k hlt
    clear HAO
    have HT : Hid (forkTop s f = (wayN (ad s.attrs k) : Int) - 1) := by show _ = _; rw [top_eq (by rw [HFA.out]; exact HOA.out), HFA.out]
    have HQ : Hid (forkOk s f = true → questionV s f = if f.pos = -1 then .iface 67 (.agg #[.int .i64 (bins (ad s.attrs k))]) else if 0 < (ad s.attrs k).vals.length then .iface 69 (.agg #[.int .i64 f.pos]) else .iface 70 (.agg #[.int .i64 f.pos])) := fun h => by rw [questionV_yes h, HFA.out]
    have HX3 : Hid (forkOk s f = decide (-1 ≤ f.pos ∧ f.pos < (wayN (ad s.attrs k) : Int))) := by show _ = _; rw [HX2.out, HT.out]; exact decide_eq_decide.2 (by omega)
    clear HX2 HT HFA
    have hw : (wayN (ad s.attrs k) : Int) ≤ 1099511627776 := way_le (HOK.out.each _ (ad_mem hlt))
    obtain ⟨nw, hnw⟩ : ∃ nw, wayN (ad s.attrs k) = nw := ⟨_, rfl⟩
    rw [hnw] at HX3 hw
    have HKK : Hid (f.attr = (k : Int)) := hk
    obtain ⟨fv, hfv⟩ : ∃ fv, f.attr = fv := ⟨_, rfl⟩
    rw [hfv] at hk KS KF B cc HKK ha0 ha1
    rw [hfv]
    subst hk
    go_enter Tryd.func22, Tryd.ntmps22
    have kS0 : ((w.alloc (.cells #[.slice oa s.attrs.length ka, vc] 27)).alloc (.cells #[.int .i64 (k : Int), .int .i64 f.pos] 36)).cell? ⟨w.heap.size, 0, none⟩ = some (.slice oa s.attrs.length ka) := KS.cell 0
    have kS1 : ((w.alloc (.cells #[.slice oa s.attrs.length ka, vc] 27)).alloc (.cells #[.int .i64 (k : Int), .int .i64 f.pos] 36)).cell? ⟨w.heap.size, 1, none⟩ = some (vc) := KS.cell 1
    have kF0 : ((w.alloc (.cells #[.slice oa s.attrs.length ka, vc] 27)).alloc (.cells #[.int .i64 (k : Int), .int .i64 f.pos] 36)).cell? ⟨w.heap.size + 1, 0, none⟩ = some (.int .i64 (k : Int)) := KF.cell 0
    have kF1 : ((w.alloc (.cells #[.slice oa s.attrs.length ka, vc] 27)).alloc (.cells #[.int .i64 (k : Int), .int .i64 f.pos] 36)).cell? ⟨w.heap.size + 1, 1, none⟩ = some (.int .i64 f.pos) := KF.cell 1
    go_wp2_with fail
    refine cc.mono ?_
    clear cc
    clear kS0 kS1 kF0 kF1
    rintro e w1 ⟨rfl, hb⟩
    replace KS := KS.below hb
    replace KF := KF.below hb
    replace B := B.trans (hb.mono B.size)
    clear hb
    obtain ⟨ga, fa, y1, z1, y2, z2, rfl, hat⟩ := attr_at (HS.out _ B) hlt
    have HAT : Hid _ := hat
    clear hat
    obtain ⟨c0, c1, c2, -⟩ := HAT.out _ (Below.refl _ _)
    have HB : Hid (okA (ad s.attrs k)) := HOK.out.each _ (ad_mem hlt)
    have kS0 : w1.cell? ⟨w.heap.size, 0, none⟩ = some (.slice (some ⟨ga, fa, none⟩) s.attrs.length ka) := KS.cell 0
    have kS1 : w1.cell? ⟨w.heap.size, 1, none⟩ = some (vc) := KS.cell 1
    have kF0 : w1.cell? ⟨w.heap.size + 1, 0, none⟩ = some (.int .i64 (k : Int)) := KF.cell 0
    have kF1 : w1.cell? ⟨w.heap.size + 1, 1, none⟩ = some (.int .i64 f.pos) := KF.cell 1
    go_wp2_with fail
    clear kS0 kS1 kF0 kF1
    clear c0 c1 c2
    have KA := Blk.new 46 w1 #[.string (ad s.attrs k).name, .slice y1 (ad s.attrs k).cuts.length z1, .slice y2 (ad s.attrs k).vals.length z2]
    have bA : Below w1.heap.size w1 (w1.alloc (.cells #[.string (ad s.attrs k).name, .slice y1 (ad s.attrs k).cuts.length z1, .slice y2 (ad s.attrs k).vals.length z2] 46)) := (Below.refl _ _).alloc (Nat.le_refl _) _
    have HAT2 : Hid (∀ W, Below (w1.alloc (.cells #[.string (ad s.attrs k).name, .slice y1 (ad s.attrs k).cuts.length z1, .slice y2 (ad s.attrs k).vals.length z2] 46)).heap.size (w1.alloc (.cells #[.string (ad s.attrs k).name, .slice y1 (ad s.attrs k).cuts.length z1, .slice y2 (ad s.attrs k).vals.length z2] 46)) W → AttrAt W (.agg #[.string (ad s.attrs k).name, .slice y1 (ad s.attrs k).cuts.length z1, .slice y2 (ad s.attrs k).vals.length z2]) (ad s.attrs k)) := fun W h => (HAT.out W (bA.trans (h.mono (by simp)))).2.2.2
    clear HAT
    replace KS := KS.below bA
    replace KF := KF.below bA
    replace B := B.trans (bA.mono B.size)
    clear bA
    generalize w1.alloc (.cells #[.string (ad s.attrs k).name, .slice y1 (ad s.attrs k).cuts.length z1, .slice y2 (ad s.attrs k).vals.length z2] 46) = w2 at KS KF KA B HAT2
    generalize w1.heap.size = ba at KA ⊢
    clear KS HS HOK ha0 ha1
    by_cases hp0 : f.pos < -1
    · have HE : Hid (forkOk s f = false) := by show _ = _; rw [HX3.out, decide_eq_false (by omega)]
      clear HX3 HQ
      have bd : Below w2.heap.size w2 w2.drew := below_drewN (Below.refl _ _) 1
      refine wp_region_held_drew (S := fun w' => Blk 36 w' (w.heap.size + 1) #[.int .i64 (k : Int), .int .i64 f.pos] ∧ Blk 46 w' ba #[.string (ad s.attrs k).name, .slice y1 (ad s.attrs k).cuts.length z1, .slice y2 (ad s.attrs k).vals.length z2]) (by kernel_rfl) ⟨KF.below bd, KA.below bd⟩ ?_
      intro hS
      replace KF := KF.below bd
      replace B := B.trans (bd.mono B.size)
      replace KA := KA.below bd
      replace HAT2 : Hid (∀ W, Below w2.drew.heap.size w2.drew W → AttrAt W (.agg #[.string (ad s.attrs k).name, .slice y1 (ad s.attrs k).cuts.length z1, .slice y2 (ad s.attrs k).vals.length z2]) (ad s.attrs k)) := fun W h => HAT2.out W (bd.trans (h.mono bd.size))
      clear bd
      generalize w2.drew = w3 at KF KA B HAT2 hS ⊢
      refine takeL 0 (.pointer (some ⟨w.heap.size + 1, 1, none⟩)) rfl (by kernel_rfl) (by kernel_rfl) (by kernel_rfl) (fun _ _ _ h => h) (.inl ⟨by rfl, fun w hw => by (unfold execOp; go_simp)⟩) hS ?_
      try simp only [Act.put, List.setIfInBounds_toArray, List.set_cons_zero, List.set_cons_succ]
      refine takeL 1 (.int .i64 f.pos) rfl (by kernel_rfl) (by kernel_rfl) (by kernel_rfl) (fun _ _ _ h => h) (.inl ⟨by rfl, fun w hw => by (have h0 := (hw.1).cell 1; unfold execOp; go_simp)⟩) hS ?_
      try simp only [Act.put, List.setIfInBounds_toArray, List.set_cons_zero, List.set_cons_succ]
      refine takeL 2 (.bool true) rfl (by kernel_rfl) (by kernel_rfl) (by kernel_rfl) (fun _ _ _ h => h) (.inl ⟨by rfl, fun w hw => by (unfold execOp; go_simp)⟩) hS ?_
      try simp only [Act.put, List.setIfInBounds_toArray, List.set_cons_zero, List.set_cons_succ]
      refine takeL 3 (.bool true) rfl (by kernel_rfl) (by kernel_rfl) (by kernel_rfl) (fun _ _ _ h => h) (.inl ⟨by rfl, fun w _ => by rfl⟩) hS ?_
      try simp only [Act.put, List.setIfInBounds_toArray, List.set_cons_zero, List.set_cons_succ]
      refine takeL 4 (undef) rfl (by kernel_rfl) (by kernel_rfl) (by kernel_rfl) (fun _ _ _ h => h) (.inr ⟨by rfl, rfl⟩) hS ?_
      try simp only [Act.put, List.setIfInBounds_toArray, List.set_cons_zero, List.set_cons_succ]
      refine takeL 5 (undef) rfl (by kernel_rfl) (by kernel_rfl) (by kernel_rfl) (fun _ _ _ h => h) (.inr ⟨by rfl, rfl⟩) hS ?_
      try simp only [Act.put, List.setIfInBounds_toArray, List.set_cons_zero, List.set_cons_succ]
      refine takeL 6 (undef) rfl (by kernel_rfl) (by kernel_rfl) (by kernel_rfl) (fun _ _ _ h => h) (.inr ⟨by rfl, rfl⟩) hS ?_
      try simp only [Act.put, List.setIfInBounds_toArray, List.set_cons_zero, List.set_cons_succ]
      refine takeL 7 (undef) rfl (by kernel_rfl) (by kernel_rfl) (by kernel_rfl) (fun _ _ _ h => h) (.inr ⟨by rfl, rfl⟩) hS ?_
      try simp only [Act.put, List.setIfInBounds_toArray, List.set_cons_zero, List.set_cons_succ]
      refine takeL 8 (undef) rfl (by kernel_rfl) (by kernel_rfl) (by kernel_rfl) (fun _ _ _ h => h) (.inr ⟨by rfl, rfl⟩) hS ?_
      try simp only [Act.put, List.setIfInBounds_toArray, List.set_cons_zero, List.set_cons_succ]
      refine takeL 9 (.bool true) rfl (by kernel_rfl) (by kernel_rfl) (by kernel_rfl) (fun _ _ _ h => h) (.inl ⟨by rfl, fun w _ => by rfl⟩) hS ?_
      try simp only [Act.put, List.setIfInBounds_toArray, List.set_cons_zero, List.set_cons_succ]
      refine wpAnyH_done (by kernel_rfl) ?_ _
      clear hS
      go_wp2
      go_ret2
      exact ⟨by rw [questionV_no HE.out, HE.out]; rfl, B⟩
    by_cases hp1 : (nw : Int) ≤ f.pos
    · have HE : Hid (forkOk s f = false) := by show _ = _; rw [HX3.out, decide_eq_false (by omega)]
      clear HX3 HQ
      have bd : Below w2.heap.size w2 w2.drew := below_drewN (Below.refl _ _) 1
      refine wp_region_held_drew (S := fun w' => Blk 36 w' (w.heap.size + 1) #[.int .i64 (k : Int), .int .i64 f.pos] ∧ Blk 46 w' ba #[.string (ad s.attrs k).name, .slice y1 (ad s.attrs k).cuts.length z1, .slice y2 (ad s.attrs k).vals.length z2]) (by kernel_rfl) ⟨KF.below bd, KA.below bd⟩ ?_
      intro hS
      have cT := twoWays_any _ _ _ (HAT2.out _ bd) HOA.out
      rw [hnw] at cT
      replace KF := KF.below bd
      replace B := B.trans (bd.mono B.size)
      replace KA := KA.below bd
      replace HAT2 : Hid (∀ W, Below w2.drew.heap.size w2.drew W → AttrAt W (.agg #[.string (ad s.attrs k).name, .slice y1 (ad s.attrs k).cuts.length z1, .slice y2 (ad s.attrs k).vals.length z2]) (ad s.attrs k)) := fun W h => HAT2.out W (bd.trans (h.mono bd.size))
      clear bd
      generalize w2.drew = w3 at KF KA B HAT2 hS cT ⊢
      refine takeL 0 (.pointer (some ⟨w.heap.size + 1, 1, none⟩)) rfl (by kernel_rfl) (by kernel_rfl) (by kernel_rfl) (fun _ _ _ h => h) (.inl ⟨by rfl, fun w hw => by (unfold execOp; go_simp)⟩) hS ?_
      try simp only [Act.put, List.setIfInBounds_toArray, List.set_cons_zero, List.set_cons_succ]
      refine takeL 1 (.int .i64 f.pos) rfl (by kernel_rfl) (by kernel_rfl) (by kernel_rfl) (fun _ _ _ h => h) (.inl ⟨by rfl, fun w hw => by (have h0 := (hw.1).cell 1; unfold execOp; go_simp)⟩) hS ?_
      try simp only [Act.put, List.setIfInBounds_toArray, List.set_cons_zero, List.set_cons_succ]
      refine takeL 2 (.bool false) rfl (by kernel_rfl) (by kernel_rfl) (by kernel_rfl) (fun _ _ _ h => h) (.inl ⟨by rfl, fun w hw => by (unfold execOp; go_simp)⟩) hS ?_
      try simp only [Act.put, List.setIfInBounds_toArray, List.set_cons_zero, List.set_cons_succ]
      refine takeL 3 (.bool false) rfl (by kernel_rfl) (by kernel_rfl) (by kernel_rfl) (fun _ _ _ h => h) (.inl ⟨by rfl, fun w _ => by rfl⟩) hS ?_
      try simp only [Act.put, List.setIfInBounds_toArray, List.set_cons_zero, List.set_cons_succ]
      refine takeL 4 (.pointer (some ⟨w.heap.size + 1, 1, none⟩)) rfl (by kernel_rfl) (by kernel_rfl) (by kernel_rfl) (fun _ _ _ h => h) (.inl ⟨by rfl, fun w hw => by (unfold execOp; go_simp)⟩) hS ?_
      try simp only [Act.put, List.setIfInBounds_toArray, List.set_cons_zero, List.set_cons_succ]
      refine takeL 5 (.int .i64 f.pos) rfl (by kernel_rfl) (by kernel_rfl) (by kernel_rfl) (fun _ _ _ h => h) (.inl ⟨by rfl, fun w hw => by (have h0 := (hw.1).cell 1; unfold execOp; go_simp)⟩) hS ?_
      try simp only [Act.put, List.setIfInBounds_toArray, List.set_cons_zero, List.set_cons_succ]
      refine takeL 6 (.agg #[.string (ad s.attrs k).name, .slice y1 (ad s.attrs k).cuts.length z1, .slice y2 (ad s.attrs k).vals.length z2]) rfl (by kernel_rfl) (by kernel_rfl) (by kernel_rfl) (fun _ _ _ h => h) (yields_row Tryd.underlying46 (by kernel_rfl) (by rfl) _ rfl _ rfl (fun _ h => h.2)) hS ?_
      try simp only [Act.put, List.setIfInBounds_toArray, List.set_cons_zero, List.set_cons_succ]
      refine nextL 7 rfl (by kernel_rfl) (by rfl) fun K hK => ?_
      go_simp
      refine cT.mono ?_
      clear cT
      rintro e w4 ⟨rfl, hb⟩
      replace hS : (fun w' => Blk 36 w' (w.heap.size + 1) #[.int .i64 (k : Int), .int .i64 f.pos] ∧ Blk 46 w' ba #[.string (ad s.attrs k).name, .slice y1 (ad s.attrs k).cuts.length z1, .slice y2 (ad s.attrs k).vals.length z2]) w4 := ⟨hS.1.below hb, hS.2.below hb⟩
      replace HAT2 : Hid (∀ W, Below w4.heap.size w4 W → AttrAt W (.agg #[.string (ad s.attrs k).name, .slice y1 (ad s.attrs k).cuts.length z1, .slice y2 (ad s.attrs k).vals.length z2]) (ad s.attrs k)) := fun W h => HAT2.out W (hb.trans (h.mono hb.size))
      replace B := B.trans (hb.mono B.size)
      clear KF KA hb
      refine hK _ _ hS ?_
      clear hK K hS
      intro hS
      refine takeL 8 (.bool true) rfl (by kernel_rfl) (by kernel_rfl) (by kernel_rfl) (fun _ _ _ h => h) (.inl ⟨by rfl, fun w hw => by (unfold execOp; go_simp)⟩) hS ?_
      try simp only [Act.put, List.setIfInBounds_toArray, List.set_cons_zero, List.set_cons_succ]
      refine takeL 9 (.bool true) rfl (by kernel_rfl) (by kernel_rfl) (by kernel_rfl) (fun _ _ _ h => h) (.inl ⟨by rfl, fun w _ => by rfl⟩) hS ?_
      try simp only [Act.put, List.setIfInBounds_toArray, List.set_cons_zero, List.set_cons_succ]
      refine wpAnyH_done (by kernel_rfl) ?_ _
      obtain ⟨KF, KA⟩ := hS
      go_wp2
      go_ret2
      exact ⟨by rw [questionV_no HE.out, HE.out]; rfl, B⟩
    have HE : Hid (forkOk s f = true) := by show _ = _; rw [HX3.out, decide_eq_true (by omega)]
    have HQ2 : Hid _ := HQ.out HE.out
    clear HQ HX3
    have bd : Below w2.heap.size w2 w2.drew := below_drewN (Below.refl _ _) 1
    refine wp_region_held_drew (S := fun w' => Blk 36 w' (w.heap.size + 1) #[.int .i64 (k : Int), .int .i64 f.pos] ∧ Blk 46 w' ba #[.string (ad s.attrs k).name, .slice y1 (ad s.attrs k).cuts.length z1, .slice y2 (ad s.attrs k).vals.length z2]) (by kernel_rfl) ⟨KF.below bd, KA.below bd⟩ ?_
    intro hS
    have cT := twoWays_any _ _ _ (HAT2.out _ bd) HOA.out
    rw [hnw] at cT
    replace KF := KF.below bd
    replace B := B.trans (bd.mono B.size)
    replace KA := KA.below bd
    replace HAT2 : Hid (∀ W, Below w2.drew.heap.size w2.drew W → AttrAt W (.agg #[.string (ad s.attrs k).name, .slice y1 (ad s.attrs k).cuts.length z1, .slice y2 (ad s.attrs k).vals.length z2]) (ad s.attrs k)) := fun W h => HAT2.out W (bd.trans (h.mono bd.size))
    clear bd
    generalize w2.drew = w3 at KF KA B HAT2 hS cT ⊢
    refine takeL 0 (.pointer (some ⟨w.heap.size + 1, 1, none⟩)) rfl (by kernel_rfl) (by kernel_rfl) (by kernel_rfl) (fun _ _ _ h => h) (.inl ⟨by rfl, fun w hw => by (unfold execOp; go_simp)⟩) hS ?_
    try simp only [Act.put, List.setIfInBounds_toArray, List.set_cons_zero, List.set_cons_succ]
    refine takeL 1 (.int .i64 f.pos) rfl (by kernel_rfl) (by kernel_rfl) (by kernel_rfl) (fun _ _ _ h => h) (.inl ⟨by rfl, fun w hw => by (have h0 := (hw.1).cell 1; unfold execOp; go_simp)⟩) hS ?_
    try simp only [Act.put, List.setIfInBounds_toArray, List.set_cons_zero, List.set_cons_succ]
    refine takeL 2 (.bool false) rfl (by kernel_rfl) (by kernel_rfl) (by kernel_rfl) (fun _ _ _ h => h) (.inl ⟨by rfl, fun w hw => by (unfold execOp; go_simp)⟩) hS ?_
    try simp only [Act.put, List.setIfInBounds_toArray, List.set_cons_zero, List.set_cons_succ]
    refine takeL 3 (.bool false) rfl (by kernel_rfl) (by kernel_rfl) (by kernel_rfl) (fun _ _ _ h => h) (.inl ⟨by rfl, fun w _ => by rfl⟩) hS ?_
    try simp only [Act.put, List.setIfInBounds_toArray, List.set_cons_zero, List.set_cons_succ]
    refine takeL 4 (.pointer (some ⟨w.heap.size + 1, 1, none⟩)) rfl (by kernel_rfl) (by kernel_rfl) (by kernel_rfl) (fun _ _ _ h => h) (.inl ⟨by rfl, fun w hw => by (unfold execOp; go_simp)⟩) hS ?_
    try simp only [Act.put, List.setIfInBounds_toArray, List.set_cons_zero, List.set_cons_succ]
    refine takeL 5 (.int .i64 f.pos) rfl (by kernel_rfl) (by kernel_rfl) (by kernel_rfl) (fun _ _ _ h => h) (.inl ⟨by rfl, fun w hw => by (have h0 := (hw.1).cell 1; unfold execOp; go_simp)⟩) hS ?_
    try simp only [Act.put, List.setIfInBounds_toArray, List.set_cons_zero, List.set_cons_succ]
    refine takeL 6 (.agg #[.string (ad s.attrs k).name, .slice y1 (ad s.attrs k).cuts.length z1, .slice y2 (ad s.attrs k).vals.length z2]) rfl (by kernel_rfl) (by kernel_rfl) (by kernel_rfl) (fun _ _ _ h => h) (yields_row Tryd.underlying46 (by kernel_rfl) (by rfl) _ rfl _ rfl (fun _ h => h.2)) hS ?_
    try simp only [Act.put, List.setIfInBounds_toArray, List.set_cons_zero, List.set_cons_succ]
    refine nextL 7 rfl (by kernel_rfl) (by rfl) fun K hK => ?_
    go_simp
    refine cT.mono ?_
    clear cT
    rintro e w4 ⟨rfl, hb⟩
    replace hS : (fun w' => Blk 36 w' (w.heap.size + 1) #[.int .i64 (k : Int), .int .i64 f.pos] ∧ Blk 46 w' ba #[.string (ad s.attrs k).name, .slice y1 (ad s.attrs k).cuts.length z1, .slice y2 (ad s.attrs k).vals.length z2]) w4 := ⟨hS.1.below hb, hS.2.below hb⟩
    replace HAT2 : Hid (∀ W, Below w4.heap.size w4 W → AttrAt W (.agg #[.string (ad s.attrs k).name, .slice y1 (ad s.attrs k).cuts.length z1, .slice y2 (ad s.attrs k).vals.length z2]) (ad s.attrs k)) := fun W h => HAT2.out W (hb.trans (h.mono hb.size))
    replace B := B.trans (hb.mono B.size)
    clear KF KA hb
    refine hK _ _ hS ?_
    clear hK K hS
    intro hS
    refine takeL 8 (.bool false) rfl (by kernel_rfl) (by kernel_rfl) (by kernel_rfl) (fun _ _ _ h => h) (.inl ⟨by rfl, fun w hw => by (unfold execOp; go_simp)⟩) hS ?_
    try simp only [Act.put, List.setIfInBounds_toArray, List.set_cons_zero, List.set_cons_succ]
    refine takeL 9 (.bool false) rfl (by kernel_rfl) (by kernel_rfl) (by kernel_rfl) (fun _ _ _ h => h) (.inl ⟨by rfl, fun w _ => by rfl⟩) hS ?_
    try simp only [Act.put, List.setIfInBounds_toArray, List.set_cons_zero, List.set_cons_succ]
    refine wpAnyH_done (by kernel_rfl) ?_ _
    obtain ⟨KF, KA⟩ := hS
    by_cases hp : f.pos = -1
    · have hpe : (f.pos == -1) = true := by rw [hp]; rfl
      have HR : Hid (questionV s f = .iface 67 (.agg #[.int .i64 (bins (ad s.attrs k))])) := by show _ = _; rw [HQ2.out, if_pos hp]
      clear HQ2
      have cc := implBins_any _ _ _ (HAT2.out _ (Below.refl _ _)) HB.out
      generalize bins (ad s.attrs k) = nb at cc HR
      have kF0 : w4.cell? ⟨w.heap.size + 1, 0, none⟩ = some (.int .i64 (k : Int)) := KF.cell 0
      have kF1 : w4.cell? ⟨w.heap.size + 1, 1, none⟩ = some (.int .i64 f.pos) := KF.cell 1
      have kA0 : w4.cell? ⟨ba, 0, none⟩ = some (.string (ad s.attrs k).name) := KA.cell 0
      have kA1 : w4.cell? ⟨ba, 1, none⟩ = some (.slice y1 (ad s.attrs k).cuts.length z1) := KA.cell 1
      have kA2 : w4.cell? ⟨ba, 2, none⟩ = some (.slice y2 (ad s.attrs k).vals.length z2) := KA.cell 2
      go_wp2_with fail
      refine cc.mono ?_
      clear cc
      clear kF0 kF1 kA0 kA1 kA2
      rintro e w5 ⟨rfl, hb⟩
      replace KF := KF.below hb
      replace B := B.trans (hb.mono B.size)
      replace KA := KA.below hb
      go_wp2
      go_ret2
      exact ⟨by rw [HR.out, HE.out]; rfl, B⟩
    have hpe : (f.pos == -1) = false := by rw [beq_eq_false_iff_ne]; exact hp
    have cc := nominal_any _ _ _ (HAT2.out _ (Below.refl _ _))
    by_cases hv : 0 < (ad s.attrs k).vals.length
    · have HR : Hid (questionV s f = .iface 69 (.agg #[.int .i64 f.pos])) := by show _ = _; rw [HQ2.out, if_neg hp, if_pos hv]
      rw [decide_eq_true hv] at cc
      clear HQ2
      have kF0 : w4.cell? ⟨w.heap.size + 1, 0, none⟩ = some (.int .i64 (k : Int)) := KF.cell 0
      have kF1 : w4.cell? ⟨w.heap.size + 1, 1, none⟩ = some (.int .i64 f.pos) := KF.cell 1
      have kA0 : w4.cell? ⟨ba, 0, none⟩ = some (.string (ad s.attrs k).name) := KA.cell 0
      have kA1 : w4.cell? ⟨ba, 1, none⟩ = some (.slice y1 (ad s.attrs k).cuts.length z1) := KA.cell 1
      have kA2 : w4.cell? ⟨ba, 2, none⟩ = some (.slice y2 (ad s.attrs k).vals.length z2) := KA.cell 2
      go_wp2_with fail
      refine cc.mono ?_
      clear cc
      clear kF0 kF1 kA0 kA1 kA2
      rintro e w5 ⟨rfl, hb⟩
      replace KF := KF.below hb
      replace B := B.trans (hb.mono B.size)
      replace KA := KA.below hb
      have kF0 : w5.cell? ⟨w.heap.size + 1, 0, none⟩ = some (.int .i64 (k : Int)) := KF.cell 0
      have kF1 : w5.cell? ⟨w.heap.size + 1, 1, none⟩ = some (.int .i64 f.pos) := KF.cell 1
      go_wp2
      go_ret2
      exact ⟨by rw [HR.out, HE.out]; rfl, B⟩
    · have HR : Hid (questionV s f = .iface 70 (.agg #[.int .i64 f.pos])) := by show _ = _; rw [HQ2.out, if_neg hp, if_neg hv]
      rw [decide_eq_false hv] at cc
      clear HQ2
      have kF0 : w4.cell? ⟨w.heap.size + 1, 0, none⟩ = some (.int .i64 (k : Int)) := KF.cell 0
      have kF1 : w4.cell? ⟨w.heap.size + 1, 1, none⟩ = some (.int .i64 f.pos) := KF.cell 1
      have kA0 : w4.cell? ⟨ba, 0, none⟩ = some (.string (ad s.attrs k).name) := KA.cell 0
      have kA1 : w4.cell? ⟨ba, 1, none⟩ = some (.slice y1 (ad s.attrs k).cuts.length z1) := KA.cell 1
      have kA2 : w4.cell? ⟨ba, 2, none⟩ = some (.slice y2 (ad s.attrs k).vals.length z2) := KA.cell 2
      go_wp2_with fail
      refine cc.mono ?_
      clear cc
      clear kF0 kF1 kA0 kA1 kA2
      rintro e w5 ⟨rfl, hb⟩
      replace KF := KF.below hb
      replace B := B.trans (hb.mono B.size)
      replace KA := KA.below hb
      have kF0 : w5.cell? ⟨w.heap.size + 1, 0, none⟩ = some (.int .i64 (k : Int)) := KF.cell 0
      have kF1 : w5.cell? ⟨w.heap.size + 1, 1, none⟩ = some (.int .i64 f.pos) := KF.cell 1
      go_wp2
      go_ret2
      exact ⟨by rw [HR.out, HE.out]; rfl, B⟩
end Go.Proofs.YtfflodcapcamcaaDoor
/- Two structs in new blocks. -/
namespace Go.Proofs.YtfflodcapcamcaaDoor
open Go.RowKit
set_option maxRecDepth 100000
set_option linter.unusedSimpArgs false
theorem two_below (w : World) (c d : Array Value) : Below w.heap.size w ((w.alloc (.cells c 27)).alloc (.cells d 36)) := ((Below.refl _ _).alloc (Nat.le_refl _) _).alloc (by simp) _
end Go.Proofs.YtfflodcapcamcaaDoor
