/- Texts of this claim, put together: part 37. -/
import Derived.Test.YteadkdllmeeocabGreatBestOfPack10
import Derived.Test.YteadkdllmeeocabGreatBestOfPack34
import Derived.Test.YteadkdllmeeocabGreatBestOfPack12
import Derived.Test.YteadkdllmeeocabGreatBestOfPack9
import Derived.Test.YteadkdllmeeocabGreatBestOfPack23
import Derived.Laws.AppendOwnNone
import Derived.Test.YteadkdllmeeocabGreatBestOfPack15
import Derived.Test.YteadkdllmeeocabGreatBestOfPack31
import Derived.Test.YteadkdllmeeocabGreatBestOfPack2
/- Places of attributes, whether they are right, by the specification. -/
namespace Go.Proofs.YteadkdllmeeocabGreat
open Go.RowKit
set_option maxRecDepth 100000
set_option linter.unusedSimpArgs false
set_option maxHeartbeats 3200000 in
theorem specAttrsOk_any (vs vl : Value) (s : SchemaD) (l : List Int) (w : World) (hs : SchemaAt w vs s) (hn : okSch s) (hl : RowI w vl l) (hl2 : l.length ≤ 1099511627776) :
    Calls Tryz.prog 38 #[vs, vl] w fun e w' => e = .returned (.bool (placesOk s l)) ∧ Below w.heap.size w w' := by
  have HL : Hid (∀ W, Below w.heap.size w W → RowI W vl l) := fun W h => hl.later h
  have la := hn.attrs
  have cc := fun o => specSchemaOk_any vs s (w.alloc o) (hs.later ((Below.refl _ _).alloc (Nat.le_refl _) _)) hn
  obtain ⟨va, vc, rfl, ra, -⟩ := hs
  obtain ⟨oa, ka, rfl, -, -⟩ := id ra
  obtain ⟨ol, kl, rfl, hcl, hrl⟩ := id hl
  clear ra hn hl
  obtain ⟨KS, B⟩ := blk_1 40 w #[.slice oa s.attrs.length ka, vc]
  cases hk : schemaOk s with
  | false =>
    have HE : Hid (placesOk s l = false) := by unfold placesOk; rw [hk]; rfl
    rw [hk] at cc
    clear hk hrl
    go_enter Tryz.func38, Tryz.ntmps38
    go_wp2_with fail
    refine (cc _).mono ?_
    clear cc
    rintro e w1 ⟨rfl, hb⟩
    replace B := B.trans (hb.mono B.size)
    go_wp2
    go_ret
    exact ⟨by rw [HE.out]; rfl, B⟩
  | true =>
    have HX : Hid (placesOk s l = (decide (0 < l.length) && ascIn 0 ((s.attrs.length : Int) - 1) l)) := by show _ = _; unfold placesOk; rw [hk]; rfl
    rw [hk] at cc
    clear hk
    by_cases h0 : l.length = 0
    · have HE : Hid (placesOk s l = false) := by show _ = _; rw [HX.out, decide_eq_false (by omega)]; rfl
      clear HX hrl
      go_enter Tryz.func38, Tryz.ntmps38
      go_wp2_with fail
      refine (cc _).mono ?_
      clear cc
      rintro e w1 ⟨rfl, hb⟩
      replace B := B.trans (hb.mono B.size)
      rw [h0]
      go_wp2
      go_ret
      exact ⟨by rw [HE.out]; rfl, B⟩
    have HE : Hid (placesOk s l = ascIn 0 ((s.attrs.length : Int) - 1) l) := by show _ = _; rw [HX.out, decide_eq_true (by omega)]; rfl
    clear HX
    obtain ⟨g, o, rfl, hg, hj⟩ := hrl (by omega)
    have HJ : Hid (∀ W, Below w.heap.size w W → ∀ j, j < l.length → W.cell? ⟨g, o + j, none⟩ = some (.int .i64 (l.getD j 0))) := fun W h j hj' => (h.cell (p := ⟨g, o + j, none⟩) hg).trans (hj j hj')
    clear hj hrl HL
    have hq : ((l.length : Int) == 0) = false := by rw [beq_eq_false_iff_ne]; omega
    go_enter Tryz.func38, Tryz.ntmps38
    go_wp2_with fail
    refine (cc _).mono ?_
    clear cc
    rintro e w1 ⟨rfl, hb⟩
    replace KS := KS.below hb
    replace B := B.trans (hb.mono B.size)
    have HK : Hid (∀ W, Below w1.heap.size w1 W → Blk 40 W w.heap.size #[.slice oa s.attrs.length ka, vc]) := fun W h => KS.below h
    have HB1 : Hid (Below w.heap.size w w1) := B
    clear hb KS B h0
    go_wp2
    go_loopw [5] (fun i wr => ∃ k : Nat, i = .int .i64 k ∧ k ≤ l.length ∧ Hid (∀ j, j < k → ascAt 0 ((s.attrs.length : Int) - 1) l j = true) ∧ Below w1.heap.size w1 wr) (fun i _ => l.length - (intOf i).toNat)
    case atStart => exact ⟨0, rfl, by omega, fun j hj => by omega, Below.refl _ _⟩
    case round =>
      obtain ⟨k, rfl, hk, hal, hbr⟩ := hrel
      have B := HB1.out.trans (hbr.mono HB1.out.size)
      by_cases hlt : k < l.length
      rotate_left
      · have HF : Hid (ascIn 0 ((s.attrs.length : Int) - 1) l = true) := asc_yes fun j hj => hal.out j (by omega)
        go_wp2
        go_ret
        exact ⟨by rw [HE.out, HF.out]; rfl, B⟩
      have bd : Below wr.heap.size wr wr.drew := below_drewN (Below.refl _ _) 1
      obtain ⟨x, hx⟩ : ∃ x, l.getD k 0 = x := ⟨_, rfl⟩
      obtain ⟨j, hjk⟩ : ∃ j, k - 1 = j := ⟨_, rfl⟩
      have hjl : j < l.length := by omega
      obtain ⟨y, hy⟩ : ∃ y, l.getD j 0 = y := ⟨_, rfl⟩
      have HJK : Hid (k - 1 = j) := hjk
      have HST : Hid (ascAt 0 ((s.attrs.length : Int) - 1) l k = (decide (0 ≤ x ∧ x ≤ (s.attrs.length : Int) - 1) && (decide (k = 0) || decide (y < x)))) := by show _ = _; unfold ascAt; rw [hx, hjk, hy]
      have hcx := HJ.out wr.drew (B.trans (bd.mono B.size)) k hlt
      have hcy := HJ.out wr.drew (B.trans (bd.mono B.size)) j hjl
      rw [hx] at hcx
      rw [hy] at hcy
      clear hx hy hjk
      have KS := (HK.out wr hbr).below bd
      have BB := B.trans (bd.mono B.size)
      have BR := hbr.trans (bd.mono hbr.size)
      have HW : Hid (wr.drew = wr.drew) := rfl
      clear B
      go_wp2_with fail
      refine wp_region_held_drew (S := fun w' => Blk 40 w' w.heap.size #[.slice oa s.attrs.length ka, vc] ∧ w'.cell? ⟨g, o + k, none⟩ = some (.int .i64 x) ∧ w'.cell? ⟨g, o + j, none⟩ = some (.int .i64 y)) (by kernel_rfl) ⟨KS, hcx, hcy⟩ ?_
      intro hS
      clear KS hcx hcy bd hbr
      generalize wr.drew = w3 at BB BR hS ⊢
      have cI := in_any x 0 ((s.attrs.length : Int) - 1) w3
      by_cases hin : 0 ≤ x ∧ x ≤ (s.attrs.length : Int) - 1
      rotate_left
      · rw [decide_eq_false hin] at cI
        have HF : Hid (ascIn 0 ((s.attrs.length : Int) - 1) l = false) := asc_no k hlt (by rw [HST.out, decide_eq_false hin]; rfl)
        clear HST hin
        refine takeL 0 (.slice (some ⟨g, o, none⟩) l.length kl) rfl (by kernel_rfl) (by kernel_rfl) (by kernel_rfl) (fun _ _ _ h => h) (.inl ⟨by rfl, fun w _ => by rfl⟩) hS ?_
        try simp only [Act.put, List.setIfInBounds_toArray, List.set_cons_zero, List.set_cons_succ]
        refine takeL 1 (.int .i64 ((k : Int))) rfl (by kernel_rfl) (by kernel_rfl) (by kernel_rfl) (fun _ _ _ h => h) (.inl ⟨by rfl, fun w _ => by rfl⟩) hS ?_
        try simp only [Act.put, List.setIfInBounds_toArray, List.set_cons_zero, List.set_cons_succ]
        refine takeL 2 (.pointer (some ⟨g, o + k, none⟩)) rfl (by kernel_rfl) (by kernel_rfl) (by kernel_rfl) (fun _ _ _ h => h) (.inl ⟨by rfl, fun w hw => by (unfold execOp; go_simp; all_goals omega)⟩) hS ?_
        try simp only [Act.put, List.setIfInBounds_toArray, List.set_cons_zero, List.set_cons_succ]
        refine takeL 3 (.int .i64 x) rfl (by kernel_rfl) (by kernel_rfl) (by kernel_rfl) (fun _ _ _ h => h) (.inl ⟨by rfl, fun w hw => by (have h0 := hw.2.1; unfold execOp; go_simp)⟩) hS ?_
        try simp only [Act.put, List.setIfInBounds_toArray, List.set_cons_zero, List.set_cons_succ]
        refine takeL 4 (.pointer (some ⟨w.heap.size, 0, none⟩)) rfl (by kernel_rfl) (by kernel_rfl) (by kernel_rfl) (fun _ _ _ h => h) (.inl ⟨by rfl, fun w hw => by (unfold execOp; go_simp)⟩) hS ?_
        try simp only [Act.put, List.setIfInBounds_toArray, List.set_cons_zero, List.set_cons_succ]
        refine takeL 5 (.slice oa s.attrs.length ka) rfl (by kernel_rfl) (by kernel_rfl) (by kernel_rfl) (fun _ _ _ h => h) (.inl ⟨by rfl, fun w hw => by (have h0 := (hw.1).cell 0; unfold execOp; go_simp)⟩) hS ?_
        try simp only [Act.put, List.setIfInBounds_toArray, List.set_cons_zero, List.set_cons_succ]
        refine takeL 6 (.int .i64 ((s.attrs.length : Int))) rfl (by kernel_rfl) (by kernel_rfl) (by kernel_rfl) (fun _ _ _ h => h) (.inl ⟨by rfl, fun w hw => by (unfold execOp; go_simp)⟩) hS ?_
        try simp only [Act.put, List.setIfInBounds_toArray, List.set_cons_zero, List.set_cons_succ]
        refine takeL 7 (.int .i64 (((s.attrs.length : Int)) - 1)) rfl (by kernel_rfl) (by kernel_rfl) (by kernel_rfl) (fun _ _ _ h => h) (.inl ⟨by rfl, fun w hw => by (unfold execOp; go_simp; all_goals (rw [IntKind.wrap_i64]; omega))⟩) hS ?_
        try simp only [Act.put, List.setIfInBounds_toArray, List.set_cons_zero, List.set_cons_succ]
        refine nextL 8 rfl (by kernel_rfl) (by rfl) fun K hK => ?_
        go_simp
        refine cI.mono ?_
        clear cI
        rintro e w5 ⟨rfl, e5⟩
        rw [e5]
        clear e5 w5
        refine hK _ _ hS ?_
        clear hK K hS
        intro hS
        refine takeL 9 (.bool true) rfl (by kernel_rfl) (by kernel_rfl) (by kernel_rfl) (fun _ _ _ h => h) (.inl ⟨by rfl, fun w hw => by (unfold execOp; go_simp)⟩) hS ?_
        try simp only [Act.put, List.setIfInBounds_toArray, List.set_cons_zero, List.set_cons_succ]
        refine takeL 10 (.bool true) rfl (by kernel_rfl) (by kernel_rfl) (by kernel_rfl) (fun _ _ _ h => h) (.inl ⟨by rfl, fun w _ => by rfl⟩) hS ?_
        try simp only [Act.put, List.setIfInBounds_toArray, List.set_cons_zero, List.set_cons_succ]
        refine takeL 11 (undef) rfl (by kernel_rfl) (by kernel_rfl) (by kernel_rfl) (fun _ _ _ h => h) (.inr ⟨by rfl, rfl⟩) hS ?_
        try simp only [Act.put, List.setIfInBounds_toArray, List.set_cons_zero, List.set_cons_succ]
        refine takeL 12 (undef) rfl (by kernel_rfl) (by kernel_rfl) (by kernel_rfl) (fun _ _ _ h => h) (.inr ⟨by rfl, rfl⟩) hS ?_
        try simp only [Act.put, List.setIfInBounds_toArray, List.set_cons_zero, List.set_cons_succ]
        refine takeL 13 (undef) rfl (by kernel_rfl) (by kernel_rfl) (by kernel_rfl) (fun _ _ _ h => h) (.inr ⟨by rfl, rfl⟩) hS ?_
        try simp only [Act.put, List.setIfInBounds_toArray, List.set_cons_zero, List.set_cons_succ]
        refine takeL 14 (undef) rfl (by kernel_rfl) (by kernel_rfl) (by kernel_rfl) (fun _ _ _ h => h) (.inr ⟨by rfl, rfl⟩) hS ?_
        try simp only [Act.put, List.setIfInBounds_toArray, List.set_cons_zero, List.set_cons_succ]
        refine takeL 15 (undef) rfl (by kernel_rfl) (by kernel_rfl) (by kernel_rfl) (fun _ _ _ h => h) (.inr ⟨by rfl, rfl⟩) hS ?_
        try simp only [Act.put, List.setIfInBounds_toArray, List.set_cons_zero, List.set_cons_succ]
        refine takeL 16 (undef) rfl (by kernel_rfl) (by kernel_rfl) (by kernel_rfl) (fun _ _ _ h => h) (.inr ⟨by rfl, rfl⟩) hS ?_
        try simp only [Act.put, List.setIfInBounds_toArray, List.set_cons_zero, List.set_cons_succ]
        refine takeL 17 (undef) rfl (by kernel_rfl) (by kernel_rfl) (by kernel_rfl) (fun _ _ _ h => h) (.inr ⟨by rfl, rfl⟩) hS ?_
        try simp only [Act.put, List.setIfInBounds_toArray, List.set_cons_zero, List.set_cons_succ]
        refine takeL 18 (undef) rfl (by kernel_rfl) (by kernel_rfl) (by kernel_rfl) (fun _ _ _ h => h) (.inr ⟨by rfl, rfl⟩) hS ?_
        try simp only [Act.put, List.setIfInBounds_toArray, List.set_cons_zero, List.set_cons_succ]
        refine takeL 19 (undef) rfl (by kernel_rfl) (by kernel_rfl) (by kernel_rfl) (fun _ _ _ h => h) (.inr ⟨by rfl, rfl⟩) hS ?_
        try simp only [Act.put, List.setIfInBounds_toArray, List.set_cons_zero, List.set_cons_succ]
        refine takeL 20 (undef) rfl (by kernel_rfl) (by kernel_rfl) (by kernel_rfl) (fun _ _ _ h => h) (.inr ⟨by rfl, rfl⟩) hS ?_
        try simp only [Act.put, List.setIfInBounds_toArray, List.set_cons_zero, List.set_cons_succ]
        refine takeL 21 (undef) rfl (by kernel_rfl) (by kernel_rfl) (by kernel_rfl) (fun _ _ _ h => h) (.inr ⟨by rfl, rfl⟩) hS ?_
        try simp only [Act.put, List.setIfInBounds_toArray, List.set_cons_zero, List.set_cons_succ]
        refine takeL 22 (undef) rfl (by kernel_rfl) (by kernel_rfl) (by kernel_rfl) (fun _ _ _ h => h) (.inr ⟨by rfl, rfl⟩) hS ?_
        try simp only [Act.put, List.setIfInBounds_toArray, List.set_cons_zero, List.set_cons_succ]
        refine takeL 23 (undef) rfl (by kernel_rfl) (by kernel_rfl) (by kernel_rfl) (fun _ _ _ h => h) (.inr ⟨by rfl, rfl⟩) hS ?_
        try simp only [Act.put, List.setIfInBounds_toArray, List.set_cons_zero, List.set_cons_succ]
        refine takeL 24 (undef) rfl (by kernel_rfl) (by kernel_rfl) (by kernel_rfl) (fun _ _ _ h => h) (.inr ⟨by rfl, rfl⟩) hS ?_
        try simp only [Act.put, List.setIfInBounds_toArray, List.set_cons_zero, List.set_cons_succ]
        refine takeL 25 (.bool true) rfl (by kernel_rfl) (by kernel_rfl) (by kernel_rfl) (fun _ _ _ h => h) (.inl ⟨by rfl, fun w _ => by rfl⟩) hS ?_
        try simp only [Act.put, List.setIfInBounds_toArray, List.set_cons_zero, List.set_cons_succ]
        refine wpAnyH_done (by kernel_rfl) ?_ _
        clear hS
        go_wp2
        go_ret
        exact ⟨by rw [HE.out, HF.out]; rfl, BB⟩
      rw [decide_eq_true hin] at cI HST
      by_cases hk0 : k = 0
      · have HF : Hid (ascAt 0 ((s.attrs.length : Int) - 1) l k = true) := by show _ = _; rw [HST.out, decide_eq_true hk0]; rfl
        have hk1 : ¬ (0 : Int) < (k : Int) := by omega
        clear HST hin hk0
        refine takeL 0 (.slice (some ⟨g, o, none⟩) l.length kl) rfl (by kernel_rfl) (by kernel_rfl) (by kernel_rfl) (fun _ _ _ h => h) (.inl ⟨by rfl, fun w _ => by rfl⟩) hS ?_
        try simp only [Act.put, List.setIfInBounds_toArray, List.set_cons_zero, List.set_cons_succ]
        refine takeL 1 (.int .i64 ((k : Int))) rfl (by kernel_rfl) (by kernel_rfl) (by kernel_rfl) (fun _ _ _ h => h) (.inl ⟨by rfl, fun w _ => by rfl⟩) hS ?_
        try simp only [Act.put, List.setIfInBounds_toArray, List.set_cons_zero, List.set_cons_succ]
        refine takeL 2 (.pointer (some ⟨g, o + k, none⟩)) rfl (by kernel_rfl) (by kernel_rfl) (by kernel_rfl) (fun _ _ _ h => h) (.inl ⟨by rfl, fun w hw => by (unfold execOp; go_simp; all_goals omega)⟩) hS ?_
        try simp only [Act.put, List.setIfInBounds_toArray, List.set_cons_zero, List.set_cons_succ]
        refine takeL 3 (.int .i64 x) rfl (by kernel_rfl) (by kernel_rfl) (by kernel_rfl) (fun _ _ _ h => h) (.inl ⟨by rfl, fun w hw => by (have h0 := hw.2.1; unfold execOp; go_simp)⟩) hS ?_
        try simp only [Act.put, List.setIfInBounds_toArray, List.set_cons_zero, List.set_cons_succ]
        refine takeL 4 (.pointer (some ⟨w.heap.size, 0, none⟩)) rfl (by kernel_rfl) (by kernel_rfl) (by kernel_rfl) (fun _ _ _ h => h) (.inl ⟨by rfl, fun w hw => by (unfold execOp; go_simp)⟩) hS ?_
        try simp only [Act.put, List.setIfInBounds_toArray, List.set_cons_zero, List.set_cons_succ]
        refine takeL 5 (.slice oa s.attrs.length ka) rfl (by kernel_rfl) (by kernel_rfl) (by kernel_rfl) (fun _ _ _ h => h) (.inl ⟨by rfl, fun w hw => by (have h0 := (hw.1).cell 0; unfold execOp; go_simp)⟩) hS ?_
        try simp only [Act.put, List.setIfInBounds_toArray, List.set_cons_zero, List.set_cons_succ]
        refine takeL 6 (.int .i64 ((s.attrs.length : Int))) rfl (by kernel_rfl) (by kernel_rfl) (by kernel_rfl) (fun _ _ _ h => h) (.inl ⟨by rfl, fun w hw => by (unfold execOp; go_simp)⟩) hS ?_
        try simp only [Act.put, List.setIfInBounds_toArray, List.set_cons_zero, List.set_cons_succ]
        refine takeL 7 (.int .i64 (((s.attrs.length : Int)) - 1)) rfl (by kernel_rfl) (by kernel_rfl) (by kernel_rfl) (fun _ _ _ h => h) (.inl ⟨by rfl, fun w hw => by (unfold execOp; go_simp; all_goals (rw [IntKind.wrap_i64]; omega))⟩) hS ?_
        try simp only [Act.put, List.setIfInBounds_toArray, List.set_cons_zero, List.set_cons_succ]
        refine nextL 8 rfl (by kernel_rfl) (by rfl) fun K hK => ?_
        go_simp
        refine cI.mono ?_
        clear cI
        rintro e w5 ⟨rfl, e5⟩
        rw [e5]
        clear e5 w5
        refine hK _ _ hS ?_
        clear hK K hS
        intro hS
        refine takeL 9 (.bool false) rfl (by kernel_rfl) (by kernel_rfl) (by kernel_rfl) (fun _ _ _ h => h) (.inl ⟨by rfl, fun w hw => by (unfold execOp; go_simp)⟩) hS ?_
        try simp only [Act.put, List.setIfInBounds_toArray, List.set_cons_zero, List.set_cons_succ]
        refine takeL 10 (.bool false) rfl (by kernel_rfl) (by kernel_rfl) (by kernel_rfl) (fun _ _ _ h => h) (.inl ⟨by rfl, fun w _ => by rfl⟩) hS ?_
        try simp only [Act.put, List.setIfInBounds_toArray, List.set_cons_zero, List.set_cons_succ]
        refine takeL 11 (.int .i64 ((k : Int))) rfl (by kernel_rfl) (by kernel_rfl) (by kernel_rfl) (fun _ _ _ h => h) (.inl ⟨by rfl, fun w _ => by rfl⟩) hS ?_
        try simp only [Act.put, List.setIfInBounds_toArray, List.set_cons_zero, List.set_cons_succ]
        refine takeL 12 (.bool false) rfl (by kernel_rfl) (by kernel_rfl) (by kernel_rfl) (fun _ _ _ h => h) (.inl ⟨by rfl, fun w hw => by (unfold execOp; go_simp; all_goals first | omega | (rw [IntKind.wrap_i64] <;> omega))⟩) hS ?_
        try simp only [Act.put, List.setIfInBounds_toArray, List.set_cons_zero, List.set_cons_succ]
        refine takeL 13 (.bool false) rfl (by kernel_rfl) (by kernel_rfl) (by kernel_rfl) (fun _ _ _ h => h) (.inl ⟨by rfl, fun w _ => by rfl⟩) hS ?_
        try simp only [Act.put, List.setIfInBounds_toArray, List.set_cons_zero, List.set_cons_succ]
        refine takeL 14 (undef) rfl (by kernel_rfl) (by kernel_rfl) (by kernel_rfl) (fun _ _ _ h => h) (.inr ⟨by rfl, rfl⟩) hS ?_
        try simp only [Act.put, List.setIfInBounds_toArray, List.set_cons_zero, List.set_cons_succ]
        refine takeL 15 (undef) rfl (by kernel_rfl) (by kernel_rfl) (by kernel_rfl) (fun _ _ _ h => h) (.inr ⟨by rfl, rfl⟩) hS ?_
        try simp only [Act.put, List.setIfInBounds_toArray, List.set_cons_zero, List.set_cons_succ]
        refine takeL 16 (undef) rfl (by kernel_rfl) (by kernel_rfl) (by kernel_rfl) (fun _ _ _ h => h) (.inr ⟨by rfl, rfl⟩) hS ?_
        try simp only [Act.put, List.setIfInBounds_toArray, List.set_cons_zero, List.set_cons_succ]
        refine takeL 17 (undef) rfl (by kernel_rfl) (by kernel_rfl) (by kernel_rfl) (fun _ _ _ h => h) (.inr ⟨by rfl, rfl⟩) hS ?_
        try simp only [Act.put, List.setIfInBounds_toArray, List.set_cons_zero, List.set_cons_succ]
        refine takeL 18 (undef) rfl (by kernel_rfl) (by kernel_rfl) (by kernel_rfl) (fun _ _ _ h => h) (.inr ⟨by rfl, rfl⟩) hS ?_
        try simp only [Act.put, List.setIfInBounds_toArray, List.set_cons_zero, List.set_cons_succ]
        refine takeL 19 (undef) rfl (by kernel_rfl) (by kernel_rfl) (by kernel_rfl) (fun _ _ _ h => h) (.inr ⟨by rfl, rfl⟩) hS ?_
        try simp only [Act.put, List.setIfInBounds_toArray, List.set_cons_zero, List.set_cons_succ]
        refine takeL 20 (undef) rfl (by kernel_rfl) (by kernel_rfl) (by kernel_rfl) (fun _ _ _ h => h) (.inr ⟨by rfl, rfl⟩) hS ?_
        try simp only [Act.put, List.setIfInBounds_toArray, List.set_cons_zero, List.set_cons_succ]
        refine takeL 21 (undef) rfl (by kernel_rfl) (by kernel_rfl) (by kernel_rfl) (fun _ _ _ h => h) (.inr ⟨by rfl, rfl⟩) hS ?_
        try simp only [Act.put, List.setIfInBounds_toArray, List.set_cons_zero, List.set_cons_succ]
        refine takeL 22 (undef) rfl (by kernel_rfl) (by kernel_rfl) (by kernel_rfl) (fun _ _ _ h => h) (.inr ⟨by rfl, rfl⟩) hS ?_
        try simp only [Act.put, List.setIfInBounds_toArray, List.set_cons_zero, List.set_cons_succ]
        refine takeL 23 (undef) rfl (by kernel_rfl) (by kernel_rfl) (by kernel_rfl) (fun _ _ _ h => h) (.inr ⟨by rfl, rfl⟩) hS ?_
        try simp only [Act.put, List.setIfInBounds_toArray, List.set_cons_zero, List.set_cons_succ]
        refine takeL 24 (.bool false) rfl (by kernel_rfl) (by kernel_rfl) (by kernel_rfl) (fun _ _ _ h => h) (.inl ⟨by rfl, fun w _ => by rfl⟩) hS ?_
        try simp only [Act.put, List.setIfInBounds_toArray, List.set_cons_zero, List.set_cons_succ]
        refine takeL 25 (.bool false) rfl (by kernel_rfl) (by kernel_rfl) (by kernel_rfl) (fun _ _ _ h => h) (.inl ⟨by rfl, fun w _ => by rfl⟩) hS ?_
        try simp only [Act.put, List.setIfInBounds_toArray, List.set_cons_zero, List.set_cons_succ]
        refine wpAnyH_done (by kernel_rfl) ?_ _
        clear hS
        go_wp2
        go_roundw
        case rel =>
          refine ⟨k + 1, by go_num, by omega, ?_, BR⟩
          intro j' hj'
          by_cases e : j' = k
          · subst e; exact HF.out
          · exact hal.out j' (by omega)
        case measure => simp [intOf]; omega
      have hj1 : (k : Int) - 1 = (j : Int) := by have := HJK.out; omega
      have hk1 : (0 : Int) < (k : Int) := by omega
      clear hk0
      by_cases hyx : y < x
      rotate_left
      · have HF : Hid (ascIn 0 ((s.attrs.length : Int) - 1) l = false) := asc_no k hlt (by rw [HST.out, decide_eq_false hyx, decide_eq_false (show ¬ k = 0 by omega)]; rfl)
        clear HST hin
        refine takeL 0 (.slice (some ⟨g, o, none⟩) l.length kl) rfl (by kernel_rfl) (by kernel_rfl) (by kernel_rfl) (fun _ _ _ h => h) (.inl ⟨by rfl, fun w _ => by rfl⟩) hS ?_
        try simp only [Act.put, List.setIfInBounds_toArray, List.set_cons_zero, List.set_cons_succ]
        refine takeL 1 (.int .i64 ((k : Int))) rfl (by kernel_rfl) (by kernel_rfl) (by kernel_rfl) (fun _ _ _ h => h) (.inl ⟨by rfl, fun w _ => by rfl⟩) hS ?_
        try simp only [Act.put, List.setIfInBounds_toArray, List.set_cons_zero, List.set_cons_succ]
        refine takeL 2 (.pointer (some ⟨g, o + k, none⟩)) rfl (by kernel_rfl) (by kernel_rfl) (by kernel_rfl) (fun _ _ _ h => h) (.inl ⟨by rfl, fun w hw => by (unfold execOp; go_simp; all_goals omega)⟩) hS ?_
        try simp only [Act.put, List.setIfInBounds_toArray, List.set_cons_zero, List.set_cons_succ]
        refine takeL 3 (.int .i64 x) rfl (by kernel_rfl) (by kernel_rfl) (by kernel_rfl) (fun _ _ _ h => h) (.inl ⟨by rfl, fun w hw => by (have h0 := hw.2.1; unfold execOp; go_simp)⟩) hS ?_
        try simp only [Act.put, List.setIfInBounds_toArray, List.set_cons_zero, List.set_cons_succ]
        refine takeL 4 (.pointer (some ⟨w.heap.size, 0, none⟩)) rfl (by kernel_rfl) (by kernel_rfl) (by kernel_rfl) (fun _ _ _ h => h) (.inl ⟨by rfl, fun w hw => by (unfold execOp; go_simp)⟩) hS ?_
        try simp only [Act.put, List.setIfInBounds_toArray, List.set_cons_zero, List.set_cons_succ]
        refine takeL 5 (.slice oa s.attrs.length ka) rfl (by kernel_rfl) (by kernel_rfl) (by kernel_rfl) (fun _ _ _ h => h) (.inl ⟨by rfl, fun w hw => by (have h0 := (hw.1).cell 0; unfold execOp; go_simp)⟩) hS ?_
        try simp only [Act.put, List.setIfInBounds_toArray, List.set_cons_zero, List.set_cons_succ]
        refine takeL 6 (.int .i64 ((s.attrs.length : Int))) rfl (by kernel_rfl) (by kernel_rfl) (by kernel_rfl) (fun _ _ _ h => h) (.inl ⟨by rfl, fun w hw => by (unfold execOp; go_simp)⟩) hS ?_
        try simp only [Act.put, List.setIfInBounds_toArray, List.set_cons_zero, List.set_cons_succ]
        refine takeL 7 (.int .i64 (((s.attrs.length : Int)) - 1)) rfl (by kernel_rfl) (by kernel_rfl) (by kernel_rfl) (fun _ _ _ h => h) (.inl ⟨by rfl, fun w hw => by (unfold execOp; go_simp; all_goals (rw [IntKind.wrap_i64]; omega))⟩) hS ?_
        try simp only [Act.put, List.setIfInBounds_toArray, List.set_cons_zero, List.set_cons_succ]
        refine nextL 8 rfl (by kernel_rfl) (by rfl) fun K hK => ?_
        go_simp
        refine cI.mono ?_
        clear cI
        rintro e w5 ⟨rfl, e5⟩
        rw [e5]
        clear e5 w5
        refine hK _ _ hS ?_
        clear hK K hS
        intro hS
        refine takeL 9 (.bool false) rfl (by kernel_rfl) (by kernel_rfl) (by kernel_rfl) (fun _ _ _ h => h) (.inl ⟨by rfl, fun w hw => by (unfold execOp; go_simp)⟩) hS ?_
        try simp only [Act.put, List.setIfInBounds_toArray, List.set_cons_zero, List.set_cons_succ]
        refine takeL 10 (.bool false) rfl (by kernel_rfl) (by kernel_rfl) (by kernel_rfl) (fun _ _ _ h => h) (.inl ⟨by rfl, fun w _ => by rfl⟩) hS ?_
        try simp only [Act.put, List.setIfInBounds_toArray, List.set_cons_zero, List.set_cons_succ]
        refine takeL 11 (.int .i64 ((k : Int))) rfl (by kernel_rfl) (by kernel_rfl) (by kernel_rfl) (fun _ _ _ h => h) (.inl ⟨by rfl, fun w _ => by rfl⟩) hS ?_
        try simp only [Act.put, List.setIfInBounds_toArray, List.set_cons_zero, List.set_cons_succ]
        refine takeL 12 (.bool true) rfl (by kernel_rfl) (by kernel_rfl) (by kernel_rfl) (fun _ _ _ h => h) (.inl ⟨by rfl, fun w hw => by (unfold execOp; go_simp; all_goals first | omega | (rw [IntKind.wrap_i64] <;> omega))⟩) hS ?_
        try simp only [Act.put, List.setIfInBounds_toArray, List.set_cons_zero, List.set_cons_succ]
        refine takeL 13 (.bool true) rfl (by kernel_rfl) (by kernel_rfl) (by kernel_rfl) (fun _ _ _ h => h) (.inl ⟨by rfl, fun w _ => by rfl⟩) hS ?_
        try simp only [Act.put, List.setIfInBounds_toArray, List.set_cons_zero, List.set_cons_succ]
        refine takeL 14 (.slice (some ⟨g, o, none⟩) l.length kl) rfl (by kernel_rfl) (by kernel_rfl) (by kernel_rfl) (fun _ _ _ h => h) (.inl ⟨by rfl, fun w _ => by rfl⟩) hS ?_
        try simp only [Act.put, List.setIfInBounds_toArray, List.set_cons_zero, List.set_cons_succ]
        refine takeL 15 (.int .i64 ((k : Int))) rfl (by kernel_rfl) (by kernel_rfl) (by kernel_rfl) (fun _ _ _ h => h) (.inl ⟨by rfl, fun w _ => by rfl⟩) hS ?_
        try simp only [Act.put, List.setIfInBounds_toArray, List.set_cons_zero, List.set_cons_succ]
        refine takeL 16 (.pointer (some ⟨g, o + k, none⟩)) rfl (by kernel_rfl) (by kernel_rfl) (by kernel_rfl) (fun _ _ _ h => h) (.inl ⟨by rfl, fun w hw => by (unfold execOp; go_simp; all_goals omega)⟩) hS ?_
        try simp only [Act.put, List.setIfInBounds_toArray, List.set_cons_zero, List.set_cons_succ]
        refine takeL 17 (.int .i64 x) rfl (by kernel_rfl) (by kernel_rfl) (by kernel_rfl) (fun _ _ _ h => h) (.inl ⟨by rfl, fun w hw => by (have h0 := hw.2.1; unfold execOp; go_simp)⟩) hS ?_
        try simp only [Act.put, List.setIfInBounds_toArray, List.set_cons_zero, List.set_cons_succ]
        refine takeL 18 (.slice (some ⟨g, o, none⟩) l.length kl) rfl (by kernel_rfl) (by kernel_rfl) (by kernel_rfl) (fun _ _ _ h => h) (.inl ⟨by rfl, fun w _ => by rfl⟩) hS ?_
        try simp only [Act.put, List.setIfInBounds_toArray, List.set_cons_zero, List.set_cons_succ]
        refine takeL 19 (.int .i64 ((k : Int))) rfl (by kernel_rfl) (by kernel_rfl) (by kernel_rfl) (fun _ _ _ h => h) (.inl ⟨by rfl, fun w _ => by rfl⟩) hS ?_
        try simp only [Act.put, List.setIfInBounds_toArray, List.set_cons_zero, List.set_cons_succ]
        refine takeL 20 (.int .i64 ((j : Int))) rfl (by kernel_rfl) (by kernel_rfl) (by kernel_rfl) (fun _ _ _ h => h) (.inl ⟨by rfl, fun w hw => by (unfold execOp; go_simp; all_goals first | omega | (rw [IntKind.wrap_i64] <;> omega))⟩) hS ?_
        try simp only [Act.put, List.setIfInBounds_toArray, List.set_cons_zero, List.set_cons_succ]
        refine takeL 21 (.pointer (some ⟨g, o + j, none⟩)) rfl (by kernel_rfl) (by kernel_rfl) (by kernel_rfl) (fun _ _ _ h => h) (.inl ⟨by rfl, fun w hw => by (unfold execOp; go_simp; all_goals omega)⟩) hS ?_
        try simp only [Act.put, List.setIfInBounds_toArray, List.set_cons_zero, List.set_cons_succ]
        refine takeL 22 (.int .i64 y) rfl (by kernel_rfl) (by kernel_rfl) (by kernel_rfl) (fun _ _ _ h => h) (.inl ⟨by rfl, fun w hw => by (have h0 := hw.2.2; unfold execOp; go_simp)⟩) hS ?_
        try simp only [Act.put, List.setIfInBounds_toArray, List.set_cons_zero, List.set_cons_succ]
        refine takeL 23 (.bool true) rfl (by kernel_rfl) (by kernel_rfl) (by kernel_rfl) (fun _ _ _ h => h) (.inl ⟨by rfl, fun w hw => by (unfold execOp; go_simp; all_goals first | omega | (rw [IntKind.wrap_i64] <;> omega))⟩) hS ?_
        try simp only [Act.put, List.setIfInBounds_toArray, List.set_cons_zero, List.set_cons_succ]
        refine takeL 24 (.bool true) rfl (by kernel_rfl) (by kernel_rfl) (by kernel_rfl) (fun _ _ _ h => h) (.inl ⟨by rfl, fun w _ => by rfl⟩) hS ?_
        try simp only [Act.put, List.setIfInBounds_toArray, List.set_cons_zero, List.set_cons_succ]
        refine takeL 25 (.bool true) rfl (by kernel_rfl) (by kernel_rfl) (by kernel_rfl) (fun _ _ _ h => h) (.inl ⟨by rfl, fun w _ => by rfl⟩) hS ?_
        try simp only [Act.put, List.setIfInBounds_toArray, List.set_cons_zero, List.set_cons_succ]
        refine wpAnyH_done (by kernel_rfl) ?_ _
        clear hS
        go_wp2
        go_ret
        exact ⟨by rw [HE.out, HF.out]; rfl, BB⟩
      have HF : Hid (ascAt 0 ((s.attrs.length : Int) - 1) l k = true) := by show _ = _; rw [HST.out, decide_eq_true hyx, Bool.or_true]; rfl
      clear HST hin
      refine takeL 0 (.slice (some ⟨g, o, none⟩) l.length kl) rfl (by kernel_rfl) (by kernel_rfl) (by kernel_rfl) (fun _ _ _ h => h) (.inl ⟨by rfl, fun w _ => by rfl⟩) hS ?_
      try simp only [Act.put, List.setIfInBounds_toArray, List.set_cons_zero, List.set_cons_succ]
      refine takeL 1 (.int .i64 ((k : Int))) rfl (by kernel_rfl) (by kernel_rfl) (by kernel_rfl) (fun _ _ _ h => h) (.inl ⟨by rfl, fun w _ => by rfl⟩) hS ?_
      try simp only [Act.put, List.setIfInBounds_toArray, List.set_cons_zero, List.set_cons_succ]
      refine takeL 2 (.pointer (some ⟨g, o + k, none⟩)) rfl (by kernel_rfl) (by kernel_rfl) (by kernel_rfl) (fun _ _ _ h => h) (.inl ⟨by rfl, fun w hw => by (unfold execOp; go_simp; all_goals omega)⟩) hS ?_
      try simp only [Act.put, List.setIfInBounds_toArray, List.set_cons_zero, List.set_cons_succ]
      refine takeL 3 (.int .i64 x) rfl (by kernel_rfl) (by kernel_rfl) (by kernel_rfl) (fun _ _ _ h => h) (.inl ⟨by rfl, fun w hw => by (have h0 := hw.2.1; unfold execOp; go_simp)⟩) hS ?_
      try simp only [Act.put, List.setIfInBounds_toArray, List.set_cons_zero, List.set_cons_succ]
      refine takeL 4 (.pointer (some ⟨w.heap.size, 0, none⟩)) rfl (by kernel_rfl) (by kernel_rfl) (by kernel_rfl) (fun _ _ _ h => h) (.inl ⟨by rfl, fun w hw => by (unfold execOp; go_simp)⟩) hS ?_
      try simp only [Act.put, List.setIfInBounds_toArray, List.set_cons_zero, List.set_cons_succ]
      refine takeL 5 (.slice oa s.attrs.length ka) rfl (by kernel_rfl) (by kernel_rfl) (by kernel_rfl) (fun _ _ _ h => h) (.inl ⟨by rfl, fun w hw => by (have h0 := (hw.1).cell 0; unfold execOp; go_simp)⟩) hS ?_
      try simp only [Act.put, List.setIfInBounds_toArray, List.set_cons_zero, List.set_cons_succ]
      refine takeL 6 (.int .i64 ((s.attrs.length : Int))) rfl (by kernel_rfl) (by kernel_rfl) (by kernel_rfl) (fun _ _ _ h => h) (.inl ⟨by rfl, fun w hw => by (unfold execOp; go_simp)⟩) hS ?_
      try simp only [Act.put, List.setIfInBounds_toArray, List.set_cons_zero, List.set_cons_succ]
      refine takeL 7 (.int .i64 (((s.attrs.length : Int)) - 1)) rfl (by kernel_rfl) (by kernel_rfl) (by kernel_rfl) (fun _ _ _ h => h) (.inl ⟨by rfl, fun w hw => by (unfold execOp; go_simp; all_goals (rw [IntKind.wrap_i64]; omega))⟩) hS ?_
      try simp only [Act.put, List.setIfInBounds_toArray, List.set_cons_zero, List.set_cons_succ]
      refine nextL 8 rfl (by kernel_rfl) (by rfl) fun K hK => ?_
      go_simp
      refine cI.mono ?_
      clear cI
      rintro e w5 ⟨rfl, e5⟩
      rw [e5]
      clear e5 w5
      refine hK _ _ hS ?_
      clear hK K hS
      intro hS
      refine takeL 9 (.bool false) rfl (by kernel_rfl) (by kernel_rfl) (by kernel_rfl) (fun _ _ _ h => h) (.inl ⟨by rfl, fun w hw => by (unfold execOp; go_simp)⟩) hS ?_
      try simp only [Act.put, List.setIfInBounds_toArray, List.set_cons_zero, List.set_cons_succ]
      refine takeL 10 (.bool false) rfl (by kernel_rfl) (by kernel_rfl) (by kernel_rfl) (fun _ _ _ h => h) (.inl ⟨by rfl, fun w _ => by rfl⟩) hS ?_
      try simp only [Act.put, List.setIfInBounds_toArray, List.set_cons_zero, List.set_cons_succ]
      refine takeL 11 (.int .i64 ((k : Int))) rfl (by kernel_rfl) (by kernel_rfl) (by kernel_rfl) (fun _ _ _ h => h) (.inl ⟨by rfl, fun w _ => by rfl⟩) hS ?_
      try simp only [Act.put, List.setIfInBounds_toArray, List.set_cons_zero, List.set_cons_succ]
      refine takeL 12 (.bool true) rfl (by kernel_rfl) (by kernel_rfl) (by kernel_rfl) (fun _ _ _ h => h) (.inl ⟨by rfl, fun w hw => by (unfold execOp; go_simp; all_goals first | omega | (rw [IntKind.wrap_i64] <;> omega))⟩) hS ?_
      try simp only [Act.put, List.setIfInBounds_toArray, List.set_cons_zero, List.set_cons_succ]
      refine takeL 13 (.bool true) rfl (by kernel_rfl) (by kernel_rfl) (by kernel_rfl) (fun _ _ _ h => h) (.inl ⟨by rfl, fun w _ => by rfl⟩) hS ?_
      try simp only [Act.put, List.setIfInBounds_toArray, List.set_cons_zero, List.set_cons_succ]
      refine takeL 14 (.slice (some ⟨g, o, none⟩) l.length kl) rfl (by kernel_rfl) (by kernel_rfl) (by kernel_rfl) (fun _ _ _ h => h) (.inl ⟨by rfl, fun w _ => by rfl⟩) hS ?_
      try simp only [Act.put, List.setIfInBounds_toArray, List.set_cons_zero, List.set_cons_succ]
      refine takeL 15 (.int .i64 ((k : Int))) rfl (by kernel_rfl) (by kernel_rfl) (by kernel_rfl) (fun _ _ _ h => h) (.inl ⟨by rfl, fun w _ => by rfl⟩) hS ?_
      try simp only [Act.put, List.setIfInBounds_toArray, List.set_cons_zero, List.set_cons_succ]
      refine takeL 16 (.pointer (some ⟨g, o + k, none⟩)) rfl (by kernel_rfl) (by kernel_rfl) (by kernel_rfl) (fun _ _ _ h => h) (.inl ⟨by rfl, fun w hw => by (unfold execOp; go_simp; all_goals omega)⟩) hS ?_
      try simp only [Act.put, List.setIfInBounds_toArray, List.set_cons_zero, List.set_cons_succ]
      refine takeL 17 (.int .i64 x) rfl (by kernel_rfl) (by kernel_rfl) (by kernel_rfl) (fun _ _ _ h => h) (.inl ⟨by rfl, fun w hw => by (have h0 := hw.2.1; unfold execOp; go_simp)⟩) hS ?_
      try simp only [Act.put, List.setIfInBounds_toArray, List.set_cons_zero, List.set_cons_succ]
      refine takeL 18 (.slice (some ⟨g, o, none⟩) l.length kl) rfl (by kernel_rfl) (by kernel_rfl) (by kernel_rfl) (fun _ _ _ h => h) (.inl ⟨by rfl, fun w _ => by rfl⟩) hS ?_
      try simp only [Act.put, List.setIfInBounds_toArray, List.set_cons_zero, List.set_cons_succ]
      refine takeL 19 (.int .i64 ((k : Int))) rfl (by kernel_rfl) (by kernel_rfl) (by kernel_rfl) (fun _ _ _ h => h) (.inl ⟨by rfl, fun w _ => by rfl⟩) hS ?_
      try simp only [Act.put, List.setIfInBounds_toArray, List.set_cons_zero, List.set_cons_succ]
      refine takeL 20 (.int .i64 ((j : Int))) rfl (by kernel_rfl) (by kernel_rfl) (by kernel_rfl) (fun _ _ _ h => h) (.inl ⟨by rfl, fun w hw => by (unfold execOp; go_simp; all_goals first | omega | (rw [IntKind.wrap_i64] <;> omega))⟩) hS ?_
      try simp only [Act.put, List.setIfInBounds_toArray, List.set_cons_zero, List.set_cons_succ]
      refine takeL 21 (.pointer (some ⟨g, o + j, none⟩)) rfl (by kernel_rfl) (by kernel_rfl) (by kernel_rfl) (fun _ _ _ h => h) (.inl ⟨by rfl, fun w hw => by (unfold execOp; go_simp; all_goals omega)⟩) hS ?_
      try simp only [Act.put, List.setIfInBounds_toArray, List.set_cons_zero, List.set_cons_succ]
      refine takeL 22 (.int .i64 y) rfl (by kernel_rfl) (by kernel_rfl) (by kernel_rfl) (fun _ _ _ h => h) (.inl ⟨by rfl, fun w hw => by (have h0 := hw.2.2; unfold execOp; go_simp)⟩) hS ?_
      try simp only [Act.put, List.setIfInBounds_toArray, List.set_cons_zero, List.set_cons_succ]
      refine takeL 23 (.bool false) rfl (by kernel_rfl) (by kernel_rfl) (by kernel_rfl) (fun _ _ _ h => h) (.inl ⟨by rfl, fun w hw => by (unfold execOp; go_simp; all_goals first | omega | (rw [IntKind.wrap_i64] <;> omega))⟩) hS ?_
      try simp only [Act.put, List.setIfInBounds_toArray, List.set_cons_zero, List.set_cons_succ]
      refine takeL 24 (.bool false) rfl (by kernel_rfl) (by kernel_rfl) (by kernel_rfl) (fun _ _ _ h => h) (.inl ⟨by rfl, fun w _ => by rfl⟩) hS ?_
      try simp only [Act.put, List.setIfInBounds_toArray, List.set_cons_zero, List.set_cons_succ]
      refine takeL 25 (.bool false) rfl (by kernel_rfl) (by kernel_rfl) (by kernel_rfl) (fun _ _ _ h => h) (.inl ⟨by rfl, fun w _ => by rfl⟩) hS ?_
      try simp only [Act.put, List.setIfInBounds_toArray, List.set_cons_zero, List.set_cons_succ]
      refine wpAnyH_done (by kernel_rfl) ?_ _
      clear hS
      go_wp2
      go_roundw
      case rel =>
        refine ⟨k + 1, by go_num, by omega, ?_, BR⟩
        intro j' hj'
        by_cases e : j' = k
        · subst e; exact HF.out
        · exact hal.out j' (by omega)
      case measure => simp [intOf]; omega
end Go.Proofs.YteadkdllmeeocabGreat
/- The questions that may be asked, by the specification. -/
namespace Go.Proofs.YteadkdllmeeocabGreat
open Go.RowKit
set_option maxRecDepth 100000
set_option linter.unusedSimpArgs false
theorem fork_way {s : SchemaD} {a : Nat} (h : schemaOk s = true) (ha : a < s.attrs.length) (p : Nat) : forkOk s ⟨(a : Int), (p : Int)⟩ = decide (p < wayN (ad s.attrs a)) := by
  have hf : forkAttr s ⟨(a : Int), (p : Int)⟩ = ad s.attrs a := rfl
  have ht := top_eq (s := s) (f := ⟨(a : Int), (p : Int)⟩) (by rw [hf]; exact sch_attr h ha)
  rw [hf] at ht
  unfold forkOk
  rw [h, ht, decide_eq_true (show 0 ≤ (a : Int) ∧ (a : Int) ≤ (s.attrs.length : Int) - 1 by omega), Bool.true_and, Bool.true_and]
  exact decide_eq_decide.2 (by show (-1 ≤ (p : Int) ∧ (p : Int) ≤ _) ↔ _; omega)
theorem ownF_lit0 (w : World) (b : Nat) (hb : b ≤ w.heap.size) : (w.alloc (.cells #[] 33)).ownsRow b 33 2 (.slice (some ⟨w.heap.size, 0, none⟩) 0 0) 0 [] :=
  World.ownsRow_lit w #[] 0 hb (by unfold maxLen; omega) rfl
set_option maxHeartbeats 6400000 in
theorem specCandidates_any (vs vl : Value) (s : SchemaD) (l : List Int) (two : Bool) (w : World) (hs : SchemaAt w vs s) (hn : okSch s) (hl : RowI w vl l) (hl2 : l.length ≤ 1048576) :
    Calls Tryz.prog 20 #[vs, vl, .bool two] w fun e w' => ∃ v, e = .returned v ∧ OwnF w w' v (candidates s l two) := by
  obtain ⟨i0, hi0, hz0, hz1, hz2⟩ := info_parts forkInfo
  have HS : Hid (∀ W, Below w.heap.size w W → SchemaAt W vs s) := fun W h => hs.later h
  have HOK : Hid (okSch s) := hn
  have la := hn.attrs
  have B0 : ∀ o o', Below w.heap.size w ((w.alloc o).alloc o') := fun o o' => ((Below.refl _ _).alloc (Nat.le_refl _) _).alloc (by simp) _
  have cc := fun o o' => specAttrsOk_any vs vl s l ((w.alloc o).alloc o') (hs.later (B0 o o')) hn (hl.later (B0 o o')) (by omega)
  clear B0
  obtain ⟨va, vc, rfl, ra, -⟩ := hs
  obtain ⟨oa, ka, rfl, -, -⟩ := id ra
  obtain ⟨ol, kl, rfl, hcl, hrl⟩ := id hl
  clear ra hn
  obtain ⟨KS, B⟩ := blk_1 40 w #[.slice oa s.attrs.length ka, vc]
  have hown0 := ownF_lit0 (w.alloc (.cells #[.slice oa s.attrs.length ka, vc] 40)) w.heap.size (by simp)
  have bL : Below (w.alloc (.cells #[.slice oa s.attrs.length ka, vc] 40)).heap.size (w.alloc (.cells #[.slice oa s.attrs.length ka, vc] 40)) ((w.alloc (.cells #[.slice oa s.attrs.length ka, vc] 40)).alloc (.cells #[] 33)) := (Below.refl _ _).alloc (Nat.le_refl _) _
  replace KS := KS.below bL
  replace B := B.trans (bL.mono B.size)
  clear bL
  have kS0 : ((w.alloc (.cells #[.slice oa s.attrs.length ka, vc] 40)).alloc (.cells #[] 33)).cell? ⟨w.heap.size, 0, none⟩ = some (.slice oa s.attrs.length ka) := KS.cell 0
  have kS1 : ((w.alloc (.cells #[.slice oa s.attrs.length ka, vc] 40)).alloc (.cells #[] 33)).cell? ⟨w.heap.size, 1, none⟩ = some vc := KS.cell 1
  cases hk : placesOk s l with
  | false =>
    have HE : Hid (candidates s l two = []) := by unfold candidates; rw [hk]; rfl
    rw [hk] at cc
    clear hk hrl hl
    go_enter Tryz.func20, Tryz.ntmps20
    go_wp2_with fail
    refine (cc _ _).mono ?_
    clear cc
    rintro e w1 ⟨rfl, hb⟩
    replace B := B.trans (hb.mono B.size)
    replace hown0 := own_below hown0 hb
    simp only [World.size_alloc] at hown0
    clear kS0 kS1
    go_wp2
    go_ret
    exact ⟨_, rfl, by rw [HE.out]; exact hown0, B⟩
  | true =>
    have HE : Hid (candidates s l two = candTo s two l l.length) := by show _ = _; unfold candidates; rw [if_pos hk, candTo_all]
    obtain ⟨hsch, hpl⟩ := places_parts hk
    have HPL : Hid (∀ k, k < l.length → ∃ a : Nat, l.getD k 0 = (a : Int) ∧ a < s.attrs.length) := hpl
    have HSC : Hid (schemaOk s = true) := hsch
    rw [hk] at cc
    clear hk hsch hpl
    have HR : Hid (∀ k, k < l.length → ∃ g o, ol = some ⟨g, o, none⟩ ∧ ∀ W, Below w.heap.size w W → W.cell? ⟨g, o + k, none⟩ = some (.int .i64 (l.getD k 0))) := fun k hk => by
      obtain ⟨g, o, rfl, hg, hj⟩ := hrl (by omega)
      exact ⟨g, o, rfl, fun W h => (h.cell (p := ⟨g, o + k, none⟩) hg).trans (hj k hk)⟩
    clear hrl hl
    go_enter Tryz.func20, Tryz.ntmps20
    go_wp2_with fail
    refine (cc _ _).mono ?_
    clear cc
    rintro e w2 ⟨rfl, hb⟩
    clear kS0 kS1 B KS
    have hown : w2.ownsRow (w.heap.size + 1) 33 2 (.slice (some ⟨w.heap.size + 1, 0, none⟩) 0 0) 0 [] := by
      have := own_below (ownF_lit0 (w.alloc (.cells #[.slice oa s.attrs.length ka, vc] 40)) (w.heap.size + 1) (by simp)) hb
      simpa using this
    clear hown0
    have hbr : Below (w.alloc (.cells #[.slice oa s.attrs.length ka, vc] 40)).heap.size (w.alloc (.cells #[.slice oa s.attrs.length ka, vc] 40)) w2 := ((Below.refl _ _).alloc (Nat.le_refl _) _).trans (hb.mono (by simp))
    have HB1 : Hid (Below w.heap.size w (w.alloc (.cells #[.slice oa s.attrs.length ka, vc] 40))) := (Below.refl _ _).alloc (Nat.le_refl _) _
    have HK : Hid (∀ W, Below (w.alloc (.cells #[.slice oa s.attrs.length ka, vc] 40)).heap.size (w.alloc (.cells #[.slice oa s.attrs.length ka, vc] 40)) W → Blk 40 W w.heap.size #[.slice oa s.attrs.length ka, vc]) := fun W h => (Blk.new _ _ _).below h
    have hz1 : (w.alloc (.cells #[.slice oa s.attrs.length ka, vc] 40)).heap.size = w.heap.size + 1 := by simp
    clear hb
    generalize w.alloc (.cells #[.slice oa s.attrs.length ka, vc] 40) = w1 at hbr HB1 HK hz1
    rw [← hz1] at hown ⊢
    have hsz : w.heap.size ≤ w1.heap.size := by omega
    clear hz1
    go_wp2
    go_loopw [7, 8] (fun v i wr => ∃ (k : Nat) (fs : List ForkD), i = .int .i64 k ∧ k ≤ l.length ∧ Hid (fs = candTo s two l k) ∧ fs.length ≤ 4 * k ∧ wr.ownsRow w1.heap.size 33 2 v fs.length (fkC fs) ∧ Below w1.heap.size w1 wr) (fun _ i _ => l.length - (intOf i).toNat)
    case atStart => exact ⟨0, [], rfl, by omega, rfl, by simp, hown, hbr⟩
    case round =>
      clear hown hbr
      obtain ⟨k, fs, rfl, hk, HF, hfl, hown, hbr⟩ := hrel
      by_cases hlt : k < l.length
      rotate_left
      · obtain rfl : k = l.length := by omega
        go_wp2
        go_ret
        exact ⟨_, rfl, by rw [HE.out, ← HF.out]; exact own_base hown hsz, HB1.out.trans (hbr.mono hsz)⟩
      have B := HB1.out.trans (hbr.mono hsz)
      obtain ⟨g, o, rfl, hcl'⟩ := HR.out k hlt
      obtain ⟨a, ha, hal⟩ := HPL.out k hlt
      have hcx : True ∧ ∀ W, Below w.heap.size w W → W.cell? ⟨g, o + k, none⟩ = some (.int .i64 (a : Int)) := ⟨trivial, fun W hW => by rw [← ha]; exact hcl' W hW⟩
      have HCX : Hid (True ∧ ∀ W, Below w.heap.size w W → W.cell? ⟨g, o + k, none⟩ = some (.int .i64 (a : Int))) := hcx
      have HST : Hid (candTo s two l (k + 1) = candTo s two l k ++ candOf s two (a : Int)) := by show _ = _; rw [candTo_succ hlt, ha]
      clear hcl' ha hcx
      obtain ⟨ga, fa, y1, z1, y2, z2, rfl, hat⟩ := attr_at (HS.out wr B) hal
      have HAT : Hid _ := hat
      clear hat
      have h4 := wayN_le (sch_attr HSC.out hal)
      have HFW : Hid (∀ p : Nat, forkOk s ⟨(a : Int), (p : Int)⟩ = decide (p < wayN (ad s.attrs a))) := fun p => fork_way HSC.out hal p
      by_cases h0 : (ad s.attrs a).cuts.length = 0
      · have hq : (((ad s.attrs a).cuts.length : Int) == 0) = true := by rw [h0]; rfl
        cases two with
        | false =>
          have HN : Hid (candTo s false l (k + 1) = fs ++ [⟨(a : Int), -1⟩]) := by show _ = _; rw [HST.out, ← HF.out, cand_one h0 rfl]
          clear h0 HFW h4
          have bd : Below wr.heap.size wr wr.drew := below_drewN (Below.refl _ _) 1
          have hS0 := HCX.out.2 _ (B.trans (bd.mono B.size))
          go_wp2_with fail
          refine wp_region_held_drew (S := fun w' => Blk 40 w' w.heap.size #[.slice (some ⟨ga, fa, none⟩) s.attrs.length ka, vc] ∧ w'.cell? ⟨g, o + k, none⟩ = some (.int .i64 (a : Int)) ∧ w'.cell? ⟨ga, fa + a * 3 + 1, none⟩ = some (.slice y1 (ad s.attrs a).cuts.length z1)) (by kernel_rfl) ⟨(HK.out wr hbr).below bd, hS0, (HAT.out _ bd).2.1⟩ ?_
          intro hS
          replace hown := own_below hown bd
          replace hbr := hbr.trans (bd.mono hbr.size)
          replace B := B.trans (bd.mono B.size)
          clear bd hS0
          generalize wr.drew = w3 at hown hbr B hS ⊢
          refine takeL 0 (.pointer (some ⟨w.heap.size, 0, none⟩)) rfl (by kernel_rfl) (by kernel_rfl) (by kernel_rfl) (fun _ _ _ h => h) (.inl ⟨by rfl, fun w hw => by (unfold execOp; go_simp)⟩) hS ?_
          try simp only [Act.put, List.setIfInBounds_toArray, List.set_cons_zero, List.set_cons_succ]
          refine takeL 1 (.slice (some ⟨ga, fa, none⟩) s.attrs.length ka) rfl (by kernel_rfl) (by kernel_rfl) (by kernel_rfl) (fun _ _ _ h => h) (.inl ⟨by rfl, fun w hw => by (have h0 := (hw.1).cell 0; unfold execOp; go_simp)⟩) hS ?_
          try simp only [Act.put, List.setIfInBounds_toArray, List.set_cons_zero, List.set_cons_succ]
          refine takeL 2 (.slice (some ⟨g, o, none⟩) l.length kl) rfl (by kernel_rfl) (by kernel_rfl) (by kernel_rfl) (fun _ _ _ h => h) (.inl ⟨by rfl, fun w _ => by rfl⟩) hS ?_
          try simp only [Act.put, List.setIfInBounds_toArray, List.set_cons_zero, List.set_cons_succ]
          refine takeL 3 (.int .i64 ((k : Int))) rfl (by kernel_rfl) (by kernel_rfl) (by kernel_rfl) (fun _ _ _ h => h) (.inl ⟨by rfl, fun w _ => by rfl⟩) hS ?_
          try simp only [Act.put, List.setIfInBounds_toArray, List.set_cons_zero, List.set_cons_succ]
          refine takeL 4 (.pointer (some ⟨g, o + k, none⟩)) rfl (by kernel_rfl) (by kernel_rfl) (by kernel_rfl) (fun _ _ _ h => h) (.inl ⟨by rfl, fun w hw => by (unfold execOp; go_simp; all_goals omega)⟩) hS ?_
          try simp only [Act.put, List.setIfInBounds_toArray, List.set_cons_zero, List.set_cons_succ]
          refine takeL 5 (.int .i64 ((a : Int))) rfl (by kernel_rfl) (by kernel_rfl) (by kernel_rfl) (fun _ _ _ h => h) (.inl ⟨by rfl, fun w hw => by (have h0 := hw.2.1; unfold execOp; go_simp)⟩) hS ?_
          try simp only [Act.put, List.setIfInBounds_toArray, List.set_cons_zero, List.set_cons_succ]
          refine takeL 6 (.pointer (some ⟨ga, fa + a * 3, none⟩)) rfl (by kernel_rfl) (by kernel_rfl) (by kernel_rfl) (fun _ _ _ h => h) (.inl ⟨by rfl, fun w hw => by (unfold execOp; go_simp; all_goals omega)⟩) hS ?_
          try simp only [Act.put, List.setIfInBounds_toArray, List.set_cons_zero, List.set_cons_succ]
          refine takeL 7 (.pointer (some ⟨ga, fa + a * 3 + 1, none⟩)) rfl (by kernel_rfl) (by kernel_rfl) (by kernel_rfl) (fun _ _ _ h => h) (.inl ⟨by rfl, fun w hw => by (unfold execOp; go_simp)⟩) hS ?_
          try simp only [Act.put, List.setIfInBounds_toArray, List.set_cons_zero, List.set_cons_succ]
          refine takeL 8 (.slice y1 ((ad s.attrs a).cuts.length) z1) rfl (by kernel_rfl) (by kernel_rfl) (by kernel_rfl) (fun _ _ _ h => h) (.inl ⟨by rfl, fun w hw => by (have h0 := hw.2.2; unfold execOp; go_simp)⟩) hS ?_
          try simp only [Act.put, List.setIfInBounds_toArray, List.set_cons_zero, List.set_cons_succ]
          refine takeL 9 (.int .i64 (((ad s.attrs a).cuts.length : Int))) rfl (by kernel_rfl) (by kernel_rfl) (by kernel_rfl) (fun _ _ _ h => h) (.inl ⟨by rfl, fun w hw => by (unfold execOp; go_simp)⟩) hS ?_
          try simp only [Act.put, List.setIfInBounds_toArray, List.set_cons_zero, List.set_cons_succ]
          refine takeL 10 (.bool true) rfl (by kernel_rfl) (by kernel_rfl) (by kernel_rfl) (fun _ _ _ h => h) (.inl ⟨by rfl, fun w hw => by (unfold execOp; go_simp)⟩) hS ?_
          try simp only [Act.put, List.setIfInBounds_toArray, List.set_cons_zero, List.set_cons_succ]
          refine takeL 11 (.bool true) rfl (by kernel_rfl) (by kernel_rfl) (by kernel_rfl) (fun _ _ _ h => h) (.inl ⟨by rfl, fun w _ => by rfl⟩) hS ?_
          try simp only [Act.put, List.setIfInBounds_toArray, List.set_cons_zero, List.set_cons_succ]
          refine takeL 12 (.bool false) rfl (by kernel_rfl) (by kernel_rfl) (by kernel_rfl) (fun _ _ _ h => h) (.inl ⟨by rfl, fun w _ => by rfl⟩) hS ?_
          try simp only [Act.put, List.setIfInBounds_toArray, List.set_cons_zero, List.set_cons_succ]
          refine takeL 13 (.bool true) rfl (by kernel_rfl) (by kernel_rfl) (by kernel_rfl) (fun _ _ _ h => h) (.inl ⟨by rfl, fun w hw => by (unfold execOp; go_simp)⟩) hS ?_
          try simp only [Act.put, List.setIfInBounds_toArray, List.set_cons_zero, List.set_cons_succ]
          refine takeL 14 (.bool true) rfl (by kernel_rfl) (by kernel_rfl) (by kernel_rfl) (fun _ _ _ h => h) (.inl ⟨by rfl, fun w _ => by rfl⟩) hS ?_
          try simp only [Act.put, List.setIfInBounds_toArray, List.set_cons_zero, List.set_cons_succ]
          refine wpAnyH_done (by kernel_rfl) ?_ _
          obtain ⟨-, hcz, -⟩ := hS
          go_wp2_with (at_builtin; refine wpList_append_own _ rfl _ _ 55 rfl w1.heap.size 33 i0 (.agg #[.int .i64 0, .int .i64 0]) 2 16 Tryz.underlying55 hi0 hz0 hz1 hz2 rfl (by decide) _ _ _ rfl (hown.alloc _) ⟨w3.heap.size, 0, none⟩ 1 1 [.int .i64 a, .int .i64 (-1)] rfl rfl (newcF2 _ _ _ _) (one2 _ _) (by unfold maxLen; omega) (by omega) (by have := hbr.size; simp; omega) ?_)
          intro v' w5 ho hg hnil
          have hb5 : Below w1.heap.size w1 w5 := (hbr.alloc hbr.size _).grown hg (by have := hbr.size; simp; omega) (fun k hk => (hown.lt k hk).1)
          clear hg hnil hbr hown
          go_wp2
          go_roundw
          case rel =>
            refine ⟨k + 1, fs ++ [⟨(a : Int), -1⟩], by go_num, by omega, by show _ = _; exact HN.out.symm, by simp; omega, ?_, hb5⟩
            rw [List.length_append, fkC_snoc]
            exact ho
          case measure => simp [intOf]; omega
        | true =>
          have HN : Hid (candTo s true l (k + 1) = fs ++ wayF a (wayN (ad s.attrs a))) := by show _ = _; rw [HST.out, ← HF.out, cand_ways (fun h => by cases h.2)]
          clear h0
          generalize wayN (ad s.attrs a) = nw at HN h4 HFW
          have bd : Below wr.heap.size wr wr.drew := below_drewN (Below.refl _ _) 1
          have hS0 := HCX.out.2 _ (B.trans (bd.mono B.size))
          go_wp2_with fail
          refine wp_region_held_drew (S := fun w' => Blk 40 w' w.heap.size #[.slice (some ⟨ga, fa, none⟩) s.attrs.length ka, vc] ∧ w'.cell? ⟨g, o + k, none⟩ = some (.int .i64 (a : Int)) ∧ w'.cell? ⟨ga, fa + a * 3 + 1, none⟩ = some (.slice y1 (ad s.attrs a).cuts.length z1)) (by kernel_rfl) ⟨(HK.out wr hbr).below bd, hS0, (HAT.out _ bd).2.1⟩ ?_
          intro hS
          replace hown := own_below hown bd
          replace hbr := hbr.trans (bd.mono hbr.size)
          replace B := B.trans (bd.mono B.size)
          clear bd hS0
          generalize wr.drew = w3 at hown hbr B hS ⊢
          refine takeL 0 (.pointer (some ⟨w.heap.size, 0, none⟩)) rfl (by kernel_rfl) (by kernel_rfl) (by kernel_rfl) (fun _ _ _ h => h) (.inl ⟨by rfl, fun w hw => by (unfold execOp; go_simp)⟩) hS ?_
          try simp only [Act.put, List.setIfInBounds_toArray, List.set_cons_zero, List.set_cons_succ]
          refine takeL 1 (.slice (some ⟨ga, fa, none⟩) s.attrs.length ka) rfl (by kernel_rfl) (by kernel_rfl) (by kernel_rfl) (fun _ _ _ h => h) (.inl ⟨by rfl, fun w hw => by (have h0 := (hw.1).cell 0; unfold execOp; go_simp)⟩) hS ?_
          try simp only [Act.put, List.setIfInBounds_toArray, List.set_cons_zero, List.set_cons_succ]
          refine takeL 2 (.slice (some ⟨g, o, none⟩) l.length kl) rfl (by kernel_rfl) (by kernel_rfl) (by kernel_rfl) (fun _ _ _ h => h) (.inl ⟨by rfl, fun w _ => by rfl⟩) hS ?_
          try simp only [Act.put, List.setIfInBounds_toArray, List.set_cons_zero, List.set_cons_succ]
          refine takeL 3 (.int .i64 ((k : Int))) rfl (by kernel_rfl) (by kernel_rfl) (by kernel_rfl) (fun _ _ _ h => h) (.inl ⟨by rfl, fun w _ => by rfl⟩) hS ?_
          try simp only [Act.put, List.setIfInBounds_toArray, List.set_cons_zero, List.set_cons_succ]
          refine takeL 4 (.pointer (some ⟨g, o + k, none⟩)) rfl (by kernel_rfl) (by kernel_rfl) (by kernel_rfl) (fun _ _ _ h => h) (.inl ⟨by rfl, fun w hw => by (unfold execOp; go_simp; all_goals omega)⟩) hS ?_
          try simp only [Act.put, List.setIfInBounds_toArray, List.set_cons_zero, List.set_cons_succ]
          refine takeL 5 (.int .i64 ((a : Int))) rfl (by kernel_rfl) (by kernel_rfl) (by kernel_rfl) (fun _ _ _ h => h) (.inl ⟨by rfl, fun w hw => by (have h0 := hw.2.1; unfold execOp; go_simp)⟩) hS ?_
          try simp only [Act.put, List.setIfInBounds_toArray, List.set_cons_zero, List.set_cons_succ]
          refine takeL 6 (.pointer (some ⟨ga, fa + a * 3, none⟩)) rfl (by kernel_rfl) (by kernel_rfl) (by kernel_rfl) (fun _ _ _ h => h) (.inl ⟨by rfl, fun w hw => by (unfold execOp; go_simp; all_goals omega)⟩) hS ?_
          try simp only [Act.put, List.setIfInBounds_toArray, List.set_cons_zero, List.set_cons_succ]
          refine takeL 7 (.pointer (some ⟨ga, fa + a * 3 + 1, none⟩)) rfl (by kernel_rfl) (by kernel_rfl) (by kernel_rfl) (fun _ _ _ h => h) (.inl ⟨by rfl, fun w hw => by (unfold execOp; go_simp)⟩) hS ?_
          try simp only [Act.put, List.setIfInBounds_toArray, List.set_cons_zero, List.set_cons_succ]
          refine takeL 8 (.slice y1 ((ad s.attrs a).cuts.length) z1) rfl (by kernel_rfl) (by kernel_rfl) (by kernel_rfl) (fun _ _ _ h => h) (.inl ⟨by rfl, fun w hw => by (have h0 := hw.2.2; unfold execOp; go_simp)⟩) hS ?_
          try simp only [Act.put, List.setIfInBounds_toArray, List.set_cons_zero, List.set_cons_succ]
          refine takeL 9 (.int .i64 (((ad s.attrs a).cuts.length : Int))) rfl (by kernel_rfl) (by kernel_rfl) (by kernel_rfl) (fun _ _ _ h => h) (.inl ⟨by rfl, fun w hw => by (unfold execOp; go_simp)⟩) hS ?_
          try simp only [Act.put, List.setIfInBounds_toArray, List.set_cons_zero, List.set_cons_succ]
          refine takeL 10 (.bool true) rfl (by kernel_rfl) (by kernel_rfl) (by kernel_rfl) (fun _ _ _ h => h) (.inl ⟨by rfl, fun w hw => by (unfold execOp; go_simp)⟩) hS ?_
          try simp only [Act.put, List.setIfInBounds_toArray, List.set_cons_zero, List.set_cons_succ]
          refine takeL 11 (.bool true) rfl (by kernel_rfl) (by kernel_rfl) (by kernel_rfl) (fun _ _ _ h => h) (.inl ⟨by rfl, fun w _ => by rfl⟩) hS ?_
          try simp only [Act.put, List.setIfInBounds_toArray, List.set_cons_zero, List.set_cons_succ]
          refine takeL 12 (.bool true) rfl (by kernel_rfl) (by kernel_rfl) (by kernel_rfl) (fun _ _ _ h => h) (.inl ⟨by rfl, fun w _ => by rfl⟩) hS ?_
          try simp only [Act.put, List.setIfInBounds_toArray, List.set_cons_zero, List.set_cons_succ]
          refine takeL 13 (.bool false) rfl (by kernel_rfl) (by kernel_rfl) (by kernel_rfl) (fun _ _ _ h => h) (.inl ⟨by rfl, fun w hw => by (unfold execOp; go_simp)⟩) hS ?_
          try simp only [Act.put, List.setIfInBounds_toArray, List.set_cons_zero, List.set_cons_succ]
          refine takeL 14 (.bool false) rfl (by kernel_rfl) (by kernel_rfl) (by kernel_rfl) (fun _ _ _ h => h) (.inl ⟨by rfl, fun w _ => by rfl⟩) hS ?_
          try simp only [Act.put, List.setIfInBounds_toArray, List.set_cons_zero, List.set_cons_succ]
          refine wpAnyH_done (by kernel_rfl) ?_ _
          obtain ⟨-, hcz, -⟩ := hS
          go_wp2
          go_loopw [7, 9] (fun v i wr => ∃ p : Nat, i = .int .i64 p ∧ p ≤ 4 ∧ wr.ownsRow w1.heap.size 33 2 v (fs.length + min p nw) (fkC (fs ++ wayF a (min p nw))) ∧ Below w1.heap.size w1 wr) (fun _ i _ => 4 - (intOf i).toNat)
          case atStart => exact ⟨0, rfl, by omega, by rw [Nat.zero_min, show wayF a 0 = [] from rfl, List.append_nil]; exact hown, hbr⟩
          case round =>
            clear hown hbr B hcz
            obtain ⟨p, rfl, hp, hown, hbr⟩ := hrel
            by_cases hplt : p < 4
            rotate_left
            · obtain rfl : p = 4 := by omega
              rw [show min 4 nw = nw by omega] at hown
              go_wp2
              go_roundw
              case rel =>
                refine ⟨k + 1, fs ++ wayF a nw, by go_num, by omega, by show _ = _; exact HN.out.symm, by rw [List.length_append, wayF_len]; omega, ?_, hbr⟩
                rw [List.length_append, wayF_len]
                exact hown
              case measure => simp [intOf]; omega
            have B := HB1.out.trans (hbr.mono hsz)
            have hcy := HCX.out.2 _ B
            have bF : Below wr.heap.size wr (wr.alloc (.cells #[.int .i64 (a : Int), .int .i64 (p : Int)] 33)) := (Below.refl _ _).alloc (Nat.le_refl _) _
            have KF := Blk.new 33 wr #[.int .i64 (a : Int), .int .i64 (p : Int)]
            have cc := specForkOk_any _ s ⟨(a : Int), (p : Int)⟩ _ (HS.out _ (B.trans (bF.mono B.size))) HOK.out
            unfold forkV at cc
            rw [HFW.out p] at cc
            have kS0 : (wr.alloc (.cells #[.int .i64 (a : Int), .int .i64 (p : Int)] 33)).cell? ⟨w.heap.size, 0, none⟩ = some (.slice (some ⟨ga, fa, none⟩) s.attrs.length ka) := ((HK.out wr hbr).below bF).cell 0
            have kS1 : (wr.alloc (.cells #[.int .i64 (a : Int), .int .i64 (p : Int)] 33)).cell? ⟨w.heap.size, 1, none⟩ = some vc := ((HK.out wr hbr).below bF).cell 1
            have kF0 : (wr.alloc (.cells #[.int .i64 (a : Int), .int .i64 (p : Int)] 33)).cell? ⟨wr.heap.size, 0, none⟩ = some (.int .i64 (a : Int)) := KF.cell 0
            have kF1 : (wr.alloc (.cells #[.int .i64 (a : Int), .int .i64 (p : Int)] 33)).cell? ⟨wr.heap.size, 1, none⟩ = some (.int .i64 (p : Int)) := KF.cell 1
            go_wp2_with fail
            refine cc.mono ?_
            clear cc kS0 kS1 kF0 kF1 hcy
            rintro e w6 ⟨rfl, hb⟩
            replace hown := own_below (own_below hown bF) hb
            replace hbr := (hbr.trans (bF.mono hbr.size)).trans (hb.mono (by have := hbr.size; simp; omega))
            replace KF := KF.below hb
            clear hb bF B
            by_cases hpn : p < nw
            · rw [decide_eq_true hpn]
              have HW : Hid (fkC (fs ++ wayF a (min (p + 1) nw)) = fkC (fs ++ wayF a (min p nw)) ++ [.int .i64 (a : Int), .int .i64 (p : Int)]) := by show _ = _; rw [show min (p + 1) nw = p + 1 by omega, show min p nw = p by omega, wayF_succ, ← List.append_assoc, fkC_snoc]
              have HM : Hid (fs.length + min (p + 1) nw = fs.length + min p nw + 1) := by show _ = _; omega
              have hmm : min p nw ≤ 4 := by omega
              have kF0 : w6.cell? ⟨wr.heap.size, 0, none⟩ = some (.int .i64 (a : Int)) := KF.cell 0
              have kF1 : w6.cell? ⟨wr.heap.size, 1, none⟩ = some (.int .i64 (p : Int)) := KF.cell 1
              clear KF
              generalize min p nw = mm at hown hmm HW HM
              go_wp2_with (at_builtin; refine wpList_append_own _ rfl _ _ 55 rfl w1.heap.size 33 i0 (.agg #[.int .i64 0, .int .i64 0]) 2 16 Tryz.underlying55 hi0 hz0 hz1 hz2 rfl (by decide) _ _ _ rfl (hown.alloc _) ⟨w6.heap.size, 0, none⟩ 1 1 [.int .i64 a, .int .i64 p] rfl rfl (newcF2 _ _ _ _) (one2 _ _) (by unfold maxLen; omega) (by omega) (by have := hbr.size; simp; omega) ?_)
              intro v' w7 ho hg hnil
              have hb7 : Below w1.heap.size w1 w7 := (hbr.alloc hbr.size _).grown hg (by have := hbr.size; simp; omega) (fun k hk => (hown.lt k hk).1)
              clear hg hnil hbr hown
              go_wp2
              go_roundw
              case rel =>
                refine ⟨p + 1, by go_num, by omega, ?_, hb7⟩
                rw [HW.out, HM.out]
                exact ho
              case measure => simp [intOf]; omega
            · rw [decide_eq_false hpn]
              have HM : Hid (min (p + 1) nw = min p nw) := by show _ = _; omega
              clear KF
              go_wp2
              go_roundw
              case rel =>
                refine ⟨p + 1, by go_num, by omega, ?_, hbr⟩
                rw [HM.out]
                exact hown
              case measure => simp [intOf]; omega
      · have hq : (((ad s.attrs a).cuts.length : Int) == 0) = false := by rw [beq_eq_false_iff_ne]; omega
        have HN : Hid (candTo s two l (k + 1) = fs ++ wayF a (wayN (ad s.attrs a))) := by show _ = _; rw [HST.out, ← HF.out, cand_ways (fun h => h0 h.1)]
        clear h0
        generalize wayN (ad s.attrs a) = nw at HN h4 HFW
        have bd : Below wr.heap.size wr wr.drew := below_drewN (Below.refl _ _) 1
        have hS0 := HCX.out.2 _ (B.trans (bd.mono B.size))
        go_wp2_with fail
        refine wp_region_held_drew (S := fun w' => Blk 40 w' w.heap.size #[.slice (some ⟨ga, fa, none⟩) s.attrs.length ka, vc] ∧ w'.cell? ⟨g, o + k, none⟩ = some (.int .i64 (a : Int)) ∧ w'.cell? ⟨ga, fa + a * 3 + 1, none⟩ = some (.slice y1 (ad s.attrs a).cuts.length z1)) (by kernel_rfl) ⟨(HK.out wr hbr).below bd, hS0, (HAT.out _ bd).2.1⟩ ?_
        intro hS
        replace hown := own_below hown bd
        replace hbr := hbr.trans (bd.mono hbr.size)
        replace B := B.trans (bd.mono B.size)
        clear bd hS0
        generalize wr.drew = w3 at hown hbr B hS ⊢
        refine takeL 0 (.pointer (some ⟨w.heap.size, 0, none⟩)) rfl (by kernel_rfl) (by kernel_rfl) (by kernel_rfl) (fun _ _ _ h => h) (.inl ⟨by rfl, fun w hw => by (unfold execOp; go_simp)⟩) hS ?_
        try simp only [Act.put, List.setIfInBounds_toArray, List.set_cons_zero, List.set_cons_succ]
        refine takeL 1 (.slice (some ⟨ga, fa, none⟩) s.attrs.length ka) rfl (by kernel_rfl) (by kernel_rfl) (by kernel_rfl) (fun _ _ _ h => h) (.inl ⟨by rfl, fun w hw => by (have h0 := (hw.1).cell 0; unfold execOp; go_simp)⟩) hS ?_
        try simp only [Act.put, List.setIfInBounds_toArray, List.set_cons_zero, List.set_cons_succ]
        refine takeL 2 (.slice (some ⟨g, o, none⟩) l.length kl) rfl (by kernel_rfl) (by kernel_rfl) (by kernel_rfl) (fun _ _ _ h => h) (.inl ⟨by rfl, fun w _ => by rfl⟩) hS ?_
        try simp only [Act.put, List.setIfInBounds_toArray, List.set_cons_zero, List.set_cons_succ]
        refine takeL 3 (.int .i64 ((k : Int))) rfl (by kernel_rfl) (by kernel_rfl) (by kernel_rfl) (fun _ _ _ h => h) (.inl ⟨by rfl, fun w _ => by rfl⟩) hS ?_
        try simp only [Act.put, List.setIfInBounds_toArray, List.set_cons_zero, List.set_cons_succ]
        refine takeL 4 (.pointer (some ⟨g, o + k, none⟩)) rfl (by kernel_rfl) (by kernel_rfl) (by kernel_rfl) (fun _ _ _ h => h) (.inl ⟨by rfl, fun w hw => by (unfold execOp; go_simp; all_goals omega)⟩) hS ?_
        try simp only [Act.put, List.setIfInBounds_toArray, List.set_cons_zero, List.set_cons_succ]
        refine takeL 5 (.int .i64 ((a : Int))) rfl (by kernel_rfl) (by kernel_rfl) (by kernel_rfl) (fun _ _ _ h => h) (.inl ⟨by rfl, fun w hw => by (have h0 := hw.2.1; unfold execOp; go_simp)⟩) hS ?_
        try simp only [Act.put, List.setIfInBounds_toArray, List.set_cons_zero, List.set_cons_succ]
        refine takeL 6 (.pointer (some ⟨ga, fa + a * 3, none⟩)) rfl (by kernel_rfl) (by kernel_rfl) (by kernel_rfl) (fun _ _ _ h => h) (.inl ⟨by rfl, fun w hw => by (unfold execOp; go_simp; all_goals omega)⟩) hS ?_
        try simp only [Act.put, List.setIfInBounds_toArray, List.set_cons_zero, List.set_cons_succ]
        refine takeL 7 (.pointer (some ⟨ga, fa + a * 3 + 1, none⟩)) rfl (by kernel_rfl) (by kernel_rfl) (by kernel_rfl) (fun _ _ _ h => h) (.inl ⟨by rfl, fun w hw => by (unfold execOp; go_simp)⟩) hS ?_
        try simp only [Act.put, List.setIfInBounds_toArray, List.set_cons_zero, List.set_cons_succ]
        refine takeL 8 (.slice y1 ((ad s.attrs a).cuts.length) z1) rfl (by kernel_rfl) (by kernel_rfl) (by kernel_rfl) (fun _ _ _ h => h) (.inl ⟨by rfl, fun w hw => by (have h0 := hw.2.2; unfold execOp; go_simp)⟩) hS ?_
        try simp only [Act.put, List.setIfInBounds_toArray, List.set_cons_zero, List.set_cons_succ]
        refine takeL 9 (.int .i64 (((ad s.attrs a).cuts.length : Int))) rfl (by kernel_rfl) (by kernel_rfl) (by kernel_rfl) (fun _ _ _ h => h) (.inl ⟨by rfl, fun w hw => by (unfold execOp; go_simp)⟩) hS ?_
        try simp only [Act.put, List.setIfInBounds_toArray, List.set_cons_zero, List.set_cons_succ]
        refine takeL 10 (.bool false) rfl (by kernel_rfl) (by kernel_rfl) (by kernel_rfl) (fun _ _ _ h => h) (.inl ⟨by rfl, fun w hw => by (unfold execOp; go_simp)⟩) hS ?_
        try simp only [Act.put, List.setIfInBounds_toArray, List.set_cons_zero, List.set_cons_succ]
        refine takeL 11 (.bool false) rfl (by kernel_rfl) (by kernel_rfl) (by kernel_rfl) (fun _ _ _ h => h) (.inl ⟨by rfl, fun w _ => by rfl⟩) hS ?_
        try simp only [Act.put, List.setIfInBounds_toArray, List.set_cons_zero, List.set_cons_succ]
        refine takeL 12 (undef) rfl (by kernel_rfl) (by kernel_rfl) (by kernel_rfl) (fun _ _ _ h => h) (.inr ⟨by rfl, rfl⟩) hS ?_
        try simp only [Act.put, List.setIfInBounds_toArray, List.set_cons_zero, List.set_cons_succ]
        refine takeL 13 (undef) rfl (by kernel_rfl) (by kernel_rfl) (by kernel_rfl) (fun _ _ _ h => h) (.inr ⟨by rfl, rfl⟩) hS ?_
        try simp only [Act.put, List.setIfInBounds_toArray, List.set_cons_zero, List.set_cons_succ]
        refine takeL 14 (.bool false) rfl (by kernel_rfl) (by kernel_rfl) (by kernel_rfl) (fun _ _ _ h => h) (.inl ⟨by rfl, fun w _ => by rfl⟩) hS ?_
        try simp only [Act.put, List.setIfInBounds_toArray, List.set_cons_zero, List.set_cons_succ]
        refine wpAnyH_done (by kernel_rfl) ?_ _
        obtain ⟨-, hcz, -⟩ := hS
        go_wp2
        go_loopw [7, 9] (fun v i wr => ∃ p : Nat, i = .int .i64 p ∧ p ≤ 4 ∧ wr.ownsRow w1.heap.size 33 2 v (fs.length + min p nw) (fkC (fs ++ wayF a (min p nw))) ∧ Below w1.heap.size w1 wr) (fun _ i _ => 4 - (intOf i).toNat)
        case atStart => exact ⟨0, rfl, by omega, by rw [Nat.zero_min, show wayF a 0 = [] from rfl, List.append_nil]; exact hown, hbr⟩
        case round =>
          clear hown hbr B hcz
          obtain ⟨p, rfl, hp, hown, hbr⟩ := hrel
          by_cases hplt : p < 4
          rotate_left
          · obtain rfl : p = 4 := by omega
            rw [show min 4 nw = nw by omega] at hown
            go_wp2
            go_roundw
            case rel =>
              refine ⟨k + 1, fs ++ wayF a nw, by go_num, by omega, by show _ = _; exact HN.out.symm, by rw [List.length_append, wayF_len]; omega, ?_, hbr⟩
              rw [List.length_append, wayF_len]
              exact hown
            case measure => simp [intOf]; omega
          have B := HB1.out.trans (hbr.mono hsz)
          have hcy := HCX.out.2 _ B
          have bF : Below wr.heap.size wr (wr.alloc (.cells #[.int .i64 (a : Int), .int .i64 (p : Int)] 33)) := (Below.refl _ _).alloc (Nat.le_refl _) _
          have KF := Blk.new 33 wr #[.int .i64 (a : Int), .int .i64 (p : Int)]
          have cc := specForkOk_any _ s ⟨(a : Int), (p : Int)⟩ _ (HS.out _ (B.trans (bF.mono B.size))) HOK.out
          unfold forkV at cc
          rw [HFW.out p] at cc
          have kS0 : (wr.alloc (.cells #[.int .i64 (a : Int), .int .i64 (p : Int)] 33)).cell? ⟨w.heap.size, 0, none⟩ = some (.slice (some ⟨ga, fa, none⟩) s.attrs.length ka) := ((HK.out wr hbr).below bF).cell 0
          have kS1 : (wr.alloc (.cells #[.int .i64 (a : Int), .int .i64 (p : Int)] 33)).cell? ⟨w.heap.size, 1, none⟩ = some vc := ((HK.out wr hbr).below bF).cell 1
          have kF0 : (wr.alloc (.cells #[.int .i64 (a : Int), .int .i64 (p : Int)] 33)).cell? ⟨wr.heap.size, 0, none⟩ = some (.int .i64 (a : Int)) := KF.cell 0
          have kF1 : (wr.alloc (.cells #[.int .i64 (a : Int), .int .i64 (p : Int)] 33)).cell? ⟨wr.heap.size, 1, none⟩ = some (.int .i64 (p : Int)) := KF.cell 1
          go_wp2_with fail
          refine cc.mono ?_
          clear cc kS0 kS1 kF0 kF1 hcy
          rintro e w6 ⟨rfl, hb⟩
          replace hown := own_below (own_below hown bF) hb
          replace hbr := (hbr.trans (bF.mono hbr.size)).trans (hb.mono (by have := hbr.size; simp; omega))
          replace KF := KF.below hb
          clear hb bF B
          by_cases hpn : p < nw
          · rw [decide_eq_true hpn]
            have HW : Hid (fkC (fs ++ wayF a (min (p + 1) nw)) = fkC (fs ++ wayF a (min p nw)) ++ [.int .i64 (a : Int), .int .i64 (p : Int)]) := by show _ = _; rw [show min (p + 1) nw = p + 1 by omega, show min p nw = p by omega, wayF_succ, ← List.append_assoc, fkC_snoc]
            have HM : Hid (fs.length + min (p + 1) nw = fs.length + min p nw + 1) := by show _ = _; omega
            have hmm : min p nw ≤ 4 := by omega
            have kF0 : w6.cell? ⟨wr.heap.size, 0, none⟩ = some (.int .i64 (a : Int)) := KF.cell 0
            have kF1 : w6.cell? ⟨wr.heap.size, 1, none⟩ = some (.int .i64 (p : Int)) := KF.cell 1
            clear KF
            generalize min p nw = mm at hown hmm HW HM
            go_wp2_with (at_builtin; refine wpList_append_own _ rfl _ _ 55 rfl w1.heap.size 33 i0 (.agg #[.int .i64 0, .int .i64 0]) 2 16 Tryz.underlying55 hi0 hz0 hz1 hz2 rfl (by decide) _ _ _ rfl (hown.alloc _) ⟨w6.heap.size, 0, none⟩ 1 1 [.int .i64 a, .int .i64 p] rfl rfl (newcF2 _ _ _ _) (one2 _ _) (by unfold maxLen; omega) (by omega) (by have := hbr.size; simp; omega) ?_)
            intro v' w7 ho hg hnil
            have hb7 : Below w1.heap.size w1 w7 := (hbr.alloc hbr.size _).grown hg (by have := hbr.size; simp; omega) (fun k hk => (hown.lt k hk).1)
            clear hg hnil hbr hown
            go_wp2
            go_roundw
            case rel =>
              refine ⟨p + 1, by go_num, by omega, ?_, hb7⟩
              rw [HW.out, HM.out]
              exact ho
            case measure => simp [intOf]; omega
          · rw [decide_eq_false hpn]
            have HM : Hid (min (p + 1) nw = min p nw) := by show _ = _; omega
            clear KF
            go_wp2
            go_roundw
            case rel =>
              refine ⟨p + 1, by go_num, by omega, ?_, hbr⟩
              rw [HM.out]
              exact hown
            case measure => simp [intOf]; omega
end Go.Proofs.YteadkdllmeeocabGreat
/- The cells of a great number's list. -/
namespace Go.Proofs.YteadkdllmeeocabGreat
open Go.RowKit
set_option maxRecDepth 100000

/-- The cells of the list of a number. -/
def rowN (n : Nat) : List Value := (up (digs n)).map (Value.int .i64)
def lenN (n : Nat) : Nat := (digs n).length

end Go.Proofs.YteadkdllmeeocabGreat
/- The list of a great number that may not be there. -/
namespace Go.Proofs.YteadkdllmeeocabGreat
open Go.RowKit
set_option maxRecDepth 100000

/-- The list of a number that may not be there. -/
def ans : Option Nat → List Int
  | some n => up (digs n)
  | none => []
/-- v is a list of the call's own that holds it. -/
def OwnN (w : World) (base : Nat) (v : Value) (r : Option Nat) : Prop := w.ownsRow base 3 1 v (ans r).length ((ans r).map (Value.int .i64))
theorem OwnN.nil (w : World) (base : Nat) : OwnN w base (.slice none 0 0) none := World.ownsRow_nil _ _ _ _
theorem OwnN.of {w : World} {base n : Nat} {v : Value} (h : w.ownsRow base 3 1 v (lenN n) (rowN n)) : OwnN w base v (some n) := by
  unfold OwnN ans
  rw [up_len]; exact h

theorem OwnN.form {w : World} {base L : Nat} {v : Value} {r : Option Nat} (h : OwnN w base v r) (hne : v ≠ .slice none 0 0) (hL : (ans r).length = L) : ∃ g c, v = .slice (some ⟨g, 0, none⟩) L c := by
  subst hL
  rcases h.2 with ⟨h0, _⟩ | ⟨g, cap, cur, hv, _⟩
  · exact absurd h0 hne
  · exact ⟨g, cap, hv⟩
theorem OwnN.base {w : World} {b b' : Nat} {v : Value} {r : Option Nat} (h : OwnN w b v r) (hb : b' ≤ b) : OwnN w b' v r := own_base h hb
theorem OwnN.below {w w' : World} {b : Nat} {v : Value} {r : Option Nat} (h : OwnN w b v r) (hb : Below w.heap.size w w') : OwnN w' b v r := own_below h hb
theorem OwnN.row {w : World} {b : Nat} {v : Value} {r : Option Nat} (h : OwnN w b v r) : RowI w v (ans r) := RowI.of_own h rfl
end Go.Proofs.YteadkdllmeeocabGreat
