/- Texts of this claim, put together: part 17. -/
import Derived.Test.YtfflodcapcamcabCandidatesPack11
import Derived.Test.YtfflodcapcamcabCandidatesPack10
import Derived.Test.YtfflodcapcamcabCandidatesPack7
import Derived.Laws.OwnMore
/- What the laws' own helpers do with lists of questions: held against each other, written over, looked at again. -/
namespace Go.Proofs.Ytfflodcapcamcab
open Go.RowKit
set_option maxRecDepth 100000
set_option linter.unusedSimpArgs false
def fk (fs : List ForkD) (k : Nat) : ForkD := fs.getD k ⟨0, 0⟩
theorem fkC_len : ∀ fs : List ForkD, (fkC fs).length = fs.length * 2
  | [] => rfl
  | f :: r => by show (fkC r).length + 1 + 1 = _; rw [fkC_len r, List.length_cons]; omega
theorem fkC_at : ∀ (fs : List ForkD) (k : Nat), k < fs.length → (fkC fs)[k * 2]? = some (.int .i64 (fk fs k).attr) ∧ (fkC fs)[k * 2 + 1]? = some (.int .i64 (fk fs k).pos)
  | [], k, h => by simp at h
  | f :: r, 0, _ => ⟨rfl, rfl⟩
  | f :: r, k + 1, h => by
    have h2 := fkC_at r k (by simpa using h)
    rw [show (k + 1) * 2 = k * 2 + 1 + 1 by omega]
    exact h2
theorem eqFork_any (f : ForkD) (w : World) : Calls Try.prog 34 #[forkV f, forkV f] w fun e w' => e = .returned (.bool true) ∧ Below w.heap.size w w' := by
  obtain ⟨a, b⟩ := f
  have B : Below w.heap.size w ((w.alloc (.cells #[.int .i64 a, .int .i64 b] 51)).alloc (.cells #[.int .i64 a, .int .i64 b] 51)) := ((Below.refl _ _).alloc (Nat.le_refl _) _).alloc (by simp) _
  unfold forkV
  go_enter Try.func34, Try.ntmps34
  go_wp2
  go_ret
  exact ⟨rfl, B⟩
theorem eqF_zero (oa ob : Option Addr) (ca cb : Nat) (w : World) : Calls Try.prog 10 #[.slice oa 0 ca, .slice ob 0 cb] w fun e w' => e = .returned (.bool true) ∧ w' = w := by
  go_enter Try.func10, Try.ntmps10
  go_wp2
  refine wp_loop_rounds 1 ?_
  rw [rounds_succ]
  go_wp2
  go_ret
  exact ⟨rfl, rfl⟩
set_option maxHeartbeats 1600000 in
theorem eqF_pos (ga gb n ca cb : Nat) (fs : List ForkD) (w : World) (hn : n ≤ 1099511627776)
    (ha : ∀ j, j < n → w.cell? ⟨ga, j * 2, none⟩ = some (.int .i64 (fk fs j).attr) ∧ w.cell? ⟨ga, j * 2 + 1, none⟩ = some (.int .i64 (fk fs j).pos)) (hb : ∀ j, j < n → w.cell? ⟨gb, j * 2, none⟩ = some (.int .i64 (fk fs j).attr) ∧ w.cell? ⟨gb, j * 2 + 1, none⟩ = some (.int .i64 (fk fs j).pos)) :
    Calls Try.prog 10 #[.slice (some ⟨ga, 0, none⟩) n ca, .slice (some ⟨gb, 0, none⟩) n cb] w fun e w' => e = .returned (.bool true) ∧ Below w.heap.size w w' := by
  have HC : Hid (∀ W, Below w.heap.size w W → ∀ j, j < n → (W.cell? ⟨ga, j * 2, none⟩ = some (.int .i64 (fk fs j).attr) ∧ W.cell? ⟨ga, j * 2 + 1, none⟩ = some (.int .i64 (fk fs j).pos)) ∧ W.cell? ⟨gb, j * 2, none⟩ = some (.int .i64 (fk fs j).attr) ∧ W.cell? ⟨gb, j * 2 + 1, none⟩ = some (.int .i64 (fk fs j).pos)) := fun W h j hj =>
    ⟨⟨(h.cell (p := ⟨ga, j * 2, none⟩) (World.block_lt_of_cell? _ _ (by rw [(ha j hj).1]))).trans (ha j hj).1, (h.cell (p := ⟨ga, j * 2 + 1, none⟩) (World.block_lt_of_cell? _ _ (by rw [(ha j hj).2]))).trans (ha j hj).2⟩,
      (h.cell (p := ⟨gb, j * 2, none⟩) (World.block_lt_of_cell? _ _ (by rw [(hb j hj).1]))).trans (hb j hj).1, (h.cell (p := ⟨gb, j * 2 + 1, none⟩) (World.block_lt_of_cell? _ _ (by rw [(hb j hj).2]))).trans (hb j hj).2⟩
  clear ha hb
  go_enter Try.func10, Try.ntmps10
  go_wp2
  go_loopw [5] (fun i wr => ∃ k : Nat, i = .int .i64 k ∧ k ≤ n ∧ Below w.heap.size w wr) (fun i _ => n - (intOf i).toNat)
  case atStart => exact ⟨0, rfl, by omega, Below.refl _ _⟩
  case round =>
    obtain ⟨k, rfl, hk, hbr⟩ := hrel
    by_cases hlt : k < n
    rotate_left
    · go_wp2
      go_ret
      exact ⟨rfl, hbr⟩
    replace hbr := hbr.drew
    have hS := HC.out _ hbr k hlt
    go_wp2_with fail
    refine wp_region_held_drew (S := fun w' => (w'.cell? ⟨ga, k * 2, none⟩ = some (.int .i64 (fk fs k).attr) ∧ w'.cell? ⟨ga, k * 2 + 1, none⟩ = some (.int .i64 (fk fs k).pos)) ∧ w'.cell? ⟨gb, k * 2, none⟩ = some (.int .i64 (fk fs k).attr) ∧ w'.cell? ⟨gb, k * 2 + 1, none⟩ = some (.int .i64 (fk fs k).pos)) (by kernel_rfl) hS ?_
    clear hS
    intro hS
    generalize wr.drew = w3 at hbr hS ⊢
    refine takeL 0 (.slice (some ⟨ga, 0, none⟩) n ca) rfl (by kernel_rfl) (by kernel_rfl) (by kernel_rfl) (fun _ _ _ h => h) (.inl ⟨by rfl, fun w _ => by rfl⟩) hS ?_
    try simp only [Act.put, List.setIfInBounds_toArray, List.set_cons_zero, List.set_cons_succ]
    refine takeL 1 (.int .i64 ((k : Int))) rfl (by kernel_rfl) (by kernel_rfl) (by kernel_rfl) (fun _ _ _ h => h) (.inl ⟨by rfl, fun w _ => by rfl⟩) hS ?_
    try simp only [Act.put, List.setIfInBounds_toArray, List.set_cons_zero, List.set_cons_succ]
    refine takeL 2 (.pointer (some ⟨ga, k * 2, none⟩)) rfl (by kernel_rfl) (by kernel_rfl) (by kernel_rfl) (fun _ _ _ h => h) (.inl ⟨by rfl, fun w hw => by (unfold execOp; go_simp; all_goals omega)⟩) hS ?_
    try simp only [Act.put, List.setIfInBounds_toArray, List.set_cons_zero, List.set_cons_succ]
    refine takeL 3 (.agg #[.int .i64 ((fk fs k).attr), .int .i64 ((fk fs k).pos)]) rfl (by kernel_rfl) (by kernel_rfl) (by kernel_rfl) (fun _ _ _ h => h) (.inl ⟨by rfl, fun w hw => by (have h0 := hw.1.1; have h1 := hw.1.2; unfold execOp; go_simp)⟩) hS ?_
    try simp only [Act.put, List.setIfInBounds_toArray, List.set_cons_zero, List.set_cons_succ]
    refine takeL 4 (.slice (some ⟨gb, 0, none⟩) n cb) rfl (by kernel_rfl) (by kernel_rfl) (by kernel_rfl) (fun _ _ _ h => h) (.inl ⟨by rfl, fun w _ => by rfl⟩) hS ?_
    try simp only [Act.put, List.setIfInBounds_toArray, List.set_cons_zero, List.set_cons_succ]
    refine takeL 5 (.int .i64 ((k : Int))) rfl (by kernel_rfl) (by kernel_rfl) (by kernel_rfl) (fun _ _ _ h => h) (.inl ⟨by rfl, fun w _ => by rfl⟩) hS ?_
    try simp only [Act.put, List.setIfInBounds_toArray, List.set_cons_zero, List.set_cons_succ]
    refine takeL 6 (.pointer (some ⟨gb, k * 2, none⟩)) rfl (by kernel_rfl) (by kernel_rfl) (by kernel_rfl) (fun _ _ _ h => h) (.inl ⟨by rfl, fun w hw => by (unfold execOp; go_simp; all_goals omega)⟩) hS ?_
    try simp only [Act.put, List.setIfInBounds_toArray, List.set_cons_zero, List.set_cons_succ]
    refine takeL 7 (.agg #[.int .i64 ((fk fs k).attr), .int .i64 ((fk fs k).pos)]) rfl (by kernel_rfl) (by kernel_rfl) (by kernel_rfl) (fun _ _ _ h => h) (.inl ⟨by rfl, fun w hw => by (have h0 := hw.2.1; have h1 := hw.2.2; unfold execOp; go_simp)⟩) hS ?_
    try simp only [Act.put, List.setIfInBounds_toArray, List.set_cons_zero, List.set_cons_succ]
    refine nextL 8 rfl (by kernel_rfl) (by rfl) fun K hK => ?_
    have dd := eqFork_any (fk fs k) w3
    unfold forkV at dd
    go_simp
    refine dd.mono ?_
    clear dd
    rintro e w4 ⟨rfl, hb⟩
    refine hK _ _ ⟨⟨(hb.cell (p := ⟨ga, k * 2, none⟩) (World.block_lt_of_cell? _ _ (by rw [hS.1.1]))).trans hS.1.1, (hb.cell (p := ⟨ga, k * 2 + 1, none⟩) (World.block_lt_of_cell? _ _ (by rw [hS.1.2]))).trans hS.1.2⟩, (hb.cell (p := ⟨gb, k * 2, none⟩) (World.block_lt_of_cell? _ _ (by rw [hS.2.1]))).trans hS.2.1, (hb.cell (p := ⟨gb, k * 2 + 1, none⟩) (World.block_lt_of_cell? _ _ (by rw [hS.2.2]))).trans hS.2.2⟩ ?_
    clear hK K hS
    intro hS
    replace hbr := hbr.trans (hb.mono hbr.size)
    clear hb
    refine takeL 9 (.bool false) rfl (by kernel_rfl) (by kernel_rfl) (by kernel_rfl) (fun _ _ _ h => h) (.inl ⟨by rfl, fun w hw => by (unfold execOp; go_simp)⟩) hS ?_
    try simp only [Act.put, List.setIfInBounds_toArray, List.set_cons_zero, List.set_cons_succ]
    refine wpAnyH_done (by kernel_rfl) ?_ _
    clear hS
    go_wp2
    go_roundw
    case rel => exact ⟨k + 1, by go_num, by omega, hbr⟩
    case measure => simp [intOf]; omega
theorem eqF_any {w : World} {b1 b2 : Nat} {va vb : Value} {fs : List ForkD} (hn : fs.length ≤ 1099511627776) (ha : w.ownsRow b1 51 2 va fs.length (fkC fs)) (hb : w.ownsRow b2 51 2 vb fs.length (fkC fs)) :
    Calls Try.prog 10 #[va, vb] w fun e w' => e = .returned (.bool true) ∧ Below w.heap.size w w' := by
  have z : ∀ oa ob ca cb, Calls Try.prog 10 #[.slice oa 0 ca, .slice ob 0 cb] w fun e w' => e = .returned (.bool true) ∧ Below w.heap.size w w' := fun oa ob ca cb =>
    (eqF_zero oa ob ca cb w).mono fun e w' ⟨h1, h2⟩ => ⟨h1, by rw [h2]; exact Below.refl _ _⟩
  rcases ha.2 with ⟨rfl, h0⟩ | ⟨ga, ca, cua, rfl, _⟩ <;> rcases hb.2 with ⟨rfl, h1⟩ | ⟨gb, cb, cub, rfl, _⟩
  · exact z _ _ _ _
  · rw [h0]; exact z _ _ _ _
  · rw [h1]; exact z _ _ _ _
  · exact eqF_pos ga gb fs.length ca cb fs w hn (fun j hj => ⟨by rw [ha.cellAt (j * 2) (by omega)]; exact (fkC_at fs j hj).1, by rw [ha.cellAt (j * 2 + 1) (by omega)]; exact (fkC_at fs j hj).2⟩) (fun j hj => ⟨by rw [hb.cellAt (j * 2) (by omega)]; exact (fkC_at fs j hj).1, by rw [hb.cellAt (j * 2 + 1) (by omega)]; exact (fkC_at fs j hj).2⟩)
set_option maxHeartbeats 800000 in
theorem markF_pos (g n cap base : Nat) (k0 : Int) (xs : List Value) (w : World) (hn : n ≤ 1099511627776) (h0 : 0 ≤ k0) (h1 : k0 ≤ 140737488351232)
    (ho : w.ownsRow base 51 2 (.slice (some ⟨g, 0, none⟩) n cap) n xs) :
    Calls Try.prog 15 #[.slice (some ⟨g, 0, none⟩) n cap, .int .i64 k0] w fun e w' => e = .returned (.int .i64 (k0 + 2 * n)) ∧ (∃ ys, w'.ownsRow base 51 2 (.slice (some ⟨g, 0, none⟩) n cap) n ys ∧ ∀ j, j < n * 2 → ys[j]? = some (.int .i64 (k0 + j))) ∧ w.grownBy w' (some g) := by
  go_enter Try.func15, Try.ntmps15
  go_wp2
  go_loopw [1, 5] (fun kk i wr => ∃ (k : Nat) (ys : List Value), i = .int .i64 k ∧ kk = .int .i64 (k0 + 2 * k) ∧ k ≤ n ∧ wr.ownsRow base 51 2 (.slice (some ⟨g, 0, none⟩) n cap) n ys ∧ Hid (∀ j, j < k * 2 → ys[j]? = some (.int .i64 (k0 + j))) ∧ w.grownBy wr (some g)) (fun _ i _ => n - (intOf i).toNat)
  case atStart => exact ⟨0, xs, rfl, by simp, by omega, ho, fun j hj => by omega, World.grownBy.refl _ _⟩
  case round =>
    obtain ⟨k, ys, rfl, rfl, hk, hown, hys, hgr⟩ := hrel
    by_cases hlt : k < n
    · have hlen : ys.length = n * 2 := hown.1
      have hc : wr.cell? ⟨g, k * 2, none⟩ = some (ys[k * 2]'(by omega)) := by rw [hown.cellAt (k * 2) (by omega)]; exact List.getElem?_eq_getElem _
      have hf : wr.frozen? ⟨g, k * 2, none⟩ = false := hown.frozenAt (k * 2)
      have hs := hown.stored (k * 2) (.int .i64 (k0 + 2 * k))
      have hlen2 : (ys.set (k * 2) (.int .i64 (k0 + 2 * k))).length = n * 2 := by simp; exact hlen
      have hc2 : (wr.setCell ⟨g, k * 2, none⟩ (.int .i64 (k0 + 2 * k))).cell? ⟨g, k * 2 + 1, none⟩ = some (ys[k * 2 + 1]'(by omega)) := by
        rw [hs.1.cellAt (k * 2 + 1) (by omega), List.getElem?_set, if_neg (by omega)]; exact List.getElem?_eq_getElem _
      have hf2 : (wr.setCell ⟨g, k * 2, none⟩ (.int .i64 (k0 + 2 * k))).frozen? ⟨g, k * 2 + 1, none⟩ = false := hs.1.frozenAt (k * 2 + 1)
      have hs2 := hs.1.stored (k * 2 + 1) (.int .i64 (k0 + 2 * k + 1))
      have HS2 : Hid _ := hs2
      have HGR : Hid (w.grownBy ((wr.setCell ⟨g, k * 2, none⟩ (.int .i64 (k0 + 2 * k))).setCell ⟨g, k * 2 + 1, none⟩ (.int .i64 (k0 + 2 * k + 1))) (some g)) := grownBy_trans (grownBy_trans hgr hs.2) hs2.2
      have HL : Hid (ys.length = n * 2) := hlen
      clear hs hs2 hlen2 hown hgr
      generalize ys[k * 2]'(by omega) = y1 at hc
      generalize ys[k * 2 + 1]'(by omega) = y2 at hc2
      clear hlen
      go_wp2
      go_roundw
      case rel =>
        refine ⟨k + 1, _, by go_num, by go_num, by omega, HS2.out.1, ?_, HGR.out⟩
        intro j hj
        rw [List.getElem?_set, List.length_set, HL.out]
        by_cases e : k * 2 + 1 = j
        · subst e; rw [if_pos rfl, if_pos (by omega)]; congr 2; omega
        · rw [if_neg e, List.getElem?_set, HL.out]
          by_cases e2 : k * 2 = j
          · subst e2; rw [if_pos rfl, if_pos (by omega)]; congr 2; omega
          · rw [if_neg e2]; exact hys.out j (by omega)
      case measure => simp [intOf]; omega
    · obtain rfl : k = n := by omega
      go_wp2
      go_ret
      exact ⟨rfl, ⟨ys, hown, fun j hj => hys.out j hj⟩, hgr⟩
set_option maxHeartbeats 800000 in
theorem heldF_pos (g n cap base : Nat) (k0 : Int) (ys : List Value) (w : World) (hn : n ≤ 1099511627776) (h0 : 0 ≤ k0) (h1 : k0 ≤ 140737488351232)
    (ho : w.ownsRow base 51 2 (.slice (some ⟨g, 0, none⟩) n cap) n ys) (hys : ∀ j, j < n * 2 → ys[j]? = some (.int .i64 (k0 + j))) :
    Calls Try.prog 16 #[.slice (some ⟨g, 0, none⟩) n cap, .int .i64 k0] w fun e w' => e = .returned (.int .i64 (k0 + 2 * n)) ∧ w' = w := by
  go_enter Try.func16, Try.ntmps16
  go_wp2
  go_loop [1, 5] (fun kk i => ∃ k : Nat, i = .int .i64 k ∧ kk = .int .i64 (k0 + 2 * k) ∧ k ≤ n) (fun _ i => n - (intOf i).toNat)
  case atStart => exact ⟨0, rfl, by simp, by omega⟩
  case round =>
    obtain ⟨k, rfl, rfl, hk⟩ := hrel
    by_cases hlt : k < n
    · have hc : w.cell? ⟨g, k * 2, none⟩ = some (.int .i64 (k0 + 2 * k)) := by rw [ho.cellAt (k * 2) (by omega), hys (k * 2) (by omega)]; congr 2; omega
      have hc2 : w.cell? ⟨g, k * 2 + 1, none⟩ = some (.int .i64 (k0 + 2 * k + 1)) := by rw [ho.cellAt (k * 2 + 1) (by omega), hys (k * 2 + 1) (by omega)]; congr 2; omega
      clear hys
      go_wp2
      go_round
      case rel => exact ⟨k + 1, by go_num, by go_num, by omega⟩
      case measure => simp [intOf]; omega
    · obtain rfl : k = n := by omega
      go_wp2
      go_ret
      exact ⟨rfl, rfl⟩
theorem markF_zero (k0 : Int) (w : World) : Calls Try.prog 15 #[.slice none 0 0, .int .i64 k0] w fun e w' => e = .returned (.int .i64 k0) ∧ w' = w := by
  go_enter Try.func15, Try.ntmps15
  go_wp2
  refine wp_loop_rounds 1 ?_
  rw [rounds_succ]
  go_wp2
  go_ret
  exact ⟨rfl, rfl⟩
theorem heldF_zero (k0 : Int) (w : World) : Calls Try.prog 16 #[.slice none 0 0, .int .i64 k0] w fun e w' => e = .returned (.int .i64 k0) ∧ w' = w := by
  go_enter Try.func16, Try.ntmps16
  go_wp2
  refine wp_loop_rounds 1 ?_
  rw [rounds_succ]
  go_wp2
  go_ret
  exact ⟨rfl, rfl⟩
/-- Cells that bear the law's marks. -/
def MarkedF (base : Nat) (w : World) (v : Value) (n : Nat) (k0 : Int) : Prop := ∃ ys, w.ownsRow base 51 2 v n ys ∧ ∀ j, j < n * 2 → ys[j]? = some (.int .i64 (k0 + j))
theorem MarkedF.below {base n : Nat} {w w' : World} {v : Value} {k0 : Int} (h : MarkedF base w v n k0) (hb : Below w.heap.size w w') : MarkedF base w' v n k0 := by
  obtain ⟨ys, h1, h2⟩ := h
  exact ⟨ys, own_below h1 hb, h2⟩
theorem markF_any (n base : Nat) (v : Value) (k0 : Int) (xs : List Value) (w : World) (hn : n ≤ 1099511627776) (h0 : 0 ≤ k0) (h1 : k0 ≤ 140737488351232) (ho : w.ownsRow base 51 2 v n xs) :
    Calls Try.prog 15 #[v, .int .i64 k0] w fun e w' => e = .returned (.int .i64 (k0 + 2 * n)) ∧ MarkedF base w' v n k0 ∧ w.grownBy w' v.ownBlock := by
  rcases ho.2 with ⟨rfl, rfl⟩ | ⟨g, cap, cur, rfl, _⟩
  · refine (markF_zero k0 w).mono fun e w' ⟨he, hw⟩ => ?_
    subst he hw
    exact ⟨ret_int (by omega), ⟨xs, ho, by omega⟩, World.grownBy.refl _ _⟩
  · exact markF_pos g n cap base k0 xs w hn h0 h1 ho
theorem heldF_any (n base : Nat) (v : Value) (k0 : Int) (w : World) (hn : n ≤ 1099511627776) (h0 : 0 ≤ k0) (h1 : k0 ≤ 140737488351232) (h : MarkedF base w v n k0) :
    Calls Try.prog 16 #[v, .int .i64 k0] w fun e w' => e = .returned (.int .i64 (k0 + 2 * n)) ∧ w' = w := by
  obtain ⟨ys, ho, hys⟩ := h
  rcases ho.2 with ⟨rfl, rfl⟩ | ⟨g, cap, cur, rfl, _⟩
  · refine (heldF_zero k0 w).mono fun e w' ⟨he, hw⟩ => ?_
    subst he hw
    exact ⟨ret_int (by omega), rfl⟩
  · exact heldF_pos g n cap base k0 ys w hn h0 h1 ho hys
end Go.Proofs.Ytfflodcapcamcab
