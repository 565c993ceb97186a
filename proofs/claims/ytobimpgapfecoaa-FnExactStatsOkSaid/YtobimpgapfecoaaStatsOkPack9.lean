/- Texts of this claim, put together: part 9. -/
import Derived.Test.YtobimpgapfecoaaStatsOkPack8
import Derived.Test.YtobimpgapfecoaaStatsOkPack2
import Derived.Laws.AppendOwnNone
import Derived.Test.YtobimpgapfecoaaStatsOkPack7
/- All weights together, by the program. -/
namespace Go.Proofs.Ytobimpgapfecoaa
open Go.RowKit
set_option maxRecDepth 100000
set_option linter.unusedSimpArgs false
def weightsOk (l : List Int) : Bool := l.all inW && decide (sumL l ≤ 999)
def weightSum (l : List Int) : Int := if weightsOk l = true then sumL l else 0
theorem inW_iff {x : Int} : inW x = true ↔ 0 ≤ x ∧ x ≤ 999 := by unfold inW; rw [decide_eq_true_eq]
theorem all_at {l : List Int} (h : l.all inW = true) {k : Nat} (hk : k < l.length) : 0 ≤ l.getD k 0 ∧ l.getD k 0 ≤ 999 := by
  rw [List.all_eq_true] at h
  have := inW_iff.1 (h _ (List.getElem_mem hk))
  rwa [List.getD_eq_getElem?_getD, List.getElem?_eq_getElem hk]
theorem sum_rest {l : List Int} (h : l.all inW = true) : ∀ d k, k + d ≤ l.length → sumL (l.take k) ≤ sumL (l.take (k + d)) := by
  intro d
  induction d with
  | zero => intro k _; exact Int.le_refl _
  | succ d ih =>
    intro k hk
    have h1 := ih k (by omega)
    have h2 := (all_at h (show k + d < l.length by omega)).1
    rw [show k + (d + 1) = (k + d) + 1 by omega, sum_take (by omega)]
    omega
theorem weightsOk_no {l : List Int} {k : Nat} (hk : k < l.length) (h : l.getD k 0 < 0 ∨ l.getD k 0 > 999 - sumL (l.take k)) : weightsOk l = false := by
  cases e : weightsOk l with
  | false => rfl
  | true =>
    unfold weightsOk at e
    rw [Bool.and_eq_true, decide_eq_true_eq] at e
    have h1 := (all_at e.1 hk).1
    have h2 := sum_rest e.1 (l.length - (k + 1)) (k + 1) (by omega)
    rw [show k + 1 + (l.length - (k + 1)) = l.length by omega, List.take_length, sum_take hk] at h2
    omega
theorem weightsOk_yes {l : List Int} (h : ∀ j, j < l.length → inW (l.getD j 0) = true) (hs : sumL l ≤ 999) : weightsOk l = true := by
  unfold weightsOk
  rw [Bool.and_eq_true, decide_eq_true_eq]
  exact ⟨allW_yes h, hs⟩
set_option maxHeartbeats 800000 in
theorem weightOf_any (v : Value) (l : List Int) (w : World) (h : RowI w v l) (hn : l.length ≤ 1099511627776) :
    Calls Try.prog 59 #[v] w fun e w' => e = .returned (.tuple #[.int .i64 (weightSum l), .bool (weightsOk l)]) ∧ Below w.heap.size w w' := by
  obtain ⟨oa, cap, rfl, hc, hr⟩ := h
  have HR : Hid (0 < l.length → ∃ g o, oa = some ⟨g, o, none⟩ ∧ g < w.heap.size ∧ ∀ j, j < l.length → w.cell? ⟨g, o + j, none⟩ = some (.int .i64 (l.getD j 0))) := hr
  clear hr
  go_enter Try.func59, Try.ntmps59
  go_wp2
  go_loopw [4, 9] (fun a i wr => ∃ (k : Nat) (z : Int), i = .int .i64 k ∧ a = .int .i64 z ∧ k ≤ l.length ∧ 0 ≤ z ∧ z ≤ 999 ∧ Hid (z = sumL (l.take k) ∧ ∀ j, j < k → inW (l.getD j 0) = true) ∧ wr = w) (fun _ i _ => l.length - (intOf i).toNat)
  case atStart => exact ⟨0, 0, rfl, rfl, by omega, by omega, by omega, ⟨rfl, fun j hj => by omega⟩, rfl⟩
  case round =>
    obtain ⟨k, z, rfl, rfl, hk, hz0, hz1, HT, rfl⟩ := hrel
    by_cases hlt : k < l.length
    · obtain ⟨g, o, rfl, hg, hj⟩ := HR.out (by omega)
      have ha := hj k hlt
      have HNo : Hid (l.getD k 0 < 0 ∨ l.getD k 0 > 999 - z → weightsOk l = false) := fun h => weightsOk_no hlt (by rw [← HT.out.1]; exact h)
      have HST : Hid (sumL (l.take (k + 1)) = sumL (l.take k) + l.getD k 0) := sum_take hlt
      have HX : Hid (∀ j, j < k + 1 → j ≠ k → inW (l.getD j 0) = true) := fun j h1 h2 => HT.out.2 j (by omega)
      have HY : Hid (0 ≤ l.getD k 0 → l.getD k 0 ≤ 999 → inW (l.getD k 0) = true) := fun a b => inW_yes ⟨a, b⟩
      clear hj
      generalize hx : l.getD k 0 = x at ha HNo HST HY
      have HXX : Hid (l.getD k 0 = x) := hx
      clear hx
      by_cases h1 : x < 0
      · have HF := HNo.out (.inl h1)
        have HW : Hid (weightSum l = 0 ∧ weightsOk l = false) := ⟨by unfold weightSum; rw [HF]; rfl, HF⟩
        clear HF
        go_wp2
        exact bodyPost_ret (results_tmp2 rfl _ _ _) rfl ⟨by rw [HW.out.1, HW.out.2]; rfl, Below.refl _ _⟩
      · by_cases h2 : x > 999 - z
        · have HF := HNo.out (.inr h2)
          have HW : Hid (weightSum l = 0 ∧ weightsOk l = false) := ⟨by unfold weightSum; rw [HF]; rfl, HF⟩
          clear HF
          go_wp2
          exact bodyPost_ret (results_tmp2 rfl _ _ _) rfl ⟨by rw [HW.out.1, HW.out.2]; rfl, Below.refl _ _⟩
        · go_wp2
          go_roundw
          case rel =>
            refine ⟨k + 1, z + x, by go_num, rfl, by omega, by omega, by omega, ⟨by rw [HST.out, ← HT.out.1], fun j hj => ?_⟩, trivial⟩
            by_cases e : j = k
            · subst e; rw [HXX.out]; exact HY.out (by omega) (by omega)
            · exact HX.out j hj e
          case measure => simp [intOf]; omega
    · obtain rfl : k = l.length := by omega
      have HOK : Hid (weightsOk l = true) := weightsOk_yes HT.out.2 (by have := HT.out.1; rw [List.take_length] at this; omega)
      have HS : Hid (weightSum l = z) := by have := HT.out.1; rw [List.take_length] at this; show weightSum l = z; unfold weightSum; rw [if_pos HOK.out]; exact this.symm
      go_wp2
      exact bodyPost_ret (results_tmp2 rfl _ _ _) rfl ⟨by rw [HS.out, HOK.out]; rfl, Below.refl _ _⟩
end Go.Proofs.Ytobimpgapfecoaa
/- Cells of one attribute held against the totals, in plain words. -/
namespace Go.Proofs.Ytobimpgapfecoaa
open Go.RowKit
set_option maxRecDepth 100000
/-- The weight of one class in the first k cells. -/
def part (c : List Int) (m cls : Nat) : Nat → Int
  | 0 => 0
  | k + 1 => part c m cls k + (if k % m = cls then c.getD k 0 else 0)
theorem part_succ (c : List Int) (m cls k : Nat) : part c m cls (k + 1) = part c m cls k + (if k % m = cls then c.getD k 0 else 0) := rfl
def withinB (c T : List Int) (m : Nat) : Bool := c.all inW && (List.range m).all fun cls => decide (part c m cls c.length ≤ T.getD cls 0)
theorem part_mono {c : List Int} {m cls : Nat} (h : c.all inW = true) : ∀ d k, k + d ≤ c.length → part c m cls k ≤ part c m cls (k + d) := by
  intro d
  induction d with
  | zero => intro k _; exact Int.le_refl _
  | succ d ih =>
    intro k hk
    have h1 := ih k (by omega)
    have h2 := (all_at h (show k + d < c.length by omega)).1
    rw [show k + (d + 1) = (k + d) + 1 from rfl, part_succ]
    split <;> omega
theorem within_neg {c T : List Int} {m k : Nat} (hk : k < c.length) (h : c.getD k 0 < 0) : withinB c T m = false := by
  unfold withinB
  rw [allW_no hk (inW_no (by omega))]; rfl
theorem within_more {c T : List Int} {m k : Nat} (hm : 0 < m) (hk : k < c.length) (h : c.getD k 0 > T.getD (k % m) 0 - part c m (k % m) k) : withinB c T m = false := by
  cases e : withinB c T m with
  | false => rfl
  | true =>
    unfold withinB at e
    rw [Bool.and_eq_true, List.all_eq_true (l := List.range m)] at e
    have h1 := of_decide_eq_true (e.2 (k % m) (List.mem_range.2 (Nat.mod_lt _ hm)))
    have h2 := part_mono (m := m) (cls := k % m) e.1 (c.length - (k + 1)) (k + 1) (by omega)
    rw [show k + 1 + (c.length - (k + 1)) = c.length by omega] at h2
    have h3 : part c m (k % m) (k + 1) = part c m (k % m) k + c.getD k 0 := by show part c m (k % m) k + _ = _; rw [if_pos rfl]
    omega
theorem within_yes {c T : List Int} {m : Nat} (h1 : ∀ j, j < c.length → inW (c.getD j 0) = true) (h2 : ∀ cls, cls < m → part c m cls c.length ≤ T.getD cls 0) : withinB c T m = true := by
  unfold withinB
  rw [Bool.and_eq_true, List.all_eq_true (l := List.range m)]
  exact ⟨allW_yes h1, fun x hx => decide_eq_true (h2 x (List.mem_range.1 hx))⟩
/-- The first cells of a bin add to each class that stands ahead of them. -/
theorem part_bin (c : List Int) {m cls : Nat} (hc : cls < m) (b : Nat) : ∀ j, j ≤ m → part c m cls (b * m + j) = part c m cls (b * m) + (if cls < j then colAt c m cls b else 0) := by
  intro j
  induction j with
  | zero => intro _; simp
  | succ j ih =>
    intro hj
    rw [show b * m + (j + 1) = (b * m + j) + 1 from rfl, part_succ, ih (by omega)]
    have hmod : (b * m + j) % m = j := by rw [Nat.add_comm, Nat.mul_comm, Nat.add_mul_mod_self_left, Nat.mod_eq_of_lt (by omega)]
    rw [hmod]
    by_cases e : j = cls
    · subst e
      rw [if_pos rfl, if_neg (by omega), if_pos (by omega)]
      unfold colAt; omega
    · rw [if_neg e]
      by_cases h : cls < j
      · rw [if_pos h, if_pos (by omega)]; omega
      · rw [if_neg h, if_neg (by omega)]; omega
theorem part_col (c : List Int) {m cls : Nat} (hc : cls < m) : ∀ n, part c m cls (n * m) = sumL (colL c m cls n) := by
  intro n
  induction n with
  | zero => rw [Nat.zero_mul]; rfl
  | succ n ih =>
    rw [col_succ, ← ih, Nat.succ_mul, part_bin c hc n m (Nat.le_refl _), if_pos hc]
theorem within_cols {t : StatsD} {c : List Int} {m n : Nat} (hl : c.length = n * m) (hm : 0 < m) : withinB c t.totals m = (List.range m).all (colOk t c m n) := by
  rw [Bool.eq_iff_iff]
  unfold withinB
  rw [Bool.and_eq_true, List.all_eq_true, List.all_eq_true, List.all_eq_true]
  constructor
  · rintro ⟨h1, h2⟩ k hk
    have hk' := List.mem_range.1 hk
    unfold colOk
    rw [Bool.and_eq_true, decide_eq_true_eq, List.all_eq_true, ← part_col c hk', ← hl]
    refine ⟨fun x hx => ?_, of_decide_eq_true (h2 k hk)⟩
    unfold colL at hx
    obtain ⟨b, hb, rfl⟩ := List.mem_map.1 hx
    have hbl : b * m + k < c.length := by
      have := List.mem_range.1 hb
      rw [hl]
      calc b * m + k < b * m + m := by omega
        _ = (b + 1) * m := by rw [Nat.succ_mul]
        _ ≤ n * m := Nat.mul_le_mul_right _ (by omega)
    have := h1 _ (List.getElem_mem hbl)
    unfold colAt
    rwa [List.getD_eq_getElem?_getD, List.getElem?_eq_getElem hbl]
  · intro h
    refine ⟨fun x hx => ?_, fun k hk => ?_⟩
    · obtain ⟨i, hi, rfl⟩ := List.getElem_of_mem hx
      have hk : i % m < m := Nat.mod_lt _ hm
      have h1 := h (i % m) (List.mem_range.2 hk)
      unfold colOk at h1
      rw [Bool.and_eq_true, List.all_eq_true] at h1
      have hb : i / m < n := by rw [Nat.div_lt_iff_lt_mul hm]; omega
      have h2 := h1.1 (colAt c m (i % m) (i / m)) (by unfold colL; exact List.mem_map.2 ⟨i / m, List.mem_range.2 hb, rfl⟩)
      unfold colAt at h2
      rw [Nat.div_add_mod' i m, List.getD_eq_getElem?_getD, List.getElem?_eq_getElem hi] at h2
      exact h2
    · have h1 := h k hk
      unfold colOk at h1
      rw [Bool.and_eq_true, decide_eq_true_eq, ← part_col c (List.mem_range.1 hk), ← hl] at h1
      exact decide_eq_true h1.2
end Go.Proofs.Ytobimpgapfecoaa
/- Lists of integers of the call's own: the empty one; what is appended of a row. -/
namespace Go.Proofs.Ytobimpgapfecoaa
open Go.RowKit
set_option maxRecDepth 100000
theorem ownI_lit0 (w : World) (b : Nat) (hb : b ≤ w.heap.size) : (w.alloc (.cells #[] 3)).ownsRow b 3 1 (.slice (some ⟨w.heap.size, 0, none⟩) 0 0) 0 [] :=
  World.ownsRow_lit (base := b) (e := 3) (size := 1) w #[] 0 hb (by decide) rfl

theorem row_news {w : World} {g o k : Nat} {zs : List Int} (h : ∀ j, j < zs.length → w.cell? ⟨g, o + j, none⟩ = some (.int .i64 (zs.getD j 0))) : ∀ (j : Nat) (u : Value), ((zs.take k).map (Value.int .i64))[j]? = some u → w.cell? ((⟨g, o, none⟩ : Addr).add j) = some u := by
  intro j u hj
  have hlt : j < (zs.take k).length := by
    rcases Nat.lt_or_ge j (zs.take k).length with h1 | h1
    · exact h1
    · rw [List.getElem?_eq_none (by simp at h1 ⊢; omega)] at hj; cases hj
  have hlt2 : j < zs.length ∧ j < k := by simp at hlt; omega
  have e : (⟨g, o, none⟩ : Addr).add j = ⟨g, o + j, none⟩ := by unfold Addr.add; split <;> simp_all
  rw [e, h j hlt2.1]
  rw [getD_mapI _ _ hlt] at hj
  rw [← hj]
  congr 2
  rw [List.getD_eq_getElem?_getD, List.getD_eq_getElem?_getD, List.getElem?_take_of_lt hlt2.2]
/-- What the answer is: a list of the call's own. -/
def OwnI (w w' : World) (v : Value) (zs : List Int) : Prop := w'.ownsRow w.heap.size 3 1 v zs.length (zs.map (Value.int .i64)) ∧ Below w.heap.size w w'
end Go.Proofs.Ytobimpgapfecoaa
/- Whether counts are thin; a list copied, by the program. -/
namespace Go.Proofs.Ytobimpgapfecoaa
open Go.RowKit
set_option maxRecDepth 100000
set_option linter.unusedSimpArgs false
theorem thin_any (v : Value) (t : StatsD) (w : World) (h : StatsAt w v t) :
    Calls Try.prog 60 #[v] w fun e w' => e = .returned (.bool (decide (t.cells.length = 0))) ∧ Below w.heap.size w w' := by
  obtain ⟨vt, vc, rfl, -, hv⟩ := h
  obtain ⟨ov, cv, rfl, -, -⟩ := hv
  by_cases h0 : t.cells.length = 0
  · rw [decide_eq_true h0, h0]
    clear h0
    go_enter Try.func60, Try.ntmps60
    go_wp2
    go_ret
    exact ⟨rfl, (Below.refl _ _).alloc (Nat.le_refl _) _⟩
  · rw [decide_eq_false h0]
    have hq : ((t.cells.length : Int) == 0) = false := by simp; exact fun e => h0 (by simp [e])
    go_enter Try.func60, Try.ntmps60
    go_wp2
    go_ret
    exact ⟨rfl, (Below.refl _ _).alloc (Nat.le_refl _) _⟩
set_option maxHeartbeats 400000 in
theorem listCopy_any (v : Value) (zs : List Int) (w : World) (h : RowI w v zs) (hn : zs.length ≤ 1099511627776) :
    Calls Try.prog 64 #[v] w fun e w' => ∃ v', e = .returned v' ∧ OwnI w w' v' zs := by
  obtain ⟨i0, hi0, hz0, hz1, hz2⟩ := info_parts intInfo
  obtain ⟨oa, cap, rfl, hc, hr⟩ := h
  by_cases h0 : zs.length = 0
  · obtain rfl : zs = [] := List.length_eq_zero_iff.1 h0
    clear hr
    cases oa with
    | none =>
      go_enter Try.func64, Try.ntmps64
      go_wp2
      go_ret
      exact ⟨_, rfl, World.ownsRow_nil _ _ _ _, Below.refl _ _⟩
    | some ad =>
      go_enter Try.func64, Try.ntmps64
      go_wp2
      go_ret
      exact ⟨_, rfl, World.ownsRow_nil _ _ _ _, Below.refl _ _⟩
  · obtain ⟨ga, o, rfl, hg, hj⟩ := hr (by omega)
    clear hr
    have HN : Hid (∀ (j : Nat) (u : Value), (zs.map (Value.int .i64))[j]? = some u → w.cell? ((⟨ga, o, none⟩ : Addr).add j) = some u) := by
      have := row_news (k := zs.length) (w := w) (fun j hlt => hj j hlt)
      rw [List.take_length] at this
      exact this
    clear hj
    go_enter Try.func64, Try.ntmps64
    go_wp2_with (at_builtin; refine wpList_append_own _ rfl _ _ 28 rfl w.heap.size 3 i0 (.int .i64 0) 1 8 Try.underlying28 hi0 hz0 hz1 hz2 rfl (by decide) _ _ _ rfl (World.ownsRow_nil _ _ _ _) ⟨ga, o, none⟩ zs.length cap (zs.map (Value.int .i64)) rfl (by simp) HN.out (ints_oneCell .i64 _) (by unfold maxLen; omega) (by omega) (by omega) ?_)
    intro v1 w1 ho1 hg1 hnil1
    have hb1 : Below w.heap.size w w1 := (Below.refl _ _).grown hg1 (by omega) (fun k hk => by cases hk)
    clear hg1 hnil1 HN
    go_wp2
    go_ret
    exact ⟨_, rfl, ho1, hb1⟩
end Go.Proofs.Ytobimpgapfecoaa
