/- Texts of this claim, put together: part 4. -/
import Derived.Test.YtobimpgapfecoabThinPack2
import Derived.Test.YtobimpgapfecoabThinPack1
import Derived.Test.YtobimpgapfecoabThinPack3
/- What the law's own helpers do with list of integers: held against each other, written over, looked at again. -/
namespace Go.Proofs.Ytobimpgapfecoab
open Go.RowKit
set_option maxRecDepth 100000

theorem eqI_zero (oa ob : Option Addr) (ca cb : Nat) (w : World) : Calls Try.prog 32 #[.slice oa 0 ca, .slice ob 0 cb] w fun e w' => e = .returned (.bool true) ∧ w' = w := by
  go_enter Try.func32, Try.ntmps32
  go_wp2
  refine wp_loop_rounds 1 ?_
  rw [rounds_succ]
  go_wp2
  go_ret
  exact ⟨rfl, rfl⟩

set_option maxHeartbeats 400000 in
theorem eqI_pos (ga oa gb ob n ca cb : Nat) (zs : List Int) (w : World) (hn : n ≤ 140737488351232) (hz : zs.length = n)
    (ha : ∀ j, j < n → w.cell? ⟨ga, oa + j, none⟩ = some (.int .i64 (zs.getD j 0))) (hb : ∀ j, j < n → w.cell? ⟨gb, ob + j, none⟩ = some (.int .i64 (zs.getD j 0))) :
    Calls Try.prog 32 #[.slice (some ⟨ga, oa, none⟩) n ca, .slice (some ⟨gb, ob, none⟩) n cb] w fun e w' => e = .returned (.bool true) ∧ Below w.heap.size w w' := by
  go_enter Try.func32, Try.ntmps32
  go_wp2
  go_loopw [5] (fun i wr => ∃ k : Nat, i = .int .i64 k ∧ k ≤ n ∧ ∃ q, wr = w.drewN q) (fun i _ => n - (intOf i).toNat)
  case atStart => exact ⟨0, rfl, by omega, 0, rfl⟩
  case round =>
    obtain ⟨k, rfl, hk, q, rfl⟩ := hrel
    by_cases hlt : k < n
    · have ha' : (w.drewN q).cell? ⟨ga, oa + k, none⟩ = some (.int .i64 (zs.getD k 0)) := ha k hlt
      have hb' : (w.drewN q).cell? ⟨gb, ob + k, none⟩ = some (.int .i64 (zs.getD k 0)) := hb k hlt
      go_wp2
      go_quiet (fail)
      all_goals go_wp2
      all_goals go_roundw
      case rel => exact ⟨k + 1, by go_num, by omega, _, by first | rfl | (simp only [World.drewN_drewN]; rfl)⟩
      case measure => simp [intOf]; omega
    · go_wp2
      go_ret
      exact ⟨rfl, below_drewN (Below.refl _ _) _⟩

theorem eqI_any (zs : List Int) (va vb : Value) (b1 b2 : Nat) (w : World) (hn : zs.length ≤ 140737488351232)
    (ha : w.ownsRow b1 3 1 va zs.length (zs.map (Value.int .i64))) (hb : w.ownsRow b2 3 1 vb zs.length (zs.map (Value.int .i64))) :
    Calls Try.prog 32 #[va, vb] w fun e w' => e = .returned (.bool true) ∧ Below w.heap.size w w' := by
  have z : ∀ oa ob ca cb, Calls Try.prog 32 #[.slice oa 0 ca, .slice ob 0 cb] w fun e w' => e = .returned (.bool true) ∧ Below w.heap.size w w' := fun oa ob ca cb =>
    (eqI_zero oa ob ca cb w).mono fun e w' ⟨h1, h2⟩ => ⟨h1, by rw [h2]; exact Below.refl _ _⟩
  rcases ha.2 with ⟨rfl, h0⟩ | ⟨ga, ca, cua, rfl, _⟩ <;> rcases hb.2 with ⟨rfl, h1⟩ | ⟨gb, cb, cub, rfl, _⟩
  · exact z _ _ _ _
  · rw [h0]; exact z _ _ _ _
  · rw [h1]; exact z _ _ _ _
  · exact eqI_pos ga 0 gb 0 zs.length ca cb zs w hn rfl (fun j hj => by rw [Nat.zero_add, ha.cellAt j (by omega)]; exact getD_mapI zs j hj) (fun j hj => by rw [Nat.zero_add, hb.cellAt j (by omega)]; exact getD_mapI zs j hj)


theorem eqI_at {w : World} {b1 b2 n : Nat} {va vb : Value} {zs : List Int} (hz : zs.length = n) (hn : n ≤ 140737488351232) (ha : w.ownsRow b1 3 1 va n (zs.map (Value.int .i64))) (hb : w.ownsRow b2 3 1 vb n (zs.map (Value.int .i64))) :
    Calls Try.prog 32 #[va, vb] w fun e w' => e = .returned (.bool true) ∧ Below w.heap.size w w' := by
  subst hz
  exact eqI_any zs va vb b1 b2 w hn ha hb
end Go.Proofs.Ytobimpgapfecoab
/- A list of integers that came in, copied by the law into memory of its own. -/
namespace Go.Proofs.Ytobimpgapfecoab
open Go.RowKit
set_option maxRecDepth 100000

set_option maxHeartbeats 400000 in
theorem toI_pos (b o n cap : Nat) (zs : List Int) (w : World) (hn : n ≤ 1048576) (hz : zs.length = n) (hb : b < w.heap.size)
    (hc : ∀ j, j < n → w.cell? ⟨b, o + j, none⟩ = some (.int .i64 (zs.getD j 0))) :
    Calls Try.prog 46 #[.slice (some ⟨b, o, none⟩) n cap] w fun e w' => ∃ g, e = .returned (.slice (some ⟨g, 0, none⟩) n n) ∧ w'.ownsRow w.heap.size 3 1 (.slice (some ⟨g, 0, none⟩) n n) n (zs.map (Value.int .i64)) ∧ Below w.heap.size w w' := by
  obtain ⟨i0, hi, hz0, hz1, hz2⟩ := info_parts intInfo
  go_enter Try.func46, Try.ntmps46
  go_wp2_with (at_make; refine wpList_make_full _ rfl _ _ 26 rfl w.heap.size 3 i0 (.int .i64 0) 1 Try.underlying26 hi hz0 hz1 .i64 .i64 _ _ n rfl rfl rfl rfl ?c1 ?c2 ?c3 ?_)
  case c1 => rw [hz2]; omega
  case c2 => unfold maxLen; omega
  case c3 => omega
  intro w1 ho1 hg1
  have hb1 : Below w.heap.size w w1 := (Below.refl _ _).grown hg1 (Nat.le_refl _) (by intro k hk; cases hk)
  clear hg1
  go_wp2
  go_loopw [4] (fun i wr => ∃ (k : Nat) (ys : List Value), i = .int .i64 k ∧ k ≤ n ∧ wr.ownsRow w.heap.size 3 1 (.slice (some ⟨w.heap.size, 0, none⟩) n n) n ys ∧ (∀ j, j < k → ys[j]? = some (.int .i64 (zs.getD j 0))) ∧ Below w.heap.size w wr) (fun i _ => n - (intOf i).toNat)
  case atStart => exact ⟨0, _, rfl, by omega, ho1, by omega, hb1⟩
  case round =>
    obtain ⟨k, ys, rfl, hk, hown, hys, hbr⟩ := hrel
    clear ho1 hb1
    by_cases hlt : k < n
    · have hlen : ys.length = n := by have := hown.1; omega
      have hcs : wr.cell? ⟨b, o + k, none⟩ = some (.int .i64 (zs.getD k 0)) := (hbr.cell (p := ⟨b, o + k, none⟩) hb).trans (hc k hlt)
      have hcd : wr.cell? ⟨w.heap.size, k, none⟩ = some (ys[k]'(by omega)) := by rw [hown.cellAt k (by omega)]; exact List.getElem?_eq_getElem _
      have hf : wr.frozen? ⟨w.heap.size, k, none⟩ = false := hown.frozenAt k
      have hs := hown.stored k (.int .i64 (zs.getD k 0))
      have hbs := hbr.setCell (p := ⟨w.heap.size, k, none⟩) (Nat.le_refl _) (.int .i64 (zs.getD k 0))
      generalize hzz : zs.getD k 0 = z at hcs hs hbs
      have HZZ : Hid (zs.getD k 0 = z) := hzz
      clear hzz
      go_wp2
      go_roundw
      case rel =>
        refine ⟨k + 1, _, by go_num, by omega, hs.1, ?_, hbs⟩
        intro j hj
        rw [List.getElem?_set]
        by_cases e : k = j
        · subst e; rw [if_pos rfl, if_pos (by omega), HZZ.out]
        · rw [if_neg e]; exact hys j (by omega)
      case measure => simp [intOf]; omega
    · go_wp2
      go_ret
      have hlen : ys.length = n := by have := hown.1; omega
      have e : ys = zs.map (Value.int .i64) := by
        apply List.ext_getElem?
        intro j
        by_cases hj : j < n
        · rw [hys j (by omega), getD_mapI zs j (by omega)]
        · rw [List.getElem?_eq_none (by omega), List.getElem?_eq_none (by simp; omega)]
      exact ⟨_, rfl, e ▸ hown, hbr⟩

set_option maxHeartbeats 400000 in
theorem toI_zero (a : Option Addr) (cap : Nat) (w : World) :
    Calls Try.prog 46 #[.slice a 0 cap] w fun e w' => ∃ g, e = .returned (.slice (some ⟨g, 0, none⟩) 0 0) ∧ w'.ownsRow w.heap.size 3 1 (.slice (some ⟨g, 0, none⟩) 0 0) 0 [] ∧ Below w.heap.size w w' := by
  obtain ⟨i0, hi, hz0, hz1, hz2⟩ := info_parts intInfo
  go_enter Try.func46, Try.ntmps46
  go_wp2_with (at_make; refine wpList_make_full _ rfl _ _ 26 rfl w.heap.size 3 i0 (.int .i64 0) 1 Try.underlying26 hi hz0 hz1 .i64 .i64 _ _ 0 rfl rfl rfl rfl ?c1 ?c2 ?c3 ?_)
  case c1 => omega
  case c2 => unfold maxLen; omega
  case c3 => omega
  intro w1 ho1 hg1
  have hb1 : Below w.heap.size w w1 := (Below.refl _ _).grown hg1 (Nat.le_refl _) (by intro k hk; cases hk)
  rw [toList_madeCells_one] at ho1
  clear hg1
  go_wp2
  refine wp_loop_rounds 1 ?_
  rw [rounds_succ]
  go_wp2
  go_ret
  exact ⟨_, rfl, ho1, hb1⟩

/-- Whatever came in. -/
theorem toI_any (a : Option Addr) (len cap : Nat) (zs : List Int) (w : World) (h : IsRow .i64 w a len cap zs) (hn : len ≤ 1048576) :
    Calls Try.prog 46 #[.slice a len cap] w fun e w' => ∃ g, e = .returned (.slice (some ⟨g, 0, none⟩) len len) ∧ w'.ownsRow w.heap.size 3 1 (.slice (some ⟨g, 0, none⟩) len len) len ((zs.take len).map (Value.int .i64)) ∧ Below w.heap.size w w' := by
  by_cases h0 : 0 < len
  · obtain ⟨b, o, rfl, hb, hc⟩ := h.at h0
    exact toI_pos b o len cap (zs.take len) w hn h.len hb hc
  · obtain rfl : len = 0 := by omega
    simpa using toI_zero a cap w
end Go.Proofs.Ytobimpgapfecoab
/- What the laws' own helpers do with lists of texts and of integers that came in: their sizes, copies of them, held against each other. -/
namespace Go.Proofs.Ytobimpgapfecoab
open Go.RowKit
set_option maxRecDepth 100000
theorem toI_row (v : Value) (zs : List Int) (w : World) (h : RowI w v zs) (hn : zs.length ≤ 1048576) :
    Calls Try.prog 46 #[v] w fun e w' => ∃ g, e = .returned (.slice (some ⟨g, 0, none⟩) zs.length zs.length) ∧ w'.ownsRow w.heap.size 3 1 (.slice (some ⟨g, 0, none⟩) zs.length zs.length) zs.length (zs.map (Value.int .i64)) ∧ Below w.heap.size w w' := by
  obtain ⟨oa, cap, rfl, hc, hr⟩ := h
  by_cases h0 : 0 < zs.length
  · obtain ⟨b, o, rfl, hb, hc⟩ := hr h0
    exact (toI_pos b o zs.length cap zs w hn rfl hb hc).mono fun e w' ⟨g, h1, h2, h3⟩ => ⟨_, h1, h2, h3⟩
  · obtain rfl : zs = [] := List.eq_nil_of_length_eq_zero (by omega)
    exact (toI_zero oa cap w).mono fun e w' ⟨g, h1, h2, h3⟩ => ⟨_, h1, h2, h3⟩

theorem eqI_row (va vb : Value) (zs : List Int) (w : World) (ha : RowI w va zs) (hb : RowI w vb zs) (hn : zs.length ≤ 1099511627776) :
    Calls Try.prog 32 #[va, vb] w fun e w' => e = .returned (.bool true) ∧ Below w.heap.size w w' := by
  obtain ⟨oa, ca, rfl, hca, hra⟩ := ha
  obtain ⟨ob, cb, rfl, hcb, hrb⟩ := hb
  by_cases h0 : 0 < zs.length
  · obtain ⟨g, o, rfl, hg, hc⟩ := hra h0
    obtain ⟨g', o', rfl, hg', hc'⟩ := hrb h0
    exact (eqI_pos g o g' o' zs.length ca cb zs w (by omega) rfl hc hc').mono fun e w' h => h
  · obtain rfl : zs = [] := List.eq_nil_of_length_eq_zero (by omega)
    exact (eqI_zero oa ob ca cb w).mono fun e w' ⟨h1, h2⟩ => ⟨h1, h2 ▸ Below.refl _ _⟩

set_option maxHeartbeats 400000 in
theorem toS_pos (b o n cap : Nat) (ss : List ByteArray) (w : World) (hn : n ≤ 1048576) (hz : ss.length = n) (hb : b < w.heap.size)
    (hc : ∀ j, j < n → w.cell? ⟨b, o + j, none⟩ = some (.string (tx ss j))) :
    Calls Try.prog 45 #[.slice (some ⟨b, o, none⟩) n cap] w fun e w' => ∃ g, e = .returned (.slice (some ⟨g, 0, none⟩) n n) ∧ w'.ownsRow w.heap.size 9 1 (.slice (some ⟨g, 0, none⟩) n n) n (ss.map Value.string) ∧ Below w.heap.size w w' := by
  obtain ⟨i0, hi, hz0, hz1, hz2⟩ := info_parts strInfo
  go_enter Try.func45, Try.ntmps45
  go_wp2_with (at_make; refine wpList_make_full _ rfl _ _ 23 rfl w.heap.size 9 i0 (.string ⟨#[]⟩) 1 Try.underlying23 hi hz0 hz1 .i64 .i64 _ _ n rfl rfl rfl rfl ?c1 ?c2 ?c3 ?_)
  case c1 => rw [hz2]; omega
  case c2 => unfold maxLen; omega
  case c3 => omega
  intro w1 ho1 hg1
  have hb1 : Below w.heap.size w w1 := (Below.refl _ _).grown hg1 (Nat.le_refl _) (by intro k hk; cases hk)
  clear hg1
  go_wp2
  go_loopw [4] (fun i wr => ∃ (k : Nat) (ys : List Value), i = .int .i64 k ∧ k ≤ n ∧ wr.ownsRow w.heap.size 9 1 (.slice (some ⟨w.heap.size, 0, none⟩) n n) n ys ∧ (∀ j, j < k → ys[j]? = some (.string (tx ss j))) ∧ Below w.heap.size w wr) (fun i _ => n - (intOf i).toNat)
  case atStart => exact ⟨0, _, rfl, by omega, ho1, by omega, hb1⟩
  case round =>
    obtain ⟨k, ys, rfl, hk, hown, hys, hbr⟩ := hrel
    clear ho1 hb1
    by_cases hlt : k < n
    · have hlen : ys.length = n := by have := hown.1; omega
      have hcs : wr.cell? ⟨b, o + k, none⟩ = some (.string (tx ss k)) := (hbr.cell (p := ⟨b, o + k, none⟩) hb).trans (hc k hlt)
      have hcd : wr.cell? ⟨w.heap.size, k, none⟩ = some (ys[k]'(by omega)) := by rw [hown.cellAt k (by omega)]; exact List.getElem?_eq_getElem _
      have hf : wr.frozen? ⟨w.heap.size, k, none⟩ = false := hown.frozenAt k
      have hs := hown.stored k (.string (tx ss k))
      have hbs := hbr.setCell (p := ⟨w.heap.size, k, none⟩) (Nat.le_refl _) (.string (tx ss k))
      generalize hzz : tx ss k = z at hcs hs hbs
      have HZZ : Hid (tx ss k = z) := hzz
      clear hzz
      go_wp2
      go_roundw
      case rel =>
        refine ⟨k + 1, _, by go_num, by omega, hs.1, ?_, hbs⟩
        intro j hj
        rw [List.getElem?_set]
        by_cases e : k = j
        · subst e; rw [if_pos rfl, if_pos (by omega), HZZ.out]
        · rw [if_neg e]; exact hys j (by omega)
      case measure => simp [intOf]; omega
    · go_wp2
      go_ret
      have hlen : ys.length = n := by have := hown.1; omega
      have e : ys = ss.map Value.string := by
        apply List.ext_getElem?
        intro j
        by_cases hj : j < n
        · rw [hys j (by omega), tx_map (by omega)]
        · rw [List.getElem?_eq_none (by omega), List.getElem?_eq_none (by simp; omega)]
      exact ⟨_, rfl, e ▸ hown, hbr⟩

set_option maxHeartbeats 400000 in
theorem toS_zero (a : Option Addr) (cap : Nat) (w : World) :
    Calls Try.prog 45 #[.slice a 0 cap] w fun e w' => ∃ g, e = .returned (.slice (some ⟨g, 0, none⟩) 0 0) ∧ w'.ownsRow w.heap.size 9 1 (.slice (some ⟨g, 0, none⟩) 0 0) 0 [] ∧ Below w.heap.size w w' := by
  obtain ⟨i0, hi, hz0, hz1, hz2⟩ := info_parts strInfo
  go_enter Try.func45, Try.ntmps45
  go_wp2_with (at_make; refine wpList_make_full _ rfl _ _ 23 rfl w.heap.size 9 i0 (.string ⟨#[]⟩) 1 Try.underlying23 hi hz0 hz1 .i64 .i64 _ _ 0 rfl rfl rfl rfl ?c1 ?c2 ?c3 ?_)
  case c1 => omega
  case c2 => unfold maxLen; omega
  case c3 => omega
  intro w1 ho1 hg1
  have hb1 : Below w.heap.size w w1 := (Below.refl _ _).grown hg1 (Nat.le_refl _) (by intro k hk; cases hk)
  rw [toList_madeCells_one] at ho1
  clear hg1
  go_wp2
  refine wp_loop_rounds 1 ?_
  rw [rounds_succ]
  go_wp2
  go_ret
  exact ⟨_, rfl, ho1, hb1⟩
theorem toS_row (v : Value) (ss : List ByteArray) (w : World) (h : RowS w v ss) (hn : ss.length ≤ 1048576) :
    Calls Try.prog 45 #[v] w fun e w' => ∃ g, e = .returned (.slice (some ⟨g, 0, none⟩) ss.length ss.length) ∧ w'.ownsRow w.heap.size 9 1 (.slice (some ⟨g, 0, none⟩) ss.length ss.length) ss.length (ss.map Value.string) ∧ Below w.heap.size w w' := by
  obtain ⟨oa, cap, rfl, hc, hr⟩ := h
  by_cases h0 : 0 < ss.length
  · obtain ⟨b, o, rfl, hb, hc⟩ := hr h0
    exact (toS_pos b o ss.length cap ss w hn rfl hb hc).mono fun e w' ⟨g, h1, h2, h3⟩ => ⟨_, h1, h2, h3⟩
  · obtain rfl : ss = [] := List.eq_nil_of_length_eq_zero (by omega)
    exact (toS_zero oa cap w).mono fun e w' ⟨g, h1, h2, h3⟩ => ⟨_, h1, h2, h3⟩

set_option maxHeartbeats 400000 in
theorem eqS_row (va vb : Value) (ss : List ByteArray) (w : World) (ha : RowS w va ss) (hb : RowS w vb ss) (hn : ss.length ≤ 1099511627776) :
    Calls Try.prog 56 #[va, vb] w fun e w' => e = .returned (.bool true) ∧ Below w.heap.size w w' := by
  obtain ⟨oa, ca, rfl, hca, hra⟩ := ha
  obtain ⟨ob, cb, rfl, hcb, hrb⟩ := hb
  have HA : Hid (0 < ss.length → ∃ g o, oa = some ⟨g, o, none⟩ ∧ g < w.heap.size ∧ ∀ j, j < ss.length → w.cell? ⟨g, o + j, none⟩ = some (.string (tx ss j))) := hra
  have HB : Hid (0 < ss.length → ∃ g o, ob = some ⟨g, o, none⟩ ∧ g < w.heap.size ∧ ∀ j, j < ss.length → w.cell? ⟨g, o + j, none⟩ = some (.string (tx ss j))) := hrb
  clear hra hrb
  go_enter Try.func56, Try.ntmps56
  go_wp2
  go_loopw [5] (fun i wr => ∃ k : Nat, i = .int .i64 k ∧ k ≤ ss.length ∧ ∃ q, wr = w.drewN q) (fun i _ => ss.length - (intOf i).toNat)
  case atStart => exact ⟨0, rfl, by omega, 0, rfl⟩
  case round =>
    obtain ⟨k, rfl, hk, q, rfl⟩ := hrel
    by_cases hlt : k < ss.length
    · obtain ⟨g, o, rfl, _, hj⟩ := HA.out (by omega)
      obtain ⟨g', o', rfl, _, hj'⟩ := HB.out (by omega)
      have ha' := hj k hlt
      have hb' := hj' k hlt
      clear hj hj' HA HB
      generalize tx ss k = t at ha' hb'
      go_wp2
      go_quiet (fail)
      all_goals go_wp2
      all_goals go_roundw
      case rel => exact ⟨k + 1, by go_num, by omega, _, by first | rfl | (simp only [World.drewN_drewN]; rfl)⟩
      case measure => simp [intOf]; omega
    · go_wp2
      go_ret
      exact ⟨rfl, below_drewN (Below.refl _ _) _⟩

theorem szI_any (oa : Option Addr) (n cap : Nat) (left : Int) (w : World) (hn : n ≤ 9223372036854775807) (h0 : 0 ≤ left) (h1 : left ≤ 1048576) :
    Calls Try.prog 37 #[.slice oa n cap, .int .i64 left] w fun e w' => ∃ r : Int, e = .returned (.int .i64 r) ∧ ((0 ≤ r ∧ r ≤ left ∧ (n : Int) ≤ left) ∨ r = -1) ∧ Below w.heap.size w w' := by
  by_cases hl : left - (n : Int) < 0
  · go_enter Try.func37, Try.ntmps37
    go_wp2
    go_ret
    exact ⟨_, rfl, .inr rfl, Below.refl _ _⟩
  · go_enter Try.func37, Try.ntmps37
    go_wp2
    go_ret
    exact ⟨_, rfl, .inl ⟨by omega, by omega, by omega⟩, Below.refl _ _⟩

set_option maxHeartbeats 400000 in
theorem szS_row (v : Value) (ss : List ByteArray) (left : Int) (w : World) (h : RowS w v ss) (hn : ss.length ≤ 9223372036854775807) (hs : ∀ s ∈ ss, s.size ≤ 9223372036854775807) (h0 : 0 ≤ left) (h1 : left ≤ 1048576) :
    Calls Try.prog 36 #[v, .int .i64 left] w fun e w' => ∃ r : Int, e = .returned (.int .i64 r) ∧ ((0 ≤ r ∧ r ≤ left ∧ (ss.length : Int) ≤ left ∧ ∀ s ∈ ss, (s.size : Int) ≤ left) ∨ r = -1) ∧ Below w.heap.size w w' := by
  obtain ⟨oa, cap, rfl, hc, hr⟩ := h
  have HR : Hid (0 < ss.length → ∃ g o, oa = some ⟨g, o, none⟩ ∧ g < w.heap.size ∧ ∀ j, j < ss.length → w.cell? ⟨g, o + j, none⟩ = some (.string (tx ss j))) := hr
  have HS : Hid (∀ s ∈ ss, s.size ≤ 9223372036854775807) := hs
  clear hr hs
  by_cases hl : left - (ss.length : Int) < 0
  · go_enter Try.func36, Try.ntmps36
    go_wp2
    go_ret
    exact ⟨_, rfl, .inr rfl, Below.refl _ _⟩
  · go_enter Try.func36, Try.ntmps36
    go_wp2
    go_loopw [1, 5] (fun l i wr => ∃ (k : Nat) (x : Int), i = .int .i64 k ∧ l = .int .i64 x ∧ 0 ≤ x ∧ x ≤ left ∧ k ≤ ss.length ∧ (∀ j, j < k → ((tx ss j).size : Int) ≤ left) ∧ wr = w) (fun _ i _ => ss.length - (intOf i).toNat)
    case atStart => exact ⟨0, _, rfl, rfl, by omega, by omega, by omega, by omega, rfl⟩
    case round =>
      obtain ⟨k, x, rfl, rfl, hx0, hx1, hk, hal, rfl⟩ := hrel
      have HA : Hid (∀ j, j < k → ((tx ss j).size : Int) ≤ left) := hal
      clear hal
      by_cases hlt : k < ss.length
      · obtain ⟨g, o, rfl, hg, hj⟩ := HR.out (by omega)
        have hcell := hj k hlt
        have hsz : (tx ss k).size ≤ 9223372036854775807 := HS.out _ (tx_mem hlt)
        clear hj
        generalize ht : tx ss k = t at hcell hsz
        have HT : Hid (tx ss k = t) := ht
        clear ht
        by_cases hx : x - (t.size : Int) < 0
        · go_wp2
          go_ret
          exact ⟨_, rfl, .inr rfl, Below.refl _ _⟩
        · go_wp2
          go_roundw
          case rel =>
            refine ⟨k + 1, x - (t.size : Int), by go_num, by go_num, by omega, by omega, by omega, ?_, by first | rfl | trivial⟩
            intro j hj
            by_cases e : j = k
            · subst e; rw [HT.out]; omega
            · exact HA.out j (by omega)
          case measure => simp [intOf]; omega
      · go_wp2
        go_ret
        refine ⟨_, rfl, .inl ⟨hx0, hx1, by omega, fun s hs => ?_⟩, Below.refl _ _⟩
        obtain ⟨j, hj, rfl⟩ := List.mem_iff_getElem.1 hs
        have := HA.out j (by omega)
        rwa [tx_eq hj] at this
end Go.Proofs.Ytobimpgapfecoab
/- What the laws' own helpers do with an attribute that came in: its size, a copy of it, two held against each other. -/
namespace Go.Proofs.Ytobimpgapfecoab
open Go.RowKit
set_option maxRecDepth 100000
set_option maxHeartbeats 800000 in
theorem toAttr_row (v : Value) (a : AttrD) (w : World) (h : AttrAt w v a) (hn : a.cuts.length ≤ 1048576) (hm : a.vals.length ≤ 1048576) :
    Calls Try.prog 74 #[v] w fun e w' => ∃ v', e = .returned v' ∧ OwnA w.heap.size w' v' a ∧ Below w.heap.size w w' := by
  obtain ⟨vc, vv, rfl, hc, hv⟩ := h
  have HC : Hid (RowI w vc a.cuts) := hc
  have HV : Hid (RowS w vv a.vals) := hv
  clear hc hv
  go_enter Try.func74, Try.ntmps74
  go_wp2_with fail
  obtain ⟨K1, K2, K3, B0⟩ := blk_3 99 89 89 w #[.string a.name, vc, vv] #[.string ⟨#[]⟩, .slice none 0 0, .slice none 0 0] #[.string a.name, .slice none 0 0, .slice none 0 0]
  refine (toI_row vc a.cuts _ (HC.out.later B0) hn).mono ?_
  rintro e w1 ⟨g1, rfl, ho1, hb1⟩
  replace K1 := K1.below hb1
  replace K2 := K2.below hb1
  replace K3 := K3.below hb1
  have hsz := hb1.size
  simp at hsz
  have ho1 := own_base ho1 (b' := w.heap.size + 3) (by simp)
  have B1 : Below w.heap.size w w1 := B0.trans (hb1.mono (by simp; omega))
  clear hb1 B0
  have c3 : w1.cell? ⟨w.heap.size + 1 + 1, 1, none⟩ = some (.slice none 0 0) := K3.cell 1
  have f3 := K3.frozen 1
  have S1 := K1.setCell_other ⟨w.heap.size + 1 + 1, 1, none⟩ (.slice (some ⟨g1, 0, none⟩) a.cuts.length a.cuts.length) (by simp; omega)
  have S2 := K2.setCell_other ⟨w.heap.size + 1 + 1, 1, none⟩ (.slice (some ⟨g1, 0, none⟩) a.cuts.length a.cuts.length) (by simp)
  have S3 := K3.setCell 1 (.slice (some ⟨g1, 0, none⟩) a.cuts.length a.cuts.length)
  have B2 : Below w.heap.size w (w1.setCell ⟨w.heap.size + 1 + 1, 1, none⟩ (.slice (some ⟨g1, 0, none⟩) a.cuts.length a.cuts.length)) := B1.setCell (p := ⟨w.heap.size + 1 + 1, 1, none⟩) (by simp; omega) _
  have hsz2 : (w1.setCell ⟨w.heap.size + 1 + 1, 1, none⟩ (.slice (some ⟨g1, 0, none⟩) a.cuts.length a.cuts.length)).heap.size = w1.heap.size := by simp [World.setCell]
  have O1 := own_setCell ho1 ⟨w.heap.size + 1 + 1, 1, none⟩ (.slice (some ⟨g1, 0, none⟩) a.cuts.length a.cuts.length) (by simp)
  have HO1 : Hid ((w1.setCell ⟨w.heap.size + 1 + 1, 1, none⟩ (.slice (some ⟨g1, 0, none⟩) a.cuts.length a.cuts.length)).ownsRow (w.heap.size + 3) 3 1 (.slice (some ⟨g1, 0, none⟩) a.cuts.length a.cuts.length) a.cuts.length (a.cuts.map (Value.int .i64))) := O1
  have HS : Hid (Blk 89 (w1.setCell ⟨w.heap.size + 1 + 1, 1, none⟩ (.slice (some ⟨g1, 0, none⟩) a.cuts.length a.cuts.length)) (w.heap.size + 1) #[.string ⟨#[]⟩, .slice none 0 0, .slice none 0 0] ∧ Blk 89 (w1.setCell ⟨w.heap.size + 1 + 1, 1, none⟩ (.slice (some ⟨g1, 0, none⟩) a.cuts.length a.cuts.length)) (w.heap.size + 1 + 1) #[.string a.name, (.slice (some ⟨g1, 0, none⟩) a.cuts.length a.cuts.length), .slice none 0 0] ∧ Below w.heap.size w (w1.setCell ⟨w.heap.size + 1 + 1, 1, none⟩ (.slice (some ⟨g1, 0, none⟩) a.cuts.length a.cuts.length))) := ⟨S2, S3, B2⟩
  have cS : (w1.setCell ⟨w.heap.size + 1 + 1, 1, none⟩ (.slice (some ⟨g1, 0, none⟩) a.cuts.length a.cuts.length)).cell? ⟨w.heap.size, 2, none⟩ = some vv := S1.cell 2
  clear K1 K2 K3 S1 S2 S3 B2 O1 ho1 B1
  go_wp2_with fail
  clear c3 f3
  refine (toS_row vv a.vals _ (HV.out.later HS.out.2.2) hm).mono ?_
  rintro e w2 ⟨g2, rfl, ho2, hb2⟩
  have O1 := own_below HO1.out hb2
  obtain ⟨S2, S3, B2⟩ := HS.out
  replace S2 := S2.below hb2
  replace S3 := S3.below hb2
  have B3 := B2.trans (hb2.mono B2.size)
  have hsz3 := hb2.size
  have ho2 := own_base ho2 (b' := w.heap.size + 3) (by omega)
  clear HS HO1 HC HV hb2 B2
  have c3 : w2.cell? ⟨w.heap.size + 1 + 1, 2, none⟩ = some (.slice none 0 0) := S3.cell 2
  have f3 := S3.frozen 2
  have T2 := S2.setCell_other ⟨w.heap.size + 1 + 1, 2, none⟩ (.slice (some ⟨g2, 0, none⟩) a.vals.length a.vals.length) (by simp)
  have T3 := S3.setCell 2 (.slice (some ⟨g2, 0, none⟩) a.vals.length a.vals.length)
  have B4 : Below w.heap.size w (w2.setCell ⟨w.heap.size + 1 + 1, 2, none⟩ (.slice (some ⟨g2, 0, none⟩) a.vals.length a.vals.length)) := B3.setCell (p := ⟨w.heap.size + 1 + 1, 2, none⟩) (by simp; omega) _
  have O1 := own_setCell O1 ⟨w.heap.size + 1 + 1, 2, none⟩ (.slice (some ⟨g2, 0, none⟩) a.vals.length a.vals.length) (by simp)
  have O2 := own_setCell ho2 ⟨w.heap.size + 1 + 1, 2, none⟩ (.slice (some ⟨g2, 0, none⟩) a.vals.length a.vals.length) (by simp)
  have HT : Hid (Below w.heap.size w (w2.setCell ⟨w.heap.size + 1 + 1, 2, none⟩ (.slice (some ⟨g2, 0, none⟩) a.vals.length a.vals.length)) ∧ (w2.setCell ⟨w.heap.size + 1 + 1, 2, none⟩ (.slice (some ⟨g2, 0, none⟩) a.vals.length a.vals.length)).ownsRow (w.heap.size + 3) 3 1 (.slice (some ⟨g1, 0, none⟩) a.cuts.length a.cuts.length) a.cuts.length (a.cuts.map (Value.int .i64)) ∧ (w2.setCell ⟨w.heap.size + 1 + 1, 2, none⟩ (.slice (some ⟨g2, 0, none⟩) a.vals.length a.vals.length)).ownsRow (w.heap.size + 3) 9 1 (.slice (some ⟨g2, 0, none⟩) a.vals.length a.vals.length) a.vals.length (a.vals.map Value.string)) := ⟨B4, O1, O2⟩
  have HT2 : Hid (Blk 89 (w2.setCell ⟨w.heap.size + 1 + 1, 2, none⟩ (.slice (some ⟨g2, 0, none⟩) a.vals.length a.vals.length)) (w.heap.size + 1) #[.string ⟨#[]⟩, .slice none 0 0, .slice none 0 0] ∧ Blk 89 (w2.setCell ⟨w.heap.size + 1 + 1, 2, none⟩ (.slice (some ⟨g2, 0, none⟩) a.vals.length a.vals.length)) (w.heap.size + 1 + 1) #[.string a.name, (.slice (some ⟨g1, 0, none⟩) a.cuts.length a.cuts.length), (.slice (some ⟨g2, 0, none⟩) a.vals.length a.vals.length)]) := ⟨T2, T3⟩
  clear S2 S3 T2 T3 B4 O1 O2 ho2 B3
  go_wp2_with (first | (with_reducible refine wp_at_load rfl _ rfl ?_; refine ⟨_, rfl, _, _, _, HT2.out.2, ?_⟩) | (with_reducible refine wp_at_store rfl _ _ rfl ?_; refine ⟨_, rfl, _, _, _, _, _, _, _, rfl, _, _, _, HT2.out.1, ?_⟩))
  refine bodyPost_ret (res_at Try.results74 _ _ _ _ _ _ rfl (HT2.out.1.setRow _)) rfl ⟨_, rfl, ⟨_, _, rfl, ?_, ?_⟩, ?_⟩
  · exact own_base (own_setRow HT.out.2.1 _ _ (by omega)) (by omega)
  · exact own_base (own_setRow HT.out.2.2 _ _ (by omega)) (by omega)
  · exact below_row HT.out.1 (by omega) _

theorem eqAttr_row (va vb : Value) (a : AttrD) (w : World) (ha : AttrAt w va a) (hb : AttrAt w vb a) (hn : okA a) :
    Calls Try.prog 82 #[va, vb] w fun e w' => e = .returned (.bool true) ∧ Below w.heap.size w w' := by
  obtain ⟨ca, sa, rfl, ha1, ha2⟩ := ha
  obtain ⟨cb, sb, rfl, hb1, hb2⟩ := hb
  have HA : Hid (RowI w ca a.cuts ∧ RowS w sa a.vals ∧ RowI w cb a.cuts ∧ RowS w sb a.vals ∧ okA a) := ⟨ha1, ha2, hb1, hb2, hn⟩
  clear ha1 ha2 hb1 hb2 hn
  go_enter Try.func82, Try.ntmps82
  go_wp2_with fail
  obtain ⟨K1, K2, B0⟩ := blk_2 89 89 w #[.string a.name, ca, sa] #[.string a.name, cb, sb]
  obtain ⟨h1, h2, h3, h4, hn⟩ := HA.out
  refine (eqI_row ca cb a.cuts _ (h1.later B0) (h3.later B0) hn.cuts).mono ?_
  rintro e w1 ⟨rfl, hb1⟩
  have B1 := B0.trans (hb1.mono (by simp; omega))
  have k1 : w1.cell? ⟨w.heap.size, 2, none⟩ = some sa := (K1.below hb1).cell 2
  have k2 : w1.cell? ⟨w.heap.size + 1, 2, none⟩ = some sb := (K2.below hb1).cell 2
  have h2 := h2.later B1
  have h4 := h4.later B1
  clear HA h1 h3 K1 K2 B0 hb1
  go_wp2_with fail
  refine (eqS_row sa sb a.vals _ h2 h4 hn.vals.1).mono ?_
  rintro e w2 ⟨rfl, hb2⟩
  clear h2 h4 k1 k2 hn
  go_wp2
  go_ret
  exact ⟨rfl, B1.trans (hb2.mono B1.size)⟩

set_option maxHeartbeats 400000 in
theorem szAttr_row (v : Value) (a : AttrD) (left : Int) (w : World) (h : AttrAt w v a) (hn : inA a) (h0 : 0 ≤ left) (h1 : left ≤ 1048576) :
    Calls Try.prog 72 #[v, .int .i64 left] w fun e w' => ∃ r : Int, e = .returned (.int .i64 r) ∧ ((0 ≤ r ∧ r ≤ left ∧ fitA a) ∨ r = -1) ∧ Below w.heap.size w w' := by
  obtain ⟨vc, vv, rfl, hc, hv⟩ := h
  obtain ⟨oc, cc, rfl, hcc, hcr⟩ := hc
  have hnm := hn.name
  have HO : Hid (inA a) := hn
  have HV : Hid (RowS w vv a.vals) := hv
  clear hv hcr hn
  by_cases hl : left - (a.name.size : Int) < 0
  · go_enter Try.func72, Try.ntmps72
    go_wp2
    go_ret
    exact ⟨_, rfl, .inr rfl, (Below.refl _ _).alloc (Nat.le_refl _) _⟩
  · go_enter Try.func72, Try.ntmps72
    go_wp2_with fail
    obtain ⟨K, B0⟩ := blk_1 99 w #[.string a.name, .slice oc a.cuts.length cc, vv]
    refine (szI_any oc a.cuts.length cc _ _ HO.out.cuts (by omega) (by omega)).mono ?_
    rintro e w1 ⟨r, rfl, hr, hb1⟩
    have B1 := B0.trans (hb1.mono (by simp))
    have k2 : w1.cell? ⟨w.heap.size, 2, none⟩ = some vv := (K.below hb1).cell 2
    clear K B0 hb1
    rcases hr with ⟨r0, r1, r2⟩ | rfl
    · go_wp2_with fail
      refine (szS_row vv a.vals r w1 (HV.out.later B1) HO.out.vals HO.out.each (by omega) (by omega)).mono ?_
      rintro e w2 ⟨r', rfl, hr', hb2⟩
      clear k2
      have B2 := B1.trans (hb2.mono B1.size)
      rcases hr' with ⟨q0, q1, q2, q3⟩ | rfl
      · have HQ : Hid (∀ s ∈ a.vals, (s.size : Int) ≤ r) := q3
        clear q3
        go_wp2
        go_ret
        refine ⟨_, rfl, .inl ⟨q0, by omega, ⟨by omega, by omega, by omega, fun s hs => ?_⟩⟩, B2⟩
        have := HQ.out s hs
        omega
      · go_wp2
        go_ret
        exact ⟨_, rfl, .inr rfl, B2⟩
    · go_wp2
      go_ret
      exact ⟨_, rfl, .inr rfl, B1⟩
end Go.Proofs.Ytobimpgapfecoab
