/- Texts of this claim, put together: part 10. -/
import Derived.Test.YtobimpgapfecoaaFnPromisePack3
import Derived.Test.YtobimpgapfecoaaFnPromisePack1
import Derived.Deep.QuietTactic
import Derived.BigQuiet
import Derived.WalkSmall
/- Cuts that rise, one more. -/
namespace Go.Proofs.Ytobimpgapfecoaa
theorem rise_snoc {ts : List Int} {x : Int} (h : ∀ j, j < ts.length → cutAt ts j = true) (hl : ts.length = 0 ∨ ts.getD (ts.length - 1) 0 < x) (hx : -9999 ≤ x ∧ x ≤ 9998) :
    ∀ j, j < (ts ++ [x]).length → cutAt (ts ++ [x]) j = true := by
  intro j hj
  rw [List.length_append, List.length_singleton] at hj
  have gl : ∀ i, i < ts.length → (ts ++ [x]).getD i 0 = ts.getD i 0 := fun i hi => by
    simp [List.getD, List.getElem?_append_left hi]
  by_cases e : j < ts.length
  · have := h j e
    unfold cutAt at this ⊢
    rw [gl j e]
    by_cases e0 : j = 0
    · subst e0; simpa using this
    · rw [gl (j - 1) (by omega)]; exact this
  · obtain rfl : j = ts.length := by omega
    have hg : (ts ++ [x]).getD ts.length 0 = x := by simp [List.getD]
    unfold cutAt
    rw [hg]
    rw [decide_eq_true hx, Bool.true_and]
    rcases hl with hl | hl
    · rw [decide_eq_true hl]; rfl
    · by_cases e0 : ts.length = 0
      · rw [decide_eq_true e0]; rfl
      · rw [gl (ts.length - 1) (by omega), decide_eq_true hl, Bool.or_true]
end Go.Proofs.Ytobimpgapfecoaa
/- Draws of chapter 5 in plain words: which attributes and schemas are drawn. -/
namespace Go.Proofs.Ytobimpgapfecoaa
open Go.RowKit
def nmL : List ByteArray := [⟨#[97, 103, 101]⟩, ⟨#[115, 105, 122, 101]⟩, ⟨#[99, 111, 108, 111, 117, 114]⟩, ⟨#[107]⟩, ⟨#[108, 111, 110, 103, 110, 97, 109, 101]⟩]
def vlL : List ByteArray := [⟨#[114, 101, 100]⟩, ⟨#[98, 108, 117, 101]⟩, ⟨#[120]⟩, ⟨#[103, 114, 101, 101, 110]⟩]
/-- What is drawn is small. -/
structure tinyA (a : AttrD) : Prop where
  name : a.name.size ≤ 16
  cuts : a.cuts.length ≤ 4
  vals : a.vals.length ≤ 5
  each : ∀ s ∈ a.vals, s.size ≤ 16
  low : ∀ c ∈ a.cuts, -10000 ≤ c ∧ c ≤ 9999
structure tinyS (s : SchemaD) : Prop where
  attrs : s.attrs.length ≤ 6
  each : ∀ a ∈ s.attrs, tinyA a
  classes : s.classes.length ≤ 4
  sizes : ∀ t ∈ s.classes, t.size ≤ 16
theorem nm_ok : ∀ i, i < 5 → wordOk (nmL.getD i ByteArray.empty) = true ∧ (nmL.getD i ByteArray.empty).size ≤ 16 := by decide +kernel
theorem vl_ok : ∀ n, 2 ≤ n → n < 5 → choices (vlL.take n) 4 = true := by
  intro n h1 h2
  have h : n = 2 ∨ n = 3 ∨ n = 4 := by omega
  rcases h with rfl | rfl | rfl <;> decide +kernel
theorem vl_each : ∀ s ∈ vlL, s.size ≤ 16 := by decide +kernel
theorem right_cuts {i : Nat} {cs : List Int} (hi : i < 5) (h1 : 1 ≤ cs.length) (h3 : cs.length ≤ 3) (h : ∀ j, j < cs.length → cutAt cs j = true) : attrOk ⟨nmL.getD i ByteArray.empty, cs, []⟩ = true := by
  unfold attrOk
  rw [(nm_ok i hi).1]
  show (true && (if cs.length = 0 then choices [] 4 else decide (([] : List ByteArray).length = 0) && (decide (cs.length ≤ 3) && cutsRise cs))) = true
  rw [if_neg (by omega), decide_eq_true h3, rise_yes h]; rfl
theorem right_vals {i n : Nat} (hi : i < 5) (h1 : 2 ≤ n) (h3 : n < 5) : attrOk ⟨nmL.getD i ByteArray.empty, [], vlL.take n⟩ = true := by
  unfold attrOk
  rw [(nm_ok i hi).1]
  show (true && (if ([] : List Int).length = 0 then choices (vlL.take n) 4 else decide ((vlL.take n).length = 0) && (decide (([] : List Int).length ≤ 3) && cutsRise []))) = true
  rw [if_pos (show ([] : List Int).length = 0 from rfl), vl_ok n h1 h3]; rfl
theorem small_of_ok {a : AttrD} (h : attrOk a = true) : a.cuts.length ≤ 3 ∧ a.vals.length ≤ 4 := by
  unfold attrOk at h
  rw [Bool.and_eq_true] at h
  have h2 := h.2
  split at h2
  · unfold choices at h2
    rw [Bool.and_eq_true] at h2
    have := of_decide_eq_true h2.1
    omega
  · rw [Bool.and_eq_true, Bool.and_eq_true] at h2
    have h3 := of_decide_eq_true h2.1
    have h4 := of_decide_eq_true h2.2.1
    omega
theorem own_castD {w : World} {b e n n' : Nat} {v : Value} {xs ys : List Value} (h : w.ownsRow b e 1 v n xs) (hn : n = n') (hx : xs = ys) : w.ownsRow b e 1 v n' ys := by subst hn hx; exact h
end Go.Proofs.Ytobimpgapfecoaa
/- Draws: a cursor over the bytes of a code; whatever is drawn is one of what may be drawn. -/
namespace Go.Proofs.Ytobimpgapfecoaa
open Go.RowKit
set_option maxRecDepth 100000

/-- A cursor lies at the head of block g: over the slice a, at place i. -/
def IsCur (w : World) (g : Nat) (a : Option Addr) (len cap : Nat) : Prop :=
  ∃ (i : Nat) (h : Int), i ≤ len ∧ w.heap[g]? = some (.cells #[.slice a len cap, .int .i64 i, .int .i64 h] 117 (0, 0))

theorem and255 (y : Int) : 0 ≤ bits .and .i64 y 255 ∧ bits .and .i64 y 255 ≤ 255 := by
  have h1 : ((BitVec.ofInt 64 y) &&& (BitVec.ofInt 64 255)).toNat ≤ 255 := by
    rw [BitVec.toNat_and]
    exact Nat.le_trans Nat.and_le_right (by decide)
  have h2 : bits .and .i64 y 255 = IntKind.i64.wrap (((BitVec.ofInt 64 y) &&& (BitVec.ofInt 64 255)).toNat : Int) := rfl
  rw [h2, IntKind.wrap_i64]
  omega

theorem cur_cells {w : World} {g : Nat} {x y z : Value} {t : TypeId} (h : w.heap[g]? = some (.cells #[x, y, z] t (0, 0))) :
    w.cell? ⟨g, 0, none⟩ = some x ∧ w.cell? ⟨g, 1, none⟩ = some y ∧ w.cell? ⟨g, 2, none⟩ = some z ∧ (∀ j, w.frozen? ⟨g, j, none⟩ = false) := by
  refine ⟨?_, ?_, ?_, fun j => ?_⟩
  · simp [World.cell?, h]
  · simp [World.cell?, h]
  · simp [World.cell?, h]
  · simp [World.frozen?, h]

theorem cur_set2 {w : World} {g : Nat} {x y z : Value} {t : TypeId} (h : w.heap[g]? = some (.cells #[x, y, z] t (0, 0))) (v : Value) : (w.setCell ⟨g, 2, none⟩ v).heap[g]? = some (.cells #[x, y, v] t (0, 0)) :=
  heap_setCell_same w g 2 #[x, y, z] t v h
theorem cur_set1 {w : World} {g : Nat} {x y z : Value} {t : TypeId} (h : w.heap[g]? = some (.cells #[x, y, z] t (0, 0))) (v : Value) : (w.setCell ⟨g, 1, none⟩ v).heap[g]? = some (.cells #[x, v, z] t (0, 0)) :=
  heap_setCell_same w g 1 #[x, y, z] t v h
theorem grown_set (w : World) (g j : Nat) (u : Value) : w.grownBy (w.setCell ⟨g, j, none⟩ u) (some g) :=
  ⟨rfl, rfl, rfl, by simp, fun k _ hk => heap_setCell_other w ⟨g, j, none⟩ k u (fun e => hk (by simp [e]))⟩
theorem grown_drew {a w : World} {r : Option Nat} (h : a.grownBy w r) (n : Nat) : a.grownBy (w.drewN n) r := ⟨h.os, h.tape, h.output, h.size, h.block⟩
theorem grown_trans {a b c : World} {r : Option Nat} (h : a.grownBy b r) (k : b.grownBy c r) : a.grownBy c r :=
  ⟨k.os.trans h.os, k.tape.trans h.tape, k.output.trans h.output, Nat.le_trans h.size k.size, fun j hj hr => (k.block j (Nat.lt_of_lt_of_le hj h.size) hr).trans (h.block j hj hr)⟩
/-- The code's cells are not the cursor's. -/
theorem not_cur {w : World} {g b o : Nat} {x : Option Addr} {l c : Nat} {i h d : Int} {t : TypeId} (hb : w.heap[g]? = some (.cells #[.slice x l c, .int .i64 i, .int .i64 h] t (0, 0))) (hc : w.cell? ⟨b, o, none⟩ = some (.int .u8 d)) : ¬ b = g := by
  intro e
  subst e
  simp only [World.cell?, hb] at hc
  match o, hc with
  | 0, hc => simp at hc
  | 1, hc => simp at hc
  | 2, hc => simp at hc
  | n + 3, hc => simp at hc

set_option maxHeartbeats 1600000 in
theorem l1Byte_any (g : Nat) (a : Option Addr) (len cap : Nat) (zs : List Int) (w : World) (hc : IsCur w g a len cap) (hr : IsRow .u8 w a len cap zs) :
    Calls Try.prog 113 #[.pointer (some ⟨g, 0, none⟩)] w fun e w' => ∃ x : Int, e = .returned (.int .i64 x) ∧ 0 ≤ x ∧ x ≤ 255 ∧ IsCur w' g a len cap ∧ w.grownBy w' (some g) := by
  obtain ⟨i, h, hi, hb⟩ := hc
  obtain ⟨c0, c1, c2, hf⟩ := cur_cells hb
  have hf2 := hf 2
  have hf1 := hf 1
  have hle := hr.le
  have HB : Hid (w.heap[g]? = some (.cells #[.slice a len cap, .int .i64 i, .int .i64 h] 117 (0, 0))) := hb
  clear hf
  by_cases hlt : i < len
  · obtain ⟨b, o, rfl, hbl, hcs⟩ := hr.at (by omega)
    have hcell := hcs i hlt
    have hbd := hr.bytes i
    have hne := not_cur hb hcell
    generalize (zs.take len).getD i 0 = d at hcell hbd
    clear hcs hb hr
    go_enter Try.func113, Try.ntmps113
    go_wp2
    go_quiet (fail)
    all_goals go_wp2
    go_quiet (fail)
    all_goals go_wp2
    all_goals go_quiet (fail)
    all_goals go_wp2
    go_ret
    refine ⟨_, rfl, (and255 _).1, (and255 _).2, ⟨i + 1, wrap64 (wrap64 (h * 6364136223846793005) + 1442695040888963407), by omega, ?_⟩, ?_⟩
    · rw [show ((i + 1 : Nat) : Int) = (i : Int) + 1 by omega]
      exact cur_set1 (w := (w.setCell ⟨g, 2, none⟩ _).drewN _) (cur_set2 HB.out _) _
    · exact grown_trans (grown_drew (grown_set w g 2 _) _) (grown_set _ g 1 _)
  · clear hb hr
    go_enter Try.func113, Try.ntmps113
    go_wp2
    go_quiet (fail)
    all_goals go_wp2
    go_quiet (fail)
    all_goals go_wp2
    go_ret
    refine ⟨_, rfl, (and255 _).1, (and255 _).2, ⟨i, wrap64 (wrap64 (h * 6364136223846793005) + 1442695040888963407), by omega, ?_⟩, ?_⟩
    · exact cur_set2 HB.out _
    · exact grown_drew (grown_drew (grown_set w g 2 _) _) _

theorem grown_below {w w' : World} {g B : Nat} (h : w.grownBy w' (some g)) (hB : B ≤ g) (hs : B ≤ w.heap.size) : Below B w w' := (Below.refl _ _).grown h hs (fun k hk => by cases hk; exact hB)

theorem l1Below_any (g : Nat) (a : Option Addr) (len cap : Nat) (zs : List Int) (n : Nat) (w : World) (hc : IsCur w g a len cap) (hr : IsRow .u8 w a len cap zs) (h1 : 1 ≤ n) (h2 : n ≤ 256) :
    Calls Try.prog 91 #[.pointer (some ⟨g, 0, none⟩), .int .i64 (n : Int)] w fun e w' => ∃ x : Nat, e = .returned (.int .i64 (x : Int)) ∧ x < n ∧ IsCur w' g a len cap ∧ w.grownBy w' (some g) := by
  have hn0 : ¬ (n : Int) ≤ 0 := by omega
  have hn1 : ¬ (n : Int) = 0 := by omega
  go_enter Try.func91, Try.ntmps91
  go_wp2_with fail
  refine (l1Byte_any g a len cap zs w hc hr).mono ?_
  rintro e w1 ⟨x, rfl, x0, x1, hc1, hg1⟩
  obtain ⟨y, rfl⟩ := Int.eq_ofNat_of_zero_le x0
  clear hc hr
  go_wp2
  go_ret
  refine ⟨y % n, ?_, Nat.mod_lt _ (by omega), hc1, hg1⟩
  first | rfl | (congr 2; done) | simp

/-- The code is read as it was, the cursor aside. -/
theorem IsRow.aside {w w' : World} {g : Nat} {a : Option Addr} {len cap : Nat} {zs : List Int} (h : IsRow .u8 w a len cap zs) (hc : IsCur w g a len cap) (hg : w.grownBy w' (some g)) : IsRow .u8 w' a len cap zs := by
  obtain ⟨i, y, _, hb⟩ := hc
  rcases h with h | ⟨x, rfl, h1, h2, h3, hcell, hw⟩
  · exact .inl h
  · refine .inr ⟨x, rfl, h1, h2, h3, fun j hj => ?_, hw⟩
    have hx := hcell j hj
    obtain ⟨b, o, sp⟩ := x
    have hsp : sp = none := by
      have hx0 := World.cell?_spot (hcell 0 (by omega))
      simpa [Addr.add] using hx0
    subst hsp
    have e : (⟨b, o, none⟩ : Addr).add j = ⟨b, o + j, none⟩ := by cases j <;> simp [Addr.add]
    rw [e] at hx ⊢
    have hne := not_cur hb hx
    have hlt := lt_of_cell hx
    rw [← hx]
    exact World.cell?_of_block (w := w) (hg.block b hlt (by simp; exact hne))

theorem l1PickInt_any (g : Nat) (a : Option Addr) (len cap : Nat) (zs : List Int) (gl : Nat) (xs : List Int) (w : World) (hc : IsCur w g a len cap) (hr : IsRow .u8 w a len cap zs) (h1 : 1 ≤ xs.length) (h2 : xs.length ≤ 256) (hgl : ¬ gl = g)
    (hl : ∀ j, j < xs.length → w.cell? ⟨gl, j, none⟩ = some (.int .i64 (xs.getD j 0))) :
    Calls Try.prog 46 #[.pointer (some ⟨g, 0, none⟩), .slice (some ⟨gl, 0, none⟩) xs.length xs.length] w fun e w' => ∃ x : Int, e = .returned (.int .i64 x) ∧ x ∈ xs ∧ IsCur w' g a len cap ∧ w.grownBy w' (some g) := by
  have HL : Hid (∀ j, j < xs.length → w.cell? ⟨gl, j, none⟩ = some (.int .i64 (xs.getD j 0))) := hl
  clear hl
  go_enter Try.func46, Try.ntmps46
  go_wp2_with fail
  refine (l1Below_any g a len cap zs xs.length w hc hr h1 h2).mono ?_
  rintro e w1 ⟨x, rfl, hx, hc1, hg1⟩
  have hcell : w1.cell? ⟨gl, x, none⟩ = some (.int .i64 (xs.getD x 0)) := by
    have h0 := HL.out x hx
    rw [← h0]
    exact World.cell?_of_block (w := w) (hg1.block gl (lt_of_cell h0) (by simp; exact hgl))
  have hmem : xs.getD x 0 ∈ xs := by rw [List.getD_eq_getElem?_getD, List.getElem?_eq_getElem hx]; exact List.getElem_mem hx
  generalize xs.getD x 0 = r at hcell hmem
  clear hc hr
  go_wp2
  go_ret
  exact ⟨r, rfl, hmem, hc1, hg1⟩

theorem new_cur (w : World) (a : Option Addr) (len cap : Nat) (h : Int) : IsCur (w.alloc (.cells #[.slice a len cap, .int .i64 0, .int .i64 h] 117)) w.heap.size a len cap := by
  refine ⟨0, h, Nat.zero_le _, ?_⟩
  show (w.heap.push _)[w.heap.size]? = _
  simp

set_option maxRecDepth 100000 in
set_option maxHeartbeats 800000 in
theorem l1New_any (a : Option Addr) (len cap : Nat) (zs : List Int) (w : World) (hr : IsRow .u8 w a len cap zs) (hn : len ≤ 1048576) :
    Calls Try.prog 42 #[.slice a len cap] w fun e w' => e = .returned (.pointer (some ⟨w.heap.size, 0, none⟩)) ∧ IsCur w' w.heap.size a len cap ∧ Below w.heap.size w w' ∧ w'.heap.size = w.heap.size + 1 := by
  by_cases h0 : 0 < len
  · obtain ⟨b, o, rfl, hbl, hcs⟩ := hr.at h0
    have hbd := hr.bytes
    generalize zs.take len = xs at hcs hbd
    clear hr
    go_enter Try.func42, Try.ntmps42
    go_wp2
    go_loop [3, 4] (fun h i => ∃ (k : Nat) (y : Int), i = .int .i64 k ∧ h = .int .i64 y ∧ k ≤ len ∧ k ≤ 4000) (fun _ i => len - (intOf i).toNat)
    case atStart => exact ⟨0, _, rfl, rfl, by omega, by omega⟩
    case round =>
      obtain ⟨k, y, rfl, rfl, hk, hk4⟩ := hrel
      by_cases hlt : k < len ∧ k < 4000
      · obtain ⟨hlt, hl4⟩ := hlt
        have hcell := hcs k hlt
        have hb := hbd k
        generalize xs.getD k 0 = d at hcell hb
        clear hcs hbd
        go_wp2
        go_round
        case rel => exact ⟨k + 1, _, by go_num, rfl, by omega, by omega⟩
        case measure => simp [intOf]; omega
      · clear hcs hbd
        by_cases hk1 : k < len
        · have hk2 : ¬ k < 4000 := fun h => hlt ⟨hk1, h⟩
          clear hlt
          go_wp2
          go_ret
          exact ⟨rfl, new_cur w _ _ _ _, (Below.refl _ _).alloc (Nat.le_refl _) _, by simp⟩
        · clear hlt
          go_wp2
          go_ret
          exact ⟨rfl, new_cur w _ _ _ _, (Below.refl _ _).alloc (Nat.le_refl _) _, by simp⟩
  · obtain rfl : len = 0 := by omega
    clear hr
    go_enter Try.func42, Try.ntmps42
    go_wp2
    refine wp_loop_rounds 1 ?_
    rw [rounds_succ]
    go_wp2
    go_ret
    exact ⟨rfl, new_cur w _ _ _ _, (Below.refl _ _).alloc (Nat.le_refl _) _, by simp⟩
end Go.Proofs.Ytobimpgapfecoaa
/- Draws: one of a few numbers, one number below a bound. -/
namespace Go.Proofs.Ytobimpgapfecoaa
open Go.RowKit
set_option maxRecDepth 100000

theorem IsCur.alloc {w : World} {g : Nat} {a : Option Addr} {len cap : Nat} (h : IsCur w g a len cap) (o : Obj) : IsCur (w.alloc o) g a len cap := by
  obtain ⟨i, y, hi, hb⟩ := h
  have hlt : g < w.heap.size := by
    rcases Nat.lt_or_ge g w.heap.size with h3 | h3
    · exact h3
    · rw [Array.getElem?_eq_none h3] at hb; cases hb
  exact ⟨i, y, hi, (Below.heap_alloc w o g hlt).trans hb⟩
theorem new_ints (w : World) (xs : List Int) (e : TypeId) : ∀ j, j < xs.length → (w.alloc (.cells (xs.map (Value.int .i64)).toArray e)).cell? ⟨w.heap.size, j, none⟩ = some (.int .i64 (xs.getD j 0)) := by
  intro j hj
  rw [World.cell?_alloc_at _ _ _ _ rfl]
  simp [hj]
theorem IsCur.lt {w : World} {g : Nat} {a : Option Addr} {len cap : Nat} (h : IsCur w g a len cap) : g < w.heap.size := by
  obtain ⟨i, y, hi, hb⟩ := h
  rcases Nat.lt_or_ge g w.heap.size with h3 | h3
  · exact h3
  · rw [Array.getElem?_eq_none h3] at hb; cases hb

/-- One of a few numbers, picked out of a list that was just laid. -/
theorem pick_new (xs : List Int) (g : Nat) (a : Option Addr) (len cap : Nat) (zs : List Int) (w : World) (hc : IsCur w g a len cap) (hr : IsRow .u8 w a len cap zs) (h1 : 1 ≤ xs.length) (h2 : xs.length ≤ 256) :
    Calls Try.prog 46 #[.pointer (some ⟨g, 0, none⟩), .slice (some ⟨w.heap.size, 0, none⟩) xs.length xs.length] (w.alloc (.cells (xs.map (Value.int .i64)).toArray 3)) fun e w' =>
      ∃ x : Int, e = .returned (.int .i64 x) ∧ x ∈ xs ∧ IsCur w' g a len cap ∧ IsRow .u8 w' a len cap zs ∧ Below g w w' := by
  have hlt := hc.lt
  have hb : Below w.heap.size w (w.alloc (.cells (xs.map (Value.int .i64)).toArray 3)) := (Below.refl _ _).alloc (Nat.le_refl _) _
  refine (l1PickInt_any g a len cap zs w.heap.size xs _ (hc.alloc _) (hr.later hb) h1 h2 (by omega) (new_ints w xs 3)).mono ?_
  rintro e w' ⟨x, rfl, hx, hc', hg⟩
  exact ⟨x, rfl, hx, hc', (hr.later hb).aside (hc.alloc _) hg, (hb.mono (by omega)).trans (grown_below hg (Nat.le_refl _) (by simp; omega))⟩

/-- One below whatever bound. -/
theorem l1BelowBig_any (g : Nat) (a : Option Addr) (len cap : Nat) (zs : List Int) (n : Nat) (w : World) (hc : IsCur w g a len cap) (hr : IsRow .u8 w a len cap zs) (h1 : 256 < n) (h2 : n ≤ 2147483648) :
    Calls Try.prog 91 #[.pointer (some ⟨g, 0, none⟩), .int .i64 (n : Int)] w fun e w' => ∃ x : Nat, e = .returned (.int .i64 (x : Int)) ∧ x < n ∧ IsCur w' g a len cap ∧ w.grownBy w' (some g) := by
  have hn0 : ¬ (n : Int) ≤ 0 := by omega
  have hn1 : ¬ (n : Int) = 0 := by omega
  have hn2 : ¬ (n : Int) ≤ 256 := by omega
  go_enter Try.func91, Try.ntmps91
  go_wp2_with fail
  refine (l1Byte_any g a len cap zs w hc hr).mono ?_
  rintro e w1 ⟨x1, rfl, x10, x11, hc1, hg1⟩
  have hr1 := hr.aside hc hg1
  go_wp2_with fail
  refine (l1Byte_any g a len cap zs w1 hc1 hr1).mono ?_
  rintro e w2 ⟨x2, rfl, x20, x21, hc2, hg2⟩
  have hr2 := hr1.aside hc1 hg2
  go_wp2_with fail
  refine (l1Byte_any g a len cap zs w2 hc2 hr2).mono ?_
  rintro e w3 ⟨x3, rfl, x30, x31, hc3, hg3⟩
  have hr3 := hr2.aside hc2 hg3
  go_wp2_with fail
  refine (l1Byte_any g a len cap zs w3 hc3 hr3).mono ?_
  rintro e w4 ⟨x4, rfl, x40, x41, hc4, hg4⟩
  obtain ⟨y1, rfl⟩ := Int.eq_ofNat_of_zero_le x10
  obtain ⟨y2, rfl⟩ := Int.eq_ofNat_of_zero_le x20
  obtain ⟨y3, rfl⟩ := Int.eq_ofNat_of_zero_le x30
  obtain ⟨y4, rfl⟩ := Int.eq_ofNat_of_zero_le x40
  have hg := grown_trans hg1 (grown_trans hg2 (grown_trans hg3 hg4))
  clear hc hr hc1 hr1 hc2 hr2 hc3 hr3 hg1 hg2 hg3 hg4 x10 x20 x30 x40
  go_wp2
  go_ret
  refine ⟨(y1 * 16777216 + y2 * 65536 + y3 * 256 + y4) % n, ?_, Nat.mod_lt _ (by omega), hc4, hg⟩
  have e : ((y1 : Int) * 16777216 + y2 * 65536 + y3 * 256 + y4) % n = (((y1 * 16777216 + y2 * 65536 + y3 * 256 + y4) % n : Nat) : Int) := by
    rw [show (y1 : Int) * 16777216 + y2 * 65536 + y3 * 256 + y4 = ((y1 * 16777216 + y2 * 65536 + y3 * 256 + y4 : Nat) : Int) by omega]
    exact (Int.natCast_emod _ _).symm
  rw [← e]
  rfl
end Go.Proofs.Ytobimpgapfecoaa
