/- Texts of this claim, put together: part 5. -/
import Derived.Test.YtfflodcapcamcaaDoorFnCandidatesPack3
import Derived.Laws.AppendOwnNone
import Derived.Test.YtfflodcapcamcaaDoorFnCandidatesPack2
import Derived.Test.YtfflodcapcamcaaDoorFnCandidatesPack4
/- Lists of integers of the call's own: the empty one; what is appended of a row. -/
namespace Go.Proofs.YtfflodcapcamcaaDoor
open Go.RowKit
set_option maxRecDepth 100000
theorem ownI_lit0 (w : World) (b : Nat) (hb : b ≤ w.heap.size) : (w.alloc (.cells #[] 3)).ownsRow b 3 1 (.slice (some ⟨w.heap.size, 0, none⟩) 0 0) 0 [] :=
  World.ownsRow_lit (base := b) (e := 3) (size := 1) w #[] 0 hb (by decide) rfl

theorem row_news {w : World} {g o k : Nat} {zs : List Int} (h : ∀ j, j < zs.length → w.cell? ⟨g, o + j, none⟩ = some (.int .i64 (zs.getD j 0))) : ∀ (j : Nat) (u : Value), ((zs.take k).map (Value.int .i64))[j]? = some u → w.cell? ((⟨g, o, none⟩ : Addr).add j) = some u := by
  intro j u hj
  have hlt : j < (zs.take k).length := by
    rcases Nat.lt_or_ge j (zs.take k).length with h1 | h1
    · exact h1
    · rw [List.getElem?_eq_none (by simp at h1 ⊢; omega)] at hj; cases hj
  have hlt2 : j < zs.length ∧ j < k := by simp at hlt; omega
  have e : (⟨g, o, none⟩ : Addr).add j = ⟨g, o + j, none⟩ := by unfold Addr.add; split <;> simp_all
  rw [e, h j hlt2.1]
  rw [getD_mapI _ _ hlt] at hj
  rw [← hj]
  congr 2
  rw [List.getD_eq_getElem?_getD, List.getD_eq_getElem?_getD, List.getElem?_take_of_lt hlt2.2]
/-- What the answer is: a list of the call's own. -/
def OwnI (w w' : World) (v : Value) (zs : List Int) : Prop := w'.ownsRow w.heap.size 3 1 v zs.length (zs.map (Value.int .i64)) ∧ Below w.heap.size w w'
end Go.Proofs.YtfflodcapcamcaaDoor
/- Draws of chapter 9: places of attributes, right or not. -/
namespace Go.Proofs.YtfflodcapcamcaaDoor
open Go.RowKit
set_option maxRecDepth 100000
set_option linter.unusedSimpArgs false
theorem own_slice9a {w : World} {b e s n : Nat} {v : Value} {xs : List Value} (h : w.ownsRow b e s v n xs) : ∃ a c, v = .slice a n c := by
  rcases h.2 with ⟨rfl, h0⟩ | ⟨g, cap, cur, hv, _⟩
  · exact ⟨none, 0, by rw [h0]⟩
  · exact ⟨_, _, hv⟩
set_option maxHeartbeats 3200000 in
theorem rightAttrs_any (g : Nat) (a : Option Addr) (len cap : Nat) (zs : List Int) (vs : Value) (s : SchemaD) (w : World) (hc : IsCur w g a len cap) (hr : IsRow .u8 w a len cap zs) (hs : SchemaAt w vs s) (h6 : s.attrs.length ≤ 6) :
    Calls Tryd.prog 38 #[.pointer (some ⟨g, 0, none⟩), vs] w fun e w' => ∃ v, ∃ ys : List Int, e = .returned v ∧ ys.length ≤ 6 ∧ w'.ownsRow (w.heap.size + 1) 3 1 v ys.length (ys.map (Value.int .i64)) ∧ IsCur w' g a len cap ∧ w.grownBy w' (some g) := by
  obtain ⟨i0, hi0, hz0, hz1, hz2⟩ := info_parts intInfo
  have hgw := hc.lt
  have HR : Hid (∀ W, w.grownBy W (some g) → IsRow .u8 W a len cap zs) := fun W h => hr.aside hc h
  obtain ⟨va, vc, rfl, ra, -⟩ := hs
  obtain ⟨oa, ka, rfl, -, -⟩ := id ra
  clear ra hr
  obtain ⟨KS, B⟩ := blk_1 27 w #[.slice oa s.attrs.length ka, vc]
  have KL : Blk 27 ((w.alloc (.cells #[.slice oa s.attrs.length ka, vc] 27)).alloc (.cells #[] 3)) w.heap.size #[.slice oa s.attrs.length ka, vc] := KS.alloc _
  have hown0 := ownI_lit0 (w.alloc (.cells #[.slice oa s.attrs.length ka, vc] 27)) (w.heap.size + 1) (by simp)
  have hown : ((w.alloc (.cells #[.slice oa s.attrs.length ka, vc] 27)).alloc (.cells #[] 3)).ownsRow (w.heap.size + 1) 3 1 (.slice (some ⟨w.heap.size + 1, 0, none⟩) 0 0) 0 [] := by rw [World.size_alloc] at hown0; exact hown0
  have gr : w.grownBy ((w.alloc (.cells #[.slice oa s.attrs.length ka, vc] 27)).alloc (.cells #[] 3)) (some g) := grown_trans (grown_alloc _ _ _) (grown_alloc _ _ _)
  have cu := (hc.alloc (.cells #[.slice oa s.attrs.length ka, vc] 27)).alloc (.cells #[] 3)
  have kS0 : ((w.alloc (.cells #[.slice oa s.attrs.length ka, vc] 27)).alloc (.cells #[] 3)).cell? ⟨w.heap.size, 0, none⟩ = some (.slice oa s.attrs.length ka) := KL.cell 0
  have hsz : w.heap.size + 1 ≤ ((w.alloc (.cells #[.slice oa s.attrs.length ka, vc] 27)).alloc (.cells #[] 3)).heap.size := by simp
  clear hc KS B hown0
  go_enter Tryd.func38, Tryd.ntmps38
  go_wp2
  generalize (w.alloc (.cells #[.slice oa s.attrs.length ka, vc] 27)).alloc (.cells #[] 3) = W0 at KL hown gr cu kS0 hsz ⊢
  go_loopw [5, 6] (fun v i wr => ∃ (k : Nat) (ys : List Int), i = .int .i64 k ∧ k ≤ s.attrs.length ∧ ys.length ≤ k ∧ wr.ownsRow (w.heap.size + 1) 3 1 v ys.length (ys.map (Value.int .i64)) ∧ Hid (Blk 27 wr w.heap.size #[.slice oa s.attrs.length ka, vc]) ∧ Hid (IsCur wr g a len cap) ∧ w.grownBy wr (some g) ∧ w.heap.size + 1 ≤ wr.heap.size) (fun _ i _ => s.attrs.length - (intOf i).toNat)
  case atStart => exact ⟨0, [], rfl, by omega, by simp, hown, KL, cu, gr, hsz⟩
  case round =>
    clear hown KL cu gr kS0 hsz
    obtain ⟨k, ys, rfl, hk, hyl, hown, HKS, HCU, gr, hsz⟩ := hrel
    have kS0 : wr.cell? ⟨w.heap.size, 0, none⟩ = some (.slice oa s.attrs.length ka) := HKS.out.cell 0
    by_cases hlt : k < s.attrs.length
    · have cc := once_any g a len cap zs 4 wr HCU.out (HR.out _ gr) (by omega) (by omega)
      have KS := HKS.out
      clear HKS HCU
      go_wp2_with fail
      refine cc.mono ?_
      clear cc kS0
      rintro e w2 ⟨q, rfl, cu, h2⟩
      replace hown := own_cur hown (by omega) h2
      replace KS := KS.kept h2 (by intro e; injection e; omega)
      replace gr := grown_trans gr h2
      have hs2 := h2.size
      clear h2
      cases q with
      | true =>
        go_wp2
        go_roundw
        case rel => exact ⟨k + 1, ys, by go_num, by omega, by omega, hown, KS, cu, gr, by omega⟩
        case measure => simp [intOf]; omega
      | false =>
        go_wp2_with (at_builtin; refine wpList_append_own _ rfl _ _ 28 rfl (w.heap.size + 1) 3 i0 (.int .i64 0) 1 8 Tryd.underlying28 hi0 hz0 hz1 hz2 rfl (by decide) _ _ _ rfl (hown.alloc _) ⟨w2.heap.size, 0, none⟩ 1 1 [_] rfl rfl (newc _ _ _) (ints_oneCell .i64 [_]) (by unfold maxLen; omega) (by omega) (by simp; omega) ?_)
        intro v' w5 ho hg hnil
        have hob := hown.lt
        replace gr := grown_own (grown_trans gr (grown_alloc _ _ _)) hg (fun j hj => by have := (hob j hj).1; omega)
        replace cu := (cu.alloc _).kept hg (fun e => by have := (hob g e).1; omega)
        have hs5 := hg.size
        rw [World.size_alloc] at hs5
        replace KS := (KS.alloc _).kept hg (fun e => by have := (hob _ e).1; omega)
        clear hg hnil hob hown
        go_wp2
        go_roundw
        case rel =>
          refine ⟨k + 1, ys ++ [(k : Int)], by go_num, by omega, by simp; omega, ?_, KS, cu, gr, by omega⟩
          rw [List.length_append, List.map_append]
          exact ho
        case measure => simp [intOf]; omega
    · obtain rfl : k = s.attrs.length := by omega
      obtain ⟨ov, kv, rfl⟩ := own_slice9a hown
      have cu := HCU.out
      clear HKS HCU
      by_cases h0 : ys.length = 0
      · have hq : ((ys.length : Int) == 0) = true := by rw [h0]; rfl
        have ho : (wr.alloc (.cells #[.int .i64 0] 3)).ownsRow (w.heap.size + 1) 3 1 (.slice (some ⟨wr.heap.size, 0, none⟩) 1 1) 1 [.int .i64 0] := World.ownsRow_lit wr #[.int .i64 0] 1 hsz (by unfold maxLen; omega) rfl
        go_wp2
        go_ret
        exact ⟨_, [0], rfl, by simp, ho, cu.alloc _, grown_trans gr (grown_alloc _ _ _)⟩
      · have hq : ((ys.length : Int) == 0) = false := by rw [beq_eq_false_iff_ne]; omega
        go_wp2
        go_ret
        exact ⟨_, ys, rfl, by omega, hown, cu, gr⟩
set_option maxHeartbeats 3200000 in
theorem attrs9_any (g : Nat) (a : Option Addr) (len cap : Nat) (zs : List Int) (vs : Value) (s : SchemaD) (w : World) (hc : IsCur w g a len cap) (hr : IsRow .u8 w a len cap zs) (hs : SchemaAt w vs s) (h6 : s.attrs.length ≤ 6) :
    Calls Tryd.prog 26 #[.pointer (some ⟨g, 0, none⟩), vs] w fun e w' => ∃ v, ∃ ys : List Int, e = .returned v ∧ ys.length ≤ 7 ∧ w'.ownsRow (w.heap.size + 1) 3 1 v ys.length (ys.map (Value.int .i64)) ∧ IsCur w' g a len cap ∧ w.grownBy w' (some g) := by
  obtain ⟨i0, hi0, hz0, hz1, hz2⟩ := info_parts intInfo
  have hgw := hc.lt
  have HR : Hid (∀ W, w.grownBy W (some g) → IsRow .u8 W a len cap zs) := fun W h => hr.aside hc h
  have HS : Hid (∀ W, Below w.heap.size w W → SchemaAt W vs s) := fun W h => hs.later h
  obtain ⟨va, vc, rfl, -, -⟩ := hs
  obtain ⟨KS, B⟩ := blk_1 27 w #[va, vc]
  have gr : w.grownBy (w.alloc (.cells #[va, vc] 27)) (some g) := grown_alloc _ _ _
  have cc := rightAttrs_any g a len cap zs _ s _ (hc.alloc (.cells #[va, vc] 27)) (HR.out _ gr) (HS.out _ B) h6
  have kS0 := KS.cell 0
  have kS1 := KS.cell 1
  simp only [List.getElem?_toArray, List.getElem?_cons_zero, List.getElem?_cons_succ] at kS0 kS1
  rw [World.size_alloc] at cc
  clear hc hr KS B HS
  go_enter Tryd.func26, Tryd.ntmps26
  go_wp2_with fail
  refine cc.mono ?_
  clear cc kS0 kS1
  have hz9 : (w.alloc (.cells #[va, vc] 27)).heap.size = w.heap.size + 1 := by simp
  generalize w.alloc (.cells #[va, vc] 27) = W0 at gr hz9
  rintro e w1 ⟨v, ys, rfl, hyl, hown, cu, h1⟩
  have hw1 := h1.size
  replace gr := grown_trans gr h1
  have hsw := gr.size
  replace hown := own_base hown (b' := w.heap.size + 1) (by omega)
  obtain ⟨ov, kv, rfl⟩ := own_slice9a hown
  have hwz := gr.size
  have hoz := hown.lt
  clear h1
  have cc := l1Below_any g a len cap zs 10 w1 cu (HR.out _ gr) (by decide) (by decide)
  go_wp2_with fail
  refine cc.mono ?_
  clear cc cu
  rintro e w2 ⟨x, rfl, hx, cu, h2⟩
  have hw2 := h2.size
  replace gr := grown_trans gr h2
  replace hown := own_cur hown (by omega) h2
  clear h2 hoz hwz
  have hwz := gr.size
  by_cases h0 : x = 0
  · subst h0
    have e3 := pickN [0, 5, 4, -1] g a len cap zs w2 cu (HR.out _ gr) (by decide) (by decide)
    simp only [List.map_cons, List.map_nil, List.length_cons, List.length_nil, Nat.zero_add, Nat.reduceAdd] at e3
    go_wp2_with fail
    refine e3.mono ?_
    clear e3 cu
    rintro e w3 ⟨z, rfl, -, cu, h3⟩
    replace gr := grown_trans gr h3
    replace hown := own_cur hown (by omega) h3
    have hw3 := h3.size
    clear h3
    go_wp2_with (at_builtin; refine wpList_append_own _ rfl _ _ 28 rfl (w.heap.size + 1) 3 i0 (.int .i64 0) 1 8 Tryd.underlying28 hi0 hz0 hz1 hz2 rfl (by decide) _ _ _ rfl (hown.alloc _) ⟨w3.heap.size, 0, none⟩ 1 1 [_] rfl rfl (newc _ _ _) (ints_oneCell .i64 [_]) (by unfold maxLen; omega) (by omega) (by have := hown.lt; simp; omega) ?_)
    intro v' w5 ho hg hnil
    have hob := hown.lt
    replace gr := grown_own (grown_trans gr (grown_alloc _ _ _)) hg (fun j hj => by have := (hob j hj).1; omega)
    replace cu := (cu.alloc _).kept hg (fun e => by have := (hob g e).1; omega)
    have hs5 := hg.size
    rw [World.size_alloc] at hs5
    go_wp2
    go_ret
    refine ⟨_, ys ++ [z], rfl, by simp; omega, ?_, cu, gr⟩
    rw [List.length_append, List.map_append]
    exact ho
  by_cases h1 : x = 1
  · subst h1
    have ho := ownI_lit0 w2 (w.heap.size + 1) (by omega)
    go_wp2
    go_ret
    exact ⟨_, [], rfl, by simp, ho, cu.alloc _, grown_trans gr (grown_alloc _ _ _)⟩
  · have b0 : ((x : Int) == 0) = false := by simp; omega
    have b1 : ((x : Int) == 1) = false := by simp; omega
    go_wp2
    go_ret
    exact ⟨_, ys, rfl, by omega, hown, cu, gr⟩
end Go.Proofs.YtfflodcapcamcaaDoor
/- Cuts that rise, one more. -/
namespace Go.Proofs.YtfflodcapcamcaaDoor
theorem rise_snoc {ts : List Int} {x : Int} (h : ∀ j, j < ts.length → cutAt ts j = true) (hl : ts.length = 0 ∨ ts.getD (ts.length - 1) 0 < x) (hx : -9999 ≤ x ∧ x ≤ 9998) :
    ∀ j, j < (ts ++ [x]).length → cutAt (ts ++ [x]) j = true := by
  intro j hj
  rw [List.length_append, List.length_singleton] at hj
  have gl : ∀ i, i < ts.length → (ts ++ [x]).getD i 0 = ts.getD i 0 := fun i hi => by
    simp [List.getD, List.getElem?_append_left hi]
  by_cases e : j < ts.length
  · have := h j e
    unfold cutAt at this ⊢
    rw [gl j e]
    by_cases e0 : j = 0
    · subst e0; simpa using this
    · rw [gl (j - 1) (by omega)]; exact this
  · obtain rfl : j = ts.length := by omega
    have hg : (ts ++ [x]).getD ts.length 0 = x := by simp [List.getD]
    unfold cutAt
    rw [hg]
    rw [decide_eq_true hx, Bool.true_and]
    rcases hl with hl | hl
    · rw [decide_eq_true hl]; rfl
    · by_cases e0 : ts.length = 0
      · rw [decide_eq_true e0]; rfl
      · rw [gl (ts.length - 1) (by omega), decide_eq_true hl, Bool.or_true]
end Go.Proofs.YtfflodcapcamcaaDoor
/- Draws of chapter 5 in plain words: which attributes and schemas are drawn. -/
namespace Go.Proofs.YtfflodcapcamcaaDoor
open Go.RowKit
def nmL : List ByteArray := [⟨#[97, 103, 101]⟩, ⟨#[115, 105, 122, 101]⟩, ⟨#[99, 111, 108, 111, 117, 114]⟩, ⟨#[107]⟩, ⟨#[108, 111, 110, 103, 110, 97, 109, 101]⟩]
def vlL : List ByteArray := [⟨#[114, 101, 100]⟩, ⟨#[98, 108, 117, 101]⟩, ⟨#[120]⟩, ⟨#[103, 114, 101, 101, 110]⟩]
/-- What is drawn is small. -/
structure tinyA (a : AttrD) : Prop where
  name : a.name.size ≤ 16
  cuts : a.cuts.length ≤ 4
  vals : a.vals.length ≤ 5
  each : ∀ s ∈ a.vals, s.size ≤ 16
  low : ∀ c ∈ a.cuts, -10000 ≤ c ∧ c ≤ 9999
structure tinyS (s : SchemaD) : Prop where
  attrs : s.attrs.length ≤ 6
  each : ∀ a ∈ s.attrs, tinyA a
  classes : s.classes.length ≤ 4
  sizes : ∀ t ∈ s.classes, t.size ≤ 16
theorem nm_ok : ∀ i, i < 5 → wordOk (nmL.getD i ByteArray.empty) = true ∧ (nmL.getD i ByteArray.empty).size ≤ 16 := by decide +kernel
theorem vl_ok : ∀ n, 2 ≤ n → n < 5 → choices (vlL.take n) 4 = true := by
  intro n h1 h2
  have h : n = 2 ∨ n = 3 ∨ n = 4 := by omega
  rcases h with rfl | rfl | rfl <;> decide +kernel
theorem vl_each : ∀ s ∈ vlL, s.size ≤ 16 := by decide +kernel
theorem right_cuts {i : Nat} {cs : List Int} (hi : i < 5) (h1 : 1 ≤ cs.length) (h3 : cs.length ≤ 3) (h : ∀ j, j < cs.length → cutAt cs j = true) : attrOk ⟨nmL.getD i ByteArray.empty, cs, []⟩ = true := by
  unfold attrOk
  rw [(nm_ok i hi).1]
  show (true && (if cs.length = 0 then choices [] 4 else decide (([] : List ByteArray).length = 0) && (decide (cs.length ≤ 3) && cutsRise cs))) = true
  rw [if_neg (by omega), decide_eq_true h3, rise_yes h]; rfl
theorem right_vals {i n : Nat} (hi : i < 5) (h1 : 2 ≤ n) (h3 : n < 5) : attrOk ⟨nmL.getD i ByteArray.empty, [], vlL.take n⟩ = true := by
  unfold attrOk
  rw [(nm_ok i hi).1]
  show (true && (if ([] : List Int).length = 0 then choices (vlL.take n) 4 else decide ((vlL.take n).length = 0) && (decide (([] : List Int).length ≤ 3) && cutsRise []))) = true
  rw [if_pos (show ([] : List Int).length = 0 from rfl), vl_ok n h1 h3]; rfl
theorem small_of_ok {a : AttrD} (h : attrOk a = true) : a.cuts.length ≤ 3 ∧ a.vals.length ≤ 4 := by
  unfold attrOk at h
  rw [Bool.and_eq_true] at h
  have h2 := h.2
  split at h2
  · unfold choices at h2
    rw [Bool.and_eq_true] at h2
    have := of_decide_eq_true h2.1
    omega
  · rw [Bool.and_eq_true, Bool.and_eq_true] at h2
    have h3 := of_decide_eq_true h2.1
    have h4 := of_decide_eq_true h2.2.1
    omega
theorem own_castD {w : World} {b e n n' : Nat} {v : Value} {xs ys : List Value} (h : w.ownsRow b e 1 v n xs) (hn : n = n') (hx : xs = ys) : w.ownsRow b e 1 v n' ys := by subst hn hx; exact h
end Go.Proofs.YtfflodcapcamcaaDoor
