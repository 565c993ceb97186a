/- Texts of this claim, put together: part 13. -/
import Derived.Deep.RegionLaw
import Derived.Test.YtobimpgapfecoaaFnAnyOrderPack12
import Derived.Lib.ItoaNum
import Derived.Lib.Atoi
import Derived.Lib.AtoiAll
/- Draws of chapter 5: an attribute, right or not. -/
namespace Go.Proofs.Ytobimpgapfecoaa
open Go.RowKit
set_option maxRecDepth 100000
theorem pickS (xs : List ByteArray) (g : Nat) (a : Option Addr) (len cap : Nat) (zs : List Int) (w : World) (hc : IsCur w g a len cap) (hr : IsRow .u8 w a len cap zs) (h1 : 1 ≤ xs.length) (h2 : xs.length ≤ 256) :
    Calls Try.prog 93 #[.pointer (some ⟨g, 0, none⟩), .slice (some ⟨w.heap.size, 0, none⟩) xs.length xs.length] (w.alloc (.cells (xs.map Value.string).toArray 9)) fun e w' =>
      ∃ x : ByteArray, e = .returned (.string x) ∧ x ∈ xs ∧ IsCur w' g a len cap ∧ w.grownBy w' (some g) := by
  have hlt := hc.lt
  have hb : Below w.heap.size w (w.alloc (.cells (xs.map Value.string).toArray 9)) := (Below.refl _ _).alloc (Nat.le_refl _) _
  refine (l1Pick_any g a len cap zs w.heap.size xs _ (hc.alloc _) (hr.later hb) h1 h2 (by omega) (new_texts w xs 9)).mono ?_
  rintro e w' ⟨x, rfl, hx, hc', hg⟩
  exact ⟨x, rfl, hx, hc', grown_trans (grown_alloc w _ _) hg⟩
theorem ownI_nilD (w : World) (b : Nat) (hb : b ≤ w.heap.size) : (w.alloc (.cells #[] 3)).ownsRow b 3 1 (.slice (some ⟨w.heap.size, 0, none⟩) 0 0) 0 [] := ownI_lit0 w b hb
theorem ownS_lit0D (w : World) (b : Nat) (hb : b ≤ w.heap.size) : (w.alloc (.cells #[] 9)).ownsRow b 9 1 (.slice (some ⟨w.heap.size, 0, none⟩) 0 0) 0 [] :=
  World.ownsRow_lit (base := b) (e := 9) (size := 1) w #[] 0 hb (by decide) rfl
theorem ownI_lit1D (w : World) (b : Nat) (z : Int) (hb : b ≤ w.heap.size) : (w.alloc (.cells #[.int .i64 z] 3)).ownsRow b 3 1 (.slice (some ⟨w.heap.size, 0, none⟩) 1 1) 1 [.int .i64 z] :=
  World.ownsRow_lit (base := b) (e := 3) (size := 1) w #[.int .i64 z] 1 hb (by decide) rfl
set_option maxHeartbeats 6400000 in
theorem drawAttr_any (g : Nat) (a : Option Addr) (len cap : Nat) (zs : List Int) (w : World) (hc : IsCur w g a len cap) (hr : IsRow .u8 w a len cap zs) :
    Calls Try.prog 92 #[.pointer (some ⟨g, 0, none⟩)] w fun e w' => ∃ v d, e = .returned v ∧ OwnA w.heap.size w' v d ∧ tinyA d ∧ IsCur w' g a len cap ∧ w.grownBy w' (some g) := by
  have hgw : g < w.heap.size := hc.lt
  have HR : Hid (∀ w', w.grownBy w' (some g) → IsRow .u8 w' a len cap zs) := fun w' h => hr.aside hc h
  obtain ⟨i0, hi, hi0, hi1, hi2⟩ := info_parts strInfo
  obtain ⟨j0, hj, hj0, hj1, hj2⟩ := info_parts intInfo
  have c1 := hc.alloc (.cells #[.string ⟨#[]⟩, .slice none 0 0, .slice none 0 0] 55)
  have g1 : w.grownBy (w.alloc (.cells #[.string ⟨#[]⟩, .slice none 0 0, .slice none 0 0] 55)) (some g) := grown_alloc w _ _
  have R1 := Blk.new 55 w #[.string ⟨#[]⟩, .slice none 0 0, .slice none 0 0]
  have hs1 : w.heap.size + 1 ≤ (w.alloc (.cells #[.string ⟨#[]⟩, .slice none 0 0, .slice none 0 0] 55)).heap.size := by simp
  clear hc hr
  have e1 := l1Below_any g a len cap zs 5 _ c1 (HR.out _ g1) (by decide) (by decide)
  go_enter Try.func92, Try.ntmps92
  go_wp2_with fail
  refine e1.mono ?_
  clear e1
  rintro e w2 ⟨x, rfl, hx, c2, h2⟩
  have g2 := grown_trans g1 h2
  have R2 := R1.kept h2 (by intro e; cases e; omega)
  have hs2 : w.heap.size + 1 ≤ w2.heap.size := Nat.le_trans hs1 h2.size
  clear h2 g1 c1 R1 hs1
  have e1 := rightAttr_any g a len cap zs x w2 c2 (HR.out _ g2) hx
  go_wp2_with fail
  refine e1.mono ?_
  clear e1
  rintro e w3 ⟨v1, d1, rfl, ⟨v2, v3, rfl, q1, q2⟩, hnm, hok, htn, c3, h3⟩
  have HSM : Hid (d1.cuts.length ≤ 3 ∧ d1.vals.length ≤ 4) := small_of_ok hok
  clear hnm hok
  obtain ⟨oc1, kc1, rfl⟩ := own_slice q1
  obtain ⟨oc2, kc2, rfl⟩ := own_slice q2
  have g3 := grown_trans g2 h3
  have R3 := R2.kept h3 (by intro e; cases e; omega)
  have hs3 : w.heap.size + 1 ≤ w3.heap.size := Nat.le_trans hs2 h3.size
  have q1 := own_base q1 hs2
  have q2 := own_base q2 hs2
  clear h3 g2 c2 R2
  -- the attribute's own block
  have Az : Blk 55 (w3.alloc (.cells #[.string ⟨#[]⟩, .slice none 0 0, .slice none 0 0] 55)) w3.heap.size #[.string ⟨#[]⟩, .slice none 0 0, .slice none 0 0] := Blk.new _ _ _
  have A4 := Az.setRow #[.string d1.name, .slice oc1 d1.cuts.length kc1, .slice oc2 d1.vals.length kc2]
  have R4 := (R3.alloc (.cells #[.string ⟨#[]⟩, .slice none 0 0, .slice none 0 0] 55)).setRow_other #[.string d1.name, .slice oc1 d1.cuts.length kc1, .slice oc2 d1.vals.length kc2] (show w.heap.size ≠ w3.heap.size by omega)
  have c4 := (c3.alloc (.cells #[.string ⟨#[]⟩, .slice none 0 0, .slice none 0 0] 55)).rowW #[.string d1.name, .slice oc1 d1.cuts.length kc1, .slice oc2 d1.vals.length kc2] (show g ≠ w3.heap.size by omega)
  have g4 := grown_row (grown_trans g3 (grown_alloc w3 (.cells #[.string ⟨#[]⟩, .slice none 0 0, .slice none 0 0] 55) _)) (show w.heap.size ≤ w3.heap.size by omega) #[.string d1.name, .slice oc1 d1.cuts.length kc1, .slice oc2 d1.vals.length kc2]
  have o4 := own_setRowN (q1.alloc (.cells #[.string ⟨#[]⟩, .slice none 0 0, .slice none 0 0] 55)) w3.heap.size #[.string d1.name, .slice oc1 d1.cuts.length kc1, .slice oc2 d1.vals.length kc2] (fun e => by have := (q1.lt _ e).2; omega)
  have p4 := own_setRowN (q2.alloc (.cells #[.string ⟨#[]⟩, .slice none 0 0, .slice none 0 0] 55)) w3.heap.size #[.string d1.name, .slice oc1 d1.cuts.length kc1, .slice oc2 d1.vals.length kc2] (fun e => by have := (q2.lt _ e).2; omega)
  clear q1 q2 R3 c3 g3
  go_wp2_with (with_reducible refine wp_at_store rfl _ _ rfl ?_; refine ⟨w3.heap.size, rfl, _, _, _, _, _, _, _, rfl, _, _, _, Az, ?_⟩; clear Az; generalize (w3.alloc (.cells #[.string ⟨#[]⟩, .slice none 0 0, .slice none 0 0] 55)).setRow w3.heap.size #[.string d1.name, .slice oc1 d1.cuts.length kc1, .slice oc2 d1.vals.length kc2] = W at A4 R4 c4 g4 o4 p4 ⊢)
  obtain ⟨p, hp, hp1⟩ : ∃ p, w3.heap.size = p ∧ w.heap.size + 1 ≤ p := ⟨_, rfl, hs3⟩
  rw [hp] at A4 ⊢
  clear hp hs2 hs3
  have e1 := l1Below_any g a len cap zs 14 W c4 (HR.out _ g4) (by decide) (by decide)
  go_wp2_with fail
  refine e1.mono ?_
  clear e1
  rintro e w5 ⟨t, rfl, ht, c5, h5⟩
  have hA := A4.lt
  have g5 := grown_trans g4 h5
  have R5 := R4.kept h5 (by intro e; cases e; omega)
  have A5 := A4.kept h5 (by intro e; cases e; omega)
  have o5 := own_curW o4 (by omega) h5
  have p5 := own_curW p4 (by omega) h5
  clear h5 g4 c4 R4 A4 o4 p4 hA
  have hA := A5.lt
  by_cases t0 : t = 0
  · subst t0
    have e1 := pickS [⟨#[]⟩, ⟨#[85, 112, 112, 101, 114]⟩, ⟨#[119, 97, 121, 116, 111, 111, 108, 111, 110, 103]⟩, ⟨#[97, 32, 98]⟩] g a len cap zs w5 c5 (HR.out _ g5) (by simp) (by simp)
    simp only [List.map_cons, List.map_nil, List.length_cons, List.length_nil, Nat.zero_add, Nat.reduceAdd] at e1
    go_wp2_with fail
    refine e1.mono ?_
    clear e1
    rintro e w6 ⟨y, rfl, hy, c6, h6⟩
    have hy16 : Hid (y.size ≤ 16) := (by decide +kernel : ∀ y ∈ ([⟨#[]⟩, ⟨#[85, 112, 112, 101, 114]⟩, ⟨#[119, 97, 121, 116, 111, 111, 108, 111, 110, 103]⟩, ⟨#[97, 32, 98]⟩] : List ByteArray), y.size ≤ 16) y hy
    have g6 := grown_trans g5 h6
    have R6 := R5.kept h6 (by intro e; cases e; omega)
    have A6 := A5.kept h6 (by intro e; cases e; omega)
    have o6 := own_curW o5 (by omega) h6
    have p6 := own_curW p5 (by omega) h6
    clear h6 g5 c5 R5 A5 o5 p5 hy
    have a6 : w6.cell? ⟨p, 0, none⟩ = some (.string d1.name) := A6.cell 0
    have f6 := A6.frozen 0
    have A7 : Blk 55 (w6.setCell ⟨p, 0, none⟩ (.string y)) p #[.string y, .slice oc1 d1.cuts.length kc1, .slice oc2 d1.vals.length kc2] := A6.setCell 0 (.string y)
    have R7 := R6.setCell_other ⟨p, 0, none⟩ (.string y) (show p ≠ w.heap.size by omega)
    have o7 := own_setCellN o6 p 0 (.string y) (own_ne_blk o6 A6 (by decide))
    have p7 := own_setCellN p6 p 0 (.string y) (own_ne_blk p6 A6 (by decide))
    have c7 := c6.cellW 0 (.string y) (show g ≠ p by omega)
    have g7 := grown_cell g6 (p := p) (k := 0) (by omega) (.string y)
    clear A6 R6 o6 p6 c6 g6
    go_wp2_with (first | (with_reducible refine wp_at_load rfl _ rfl ?_; refine ⟨p, rfl, _, _, _, A7, ?_⟩) | (with_reducible refine wp_at_store rfl _ _ rfl ?_; refine ⟨w.heap.size, rfl, _, _, _, _, _, _, _, rfl, _, _, _, R7, ?_⟩))
    exact bodyPost_ret (res_at rfl _ _ _ _ _ _ rfl (Blk.setRow R7 _)) rfl ⟨_, ⟨y, d1.cuts, d1.vals⟩, rfl, ⟨_, _, rfl, own_base (own_setRow o7 _ _ (by omega)) (by omega), own_base (own_setRow p7 _ _ (by omega)) (by omega)⟩, ⟨hy16.out, htn.cuts, htn.vals, htn.each, htn.low⟩, IsCur.rowW c7 _ (by omega), grown_row g7 (Nat.le_refl _) _⟩
  have b0 : ((t : Int) == 0) = false := by rw [beq_eq_false_iff_ne]; omega
  by_cases t1 : t = 1
  · subst t1
    have Ad : Blk 55 w5.drew p #[.string d1.name, .slice oc1 d1.cuts.length kc1, .slice oc2 d1.vals.length kc2] := A5
    have Rd : Blk 55 w5.drew w.heap.size #[.string ⟨#[]⟩, .slice none 0 0, .slice none 0 0] := R5
    have cd : IsCur w5.drew g a len cap := c5
    have od : w5.drew.ownsRow (w.heap.size + 1) 3 1 (.slice oc1 d1.cuts.length kc1) d1.cuts.length (d1.cuts.map (Value.int .i64)) := o5
    have pd : w5.drew.ownsRow (w.heap.size + 1) 9 1 (.slice oc2 d1.vals.length kc2) d1.vals.length (d1.vals.map Value.string) := p5
    have gd : w.grownBy w5.drew (some g) := ⟨g5.os, g5.tape, g5.output, g5.size, g5.block⟩
    have hsd : w.heap.size + 1 ≤ w5.drew.heap.size := by have := Ad.lt; omega
    have e1 := pickN [-10000, 9999, 9998, 0] g a len cap zs w5.drew cd (HR.out _ gd) (by simp) (by simp)
    simp only [List.map_cons, List.map_nil, List.length_cons, List.length_nil, Nat.zero_add, Nat.reduceAdd] at e1
    have d0 : w5.drew.cell? ⟨p, 1, none⟩ = some (.slice oc1 d1.cuts.length kc1) := Ad.cell 1
    have d1' : (w5.drew.alloc (.cells #[.int .i64 (-10000), .int .i64 9999, .int .i64 9998, .int .i64 0] 3)).cell? ⟨p, 1, none⟩ = some (.slice oc1 d1.cuts.length kc1) := (Ad.alloc _).cell 1
    have d3 : w5.cell? ⟨p, 1, none⟩ = some (.slice oc1 d1.cuts.length kc1) := A5.cell 1
    have d4 : (w5.alloc (.cells #[.int .i64 (-10000), .int .i64 9999, .int .i64 9998, .int .i64 0] 3)).cell? ⟨p, 1, none⟩ = some (.slice oc1 d1.cuts.length kc1) := (A5.alloc _).cell 1
    have htl := htn.cuts
    have hpd := own_ne_blk od Ad (by decide)
    clear R5 A5 c5 g5 o5 p5
    go_wp2
    go_region_law (first
      | (refine step_wp rfl ?_; unfold Oper.wp; go_simp; go_at_call 46; refine e1.mono ?_; clear e1; rintro e w1 ⟨y, rfl, hy, cc1, h1⟩; have A1 := Ad.kept h1 (by intro e; cases e; omega); have a1 : w1.cell? ⟨p, 1, none⟩ = some (.slice oc1 d1.cuts.length kc1) := A1.cell 1; have a1' : (w1.alloc (.cells #[.int .i64 y] 3)).cell? ⟨p, 1, none⟩ = some (.slice oc1 d1.cuts.length kc1) := (A1.alloc _).cell 1; have r1 := own_curW od (by omega) h1; have s1 : w.heap.size + 1 ≤ w1.heap.size := Nat.le_trans hsd h1.size)
      | (refine step_wp rfl (wp_append_own _ _ _ 28 rfl (w.heap.size + 1) 3 j0 (.int .i64 0) 1 8 Try.underlying28 hj hj0 hj1 hj2 rfl (by decide) _ _ _ rfl (r1.alloc (.cells #[.int .i64 y] 3)) ⟨w1.heap.size, 0, none⟩ 1 1 [.int .i64 y] rfl rfl (newc _ _ _) (by simp [Value.oneCell']) (by unfold maxLen; omega) (by omega) (by simp; omega) ?_); intro v' w2 ho hg2 hnil; obtain ⟨ov, cv, rfl⟩ := own_slice ho; have A2 := (A1.alloc (.cells #[.int .i64 y] 3)).kept hg2 hpd; have a2 : w2.cell? ⟨p, 1, none⟩ = some (.slice oc1 d1.cuts.length kc1) := A2.cell 1; have f2 := A2.frozen 1))
    all_goals
      have R1 := Rd.kept h1 (by intro e; cases e; omega)
      have oth1 := own_curW pd (by omega) h1
      have hro : ∀ j, (.slice oc1 d1.cuts.length kc1 : Value).ownBlock = some j → w.heap.size + 1 ≤ j := fun j e => (r1.lt j e).1
      have R2 := (R1.alloc (.cells #[.int .i64 y] 3)).kept hg2 (fun e => by have := hro _ e; omega)
      have c2 := (cc1.alloc (.cells #[.int .i64 y] 3)).kept hg2 (fun e => by have := hro _ e; omega)
      have g2 := grown_own (grown_trans (grown_trans gd h1) (grown_alloc w1 (.cells #[.int .i64 y] 3) _)) hg2 (fun j e => by have := hro _ e; omega)
      have oth2 := (oth1.alloc (.cells #[.int .i64 y] 3)).kept hg2 (apart_d (oth1.alloc (.cells #[.int .i64 y] 3)) (r1.alloc (.cells #[.int .i64 y] 3)) (by decide))
      have A3 : Blk 55 (w2.setCell ⟨p, 1, none⟩ (.slice ov (d1.cuts.length + 1) cv)) p #[.string d1.name, .slice ov (d1.cuts.length + 1) cv, .slice oc2 d1.vals.length kc2] := A2.setCell 1 (.slice ov (d1.cuts.length + 1) cv)
      have R3 := R2.setCell_other ⟨p, 1, none⟩ (.slice ov (d1.cuts.length + 1) cv) (show p ≠ w.heap.size by omega)
      have oth3 := own_setCellN oth2 p 1 (.slice ov (d1.cuts.length + 1) cv) (own_ne_blk oth2 A2 (by decide))
      have ho3 := own_castD (own_setCellN ho p 1 (.slice ov (d1.cuts.length + 1) cv) (own_ne_blk ho A2 (by decide))) (show d1.cuts.length + 1 = (d1.cuts ++ [y]).length by simp) (show _ = (d1.cuts ++ [y]).map (Value.int .i64) by simp)
      have c3 := c2.cellW 1 (.slice ov (d1.cuts.length + 1) cv) (show g ≠ p by omega)
      have g3 := grown_cell g2 (p := p) (k := 1) (by omega) (.slice ov (d1.cuts.length + 1) cv)
      have HT : Hid (tinyA ⟨d1.name, d1.cuts ++ [y], d1.vals⟩) := ⟨htn.name, by show (d1.cuts ++ [y]).length ≤ 4; rw [List.length_append, List.length_singleton]; have := HSM.out.1; omega, htn.vals, htn.each, fun c hc => by
        rcases List.mem_append.1 hc with hc | hc
        · exact htn.low c hc
        · rw [List.mem_singleton] at hc; simp only [List.mem_cons, List.not_mem_nil, or_false] at hy; omega⟩
      clear hg2 hnil A1 A2 R1 R2 c2 g2 ho a2 f2 a1 a1' Ad Rd cd od pd gd d0 d1' d3 d4 r1 oth1 oth2 h1 cc1 s1 hy htl hpd hsd htn hro
      go_wp2_with (first | (with_reducible refine wp_at_load rfl _ rfl ?_; refine ⟨p, rfl, _, _, _, A3, ?_⟩) | (with_reducible refine wp_at_store rfl _ _ rfl ?_; refine ⟨w.heap.size, rfl, _, _, _, _, _, _, _, rfl, _, _, _, R3, ?_⟩))
      exact bodyPost_ret (res_at rfl _ _ _ _ _ _ rfl (Blk.setRow R3 _)) rfl ⟨_, ⟨d1.name, d1.cuts ++ [y], d1.vals⟩, rfl, ⟨_, _, rfl, own_base (own_setRow ho3 _ _ (by omega)) (by omega), own_base (own_setRow oth3 _ _ (by omega)) (by omega)⟩, HT.out, IsCur.rowW c3 _ (by omega), grown_row g3 (Nat.le_refl _) _⟩
  have b1 : ((t : Int) == 1) = false := by rw [beq_eq_false_iff_ne]; omega
  by_cases t2 : t = 2
  · subst t2
    have Ad : Blk 55 w5.drew p #[.string d1.name, .slice oc1 d1.cuts.length kc1, .slice oc2 d1.vals.length kc2] := A5
    have Rd : Blk 55 w5.drew w.heap.size #[.string ⟨#[]⟩, .slice none 0 0, .slice none 0 0] := R5
    have cd : IsCur w5.drew g a len cap := c5
    have od : w5.drew.ownsRow (w.heap.size + 1) 3 1 (.slice oc1 d1.cuts.length kc1) d1.cuts.length (d1.cuts.map (Value.int .i64)) := o5
    have pd : w5.drew.ownsRow (w.heap.size + 1) 9 1 (.slice oc2 d1.vals.length kc2) d1.vals.length (d1.vals.map Value.string) := p5
    have gd : w.grownBy w5.drew (some g) := ⟨g5.os, g5.tape, g5.output, g5.size, g5.block⟩
    have hsd : w.heap.size + 1 ≤ w5.drew.heap.size := by have := Ad.lt; omega
    have e1 := pickS [⟨#[114, 101, 100]⟩, ⟨#[102, 105, 102, 116, 104]⟩, ⟨#[]⟩] g a len cap zs w5.drew cd (HR.out _ gd) (by simp) (by simp)
    simp only [List.map_cons, List.map_nil, List.length_cons, List.length_nil, Nat.zero_add, Nat.reduceAdd] at e1
    have d0 : w5.drew.cell? ⟨p, 2, none⟩ = some (.slice oc2 d1.vals.length kc2) := Ad.cell 2
    have d1' : (w5.drew.alloc (.cells #[.string ⟨#[114, 101, 100]⟩, .string ⟨#[102, 105, 102, 116, 104]⟩, .string ⟨#[]⟩] 9)).cell? ⟨p, 2, none⟩ = some (.slice oc2 d1.vals.length kc2) := (Ad.alloc _).cell 2
    have d3 : w5.cell? ⟨p, 2, none⟩ = some (.slice oc2 d1.vals.length kc2) := A5.cell 2
    have d4 : (w5.alloc (.cells #[.string ⟨#[114, 101, 100]⟩, .string ⟨#[102, 105, 102, 116, 104]⟩, .string ⟨#[]⟩] 9)).cell? ⟨p, 2, none⟩ = some (.slice oc2 d1.vals.length kc2) := (A5.alloc _).cell 2
    have htl := htn.vals
    have hpd := own_ne_blk pd Ad (by decide)
    clear R5 A5 c5 g5 o5 p5
    go_wp2
    go_region_law (first
      | (refine step_wp rfl ?_; unfold Oper.wp; go_simp; go_at_call 93; refine e1.mono ?_; clear e1; rintro e w1 ⟨y, rfl, hy, cc1, h1⟩; have A1 := Ad.kept h1 (by intro e; cases e; omega); have a1 : w1.cell? ⟨p, 2, none⟩ = some (.slice oc2 d1.vals.length kc2) := A1.cell 2; have a1' : (w1.alloc (.cells #[.string y] 9)).cell? ⟨p, 2, none⟩ = some (.slice oc2 d1.vals.length kc2) := (A1.alloc _).cell 2; have r1 := own_curW pd (by omega) h1; have s1 : w.heap.size + 1 ≤ w1.heap.size := Nat.le_trans hsd h1.size)
      | (refine step_wp rfl (wp_append_own _ _ _ 25 rfl (w.heap.size + 1) 9 i0 (.string ⟨#[]⟩) 1 16 Try.underlying25 hi hi0 hi1 hi2 rfl (by decide) _ _ _ rfl (r1.alloc (.cells #[.string y] 9)) ⟨w1.heap.size, 0, none⟩ 1 1 [.string y] rfl rfl (newc _ _ _) (by simp [Value.oneCell']) (by unfold maxLen; omega) (by omega) (by simp; omega) ?_); intro v' w2 ho hg2 hnil; obtain ⟨ov, cv, rfl⟩ := own_slice ho; have A2 := (A1.alloc (.cells #[.string y] 9)).kept hg2 hpd; have a2 : w2.cell? ⟨p, 2, none⟩ = some (.slice oc2 d1.vals.length kc2) := A2.cell 2; have f2 := A2.frozen 2))
    all_goals
      have R1 := Rd.kept h1 (by intro e; cases e; omega)
      have oth1 := own_curW od (by omega) h1
      have hro : ∀ j, (.slice oc2 d1.vals.length kc2 : Value).ownBlock = some j → w.heap.size + 1 ≤ j := fun j e => (r1.lt j e).1
      have R2 := (R1.alloc (.cells #[.string y] 9)).kept hg2 (fun e => by have := hro _ e; omega)
      have c2 := (cc1.alloc (.cells #[.string y] 9)).kept hg2 (fun e => by have := hro _ e; omega)
      have g2 := grown_own (grown_trans (grown_trans gd h1) (grown_alloc w1 (.cells #[.string y] 9) _)) hg2 (fun j e => by have := hro _ e; omega)
      have oth2 := (oth1.alloc (.cells #[.string y] 9)).kept hg2 (apart_d (oth1.alloc (.cells #[.string y] 9)) (r1.alloc (.cells #[.string y] 9)) (by decide))
      have A3 : Blk 55 (w2.setCell ⟨p, 2, none⟩ (.slice ov (d1.vals.length + 1) cv)) p #[.string d1.name, .slice oc1 d1.cuts.length kc1, .slice ov (d1.vals.length + 1) cv] := A2.setCell 2 (.slice ov (d1.vals.length + 1) cv)
      have R3 := R2.setCell_other ⟨p, 2, none⟩ (.slice ov (d1.vals.length + 1) cv) (show p ≠ w.heap.size by omega)
      have oth3 := own_setCellN oth2 p 2 (.slice ov (d1.vals.length + 1) cv) (own_ne_blk oth2 A2 (by decide))
      have ho3 := own_castD (own_setCellN ho p 2 (.slice ov (d1.vals.length + 1) cv) (own_ne_blk ho A2 (by decide))) (show d1.vals.length + 1 = (d1.vals ++ [y]).length by simp) (show _ = (d1.vals ++ [y]).map (Value.string) by simp)
      have c3 := c2.cellW 2 (.slice ov (d1.vals.length + 1) cv) (show g ≠ p by omega)
      have g3 := grown_cell g2 (p := p) (k := 2) (by omega) (.slice ov (d1.vals.length + 1) cv)
      have HT : Hid (tinyA ⟨d1.name, d1.cuts, d1.vals ++ [y]⟩) := ⟨htn.name, htn.cuts, by show (d1.vals ++ [y]).length ≤ 5; rw [List.length_append, List.length_singleton]; have := HSM.out.2; omega, fun c hc => by
        rcases List.mem_append.1 hc with hc | hc
        · exact htn.each c hc
        · rw [List.mem_singleton] at hc; rw [hc]; exact (by decide +kernel : ∀ y ∈ ([⟨#[114, 101, 100]⟩, ⟨#[102, 105, 102, 116, 104]⟩, ⟨#[]⟩] : List ByteArray), y.size ≤ 16) y hy, htn.low⟩
      clear hg2 hnil A1 A2 R1 R2 c2 g2 ho a2 f2 a1 a1' Ad Rd cd od pd gd d0 d1' d3 d4 r1 oth1 oth2 h1 cc1 s1 hy htl hpd hsd htn hro
      go_wp2_with (first | (with_reducible refine wp_at_load rfl _ rfl ?_; refine ⟨p, rfl, _, _, _, A3, ?_⟩) | (with_reducible refine wp_at_store rfl _ _ rfl ?_; refine ⟨w.heap.size, rfl, _, _, _, _, _, _, _, rfl, _, _, _, R3, ?_⟩))
      exact bodyPost_ret (res_at rfl _ _ _ _ _ _ rfl (Blk.setRow R3 _)) rfl ⟨_, ⟨d1.name, d1.cuts, d1.vals ++ [y]⟩, rfl, ⟨_, _, rfl, own_base (own_setRow oth3 _ _ (by omega)) (by omega), own_base (own_setRow ho3 _ _ (by omega)) (by omega)⟩, HT.out, IsCur.rowW c3 _ (by omega), grown_row g3 (Nat.le_refl _) _⟩
  have b2 : ((t : Int) == 2) = false := by rw [beq_eq_false_iff_ne]; omega
  by_cases t3 : t = 3
  · subst t3
    have hne : (some w5.heap.size : Option Nat) ≠ some p := by intro e; injection e; omega
    have a6 : w5.cell? ⟨p, 1, none⟩ = some (.slice oc1 d1.cuts.length kc1) := A5.cell 1
    have f6 := A5.frozen 1
    have A6 : Blk 55 (w5.setCell ⟨p, 1, none⟩ (.slice (some ⟨w5.heap.size, 0, none⟩) 0 0)) p #[.string d1.name, .slice (some ⟨w5.heap.size, 0, none⟩) 0 0, .slice oc2 d1.vals.length kc2] := A5.setCell 1 (.slice (some ⟨w5.heap.size, 0, none⟩) 0 0)
    have R6 := R5.setCell_other ⟨p, 1, none⟩ (.slice (some ⟨w5.heap.size, 0, none⟩) 0 0) (show p ≠ w.heap.size by omega)
    have p6 := own_setCellN p5 p 1 (.slice (some ⟨w5.heap.size, 0, none⟩) 0 0) (own_ne_blk p5 A5 (by decide))
    have c6 := c5.cellW 1 (.slice (some ⟨w5.heap.size, 0, none⟩) 0 0) (show g ≠ p by omega)
    have g6 := grown_cell g5 (p := p) (k := 1) (by omega) (.slice (some ⟨w5.heap.size, 0, none⟩) 0 0)
    have A7 := A6.alloc (.cells #[] 3)
    have R7 := R6.alloc (.cells #[] 3)
    have c7 := c6.alloc (.cells #[] 3)
    have g7 := grown_trans g6 (grown_alloc _ (.cells #[] 3) _)
    have p7 := p6.alloc (.cells #[] 3)
    have o7 : World.ownsRow ((w5.setCell ⟨p, 1, none⟩ (.slice (some ⟨w5.heap.size, 0, none⟩) 0 0)).alloc (.cells #[] 3)) (w.heap.size + 1) 3 1 (.slice (some ⟨w5.heap.size, 0, none⟩) 0 0) 0 [] := by
      have := ownI_nilD (w5.setCell ⟨p, 1, none⟩ (.slice (some ⟨w5.heap.size, 0, none⟩) 0 0)) (w.heap.size + 1) (by simp [World.setCell]; omega)
      rwa [show (w5.setCell ⟨p, 1, none⟩ (.slice (some ⟨w5.heap.size, 0, none⟩) 0 0)).heap.size = w5.heap.size by simp [World.setCell]] at this
    clear A6 R6 p6 c6 g6
    go_wp2_with (first | (with_reducible refine wp_at_load rfl _ rfl ?_; refine ⟨p, rfl, _, _, _, A7, ?_⟩) | (with_reducible refine wp_at_store rfl _ _ rfl ?_; refine ⟨w.heap.size, rfl, _, _, _, _, _, _, _, rfl, _, _, _, R7, ?_⟩))
    exact bodyPost_ret (res_at rfl _ _ _ _ _ _ rfl (Blk.setRow R7 _)) rfl ⟨_, ⟨d1.name, ([] : List Int), d1.vals⟩, rfl, ⟨_, _, rfl, own_base (own_setRow o7 _ _ (by omega)) (by omega), own_base (own_setRow p7 _ _ (by omega)) (by omega)⟩, ⟨htn.name, by show ([] : List Int).length ≤ 4; simp, htn.vals, htn.each, fun c hc => by simp at hc⟩, IsCur.rowW c7 _ (by omega), grown_row g7 (Nat.le_refl _) _⟩
  have b3 : ((t : Int) == 3) = false := by rw [beq_eq_false_iff_ne]; omega
  by_cases t4 : t = 4
  · subst t4
    have a6 : w5.cell? ⟨p, 1, none⟩ = some (.slice oc1 d1.cuts.length kc1) := A5.cell 1
    have f6 := A5.frozen 1
    have A6 : Blk 55 (w5.setCell ⟨p, 1, none⟩ (.slice (some ⟨w5.heap.size, 0, none⟩) 1 1)) p #[.string d1.name, (.slice (some ⟨w5.heap.size, 0, none⟩) 1 1), .slice oc2 d1.vals.length kc2] := A5.setCell 1 (.slice (some ⟨w5.heap.size, 0, none⟩) 1 1)
    have R6 := R5.setCell_other ⟨p, 1, none⟩ (.slice (some ⟨w5.heap.size, 0, none⟩) 1 1) (show p ≠ w.heap.size by omega)
    have c6 := c5.cellW 1 (.slice (some ⟨w5.heap.size, 0, none⟩) 1 1) (show g ≠ p by omega)
    have g6 := grown_cell g5 (p := p) (k := 1) (by omega) (.slice (some ⟨w5.heap.size, 0, none⟩) 1 1)
    have a7 : (w5.setCell ⟨p, 1, none⟩ (.slice (some ⟨w5.heap.size, 0, none⟩) 1 1)).cell? ⟨p, 2, none⟩ = some (.slice oc2 d1.vals.length kc2) := A6.cell 2
    have f7 := A6.frozen 2
    have A7 : Blk 55 ((w5.setCell ⟨p, 1, none⟩ (.slice (some ⟨w5.heap.size, 0, none⟩) 1 1)).setCell ⟨p, 2, none⟩ (.slice (some ⟨w5.heap.size + 1, 0, none⟩) 0 0)) p #[.string d1.name, (.slice (some ⟨w5.heap.size, 0, none⟩) 1 1), (.slice (some ⟨w5.heap.size + 1, 0, none⟩) 0 0)] := A6.setCell 2 (.slice (some ⟨w5.heap.size + 1, 0, none⟩) 0 0)
    have R7 := R6.setCell_other ⟨p, 2, none⟩ (.slice (some ⟨w5.heap.size + 1, 0, none⟩) 0 0) (show p ≠ w.heap.size by omega)
    have c7 := c6.cellW 2 (.slice (some ⟨w5.heap.size + 1, 0, none⟩) 0 0) (show g ≠ p by omega)
    have g7 := grown_cell g6 (p := p) (k := 2) (by omega) (.slice (some ⟨w5.heap.size + 1, 0, none⟩) 0 0)
    have hz : ((w5.setCell ⟨p, 1, none⟩ (.slice (some ⟨w5.heap.size, 0, none⟩) 1 1)).setCell ⟨p, 2, none⟩ (.slice (some ⟨w5.heap.size + 1, 0, none⟩) 0 0)).heap.size = w5.heap.size := by simp [World.setCell]
    have A9 := (A7.alloc (.cells #[.int .i64 9998] 3)).alloc (.cells #[] 9)
    have R9 := (R7.alloc (.cells #[.int .i64 9998] 3)).alloc (.cells #[] 9)
    have c9 := (c7.alloc (.cells #[.int .i64 9998] 3)).alloc (.cells #[] 9)
    have g9 := grown_trans (grown_trans g7 (grown_alloc _ (.cells #[.int .i64 9998] 3) _)) (grown_alloc _ (.cells #[] 9) _)
    have o9 : World.ownsRow ((((w5.setCell ⟨p, 1, none⟩ (.slice (some ⟨w5.heap.size, 0, none⟩) 1 1)).setCell ⟨p, 2, none⟩ (.slice (some ⟨w5.heap.size + 1, 0, none⟩) 0 0)).alloc (.cells #[.int .i64 9998] 3)).alloc (.cells #[] 9)) (w.heap.size + 1) 3 1 (.slice (some ⟨w5.heap.size, 0, none⟩) 1 1) 1 [.int .i64 9998] := by
      have := (ownI_lit1D ((w5.setCell ⟨p, 1, none⟩ (.slice (some ⟨w5.heap.size, 0, none⟩) 1 1)).setCell ⟨p, 2, none⟩ (.slice (some ⟨w5.heap.size + 1, 0, none⟩) 0 0)) (w.heap.size + 1) 9998 (by omega)).alloc (.cells #[] 9)
      rwa [hz] at this
    have p9 : World.ownsRow ((((w5.setCell ⟨p, 1, none⟩ (.slice (some ⟨w5.heap.size, 0, none⟩) 1 1)).setCell ⟨p, 2, none⟩ (.slice (some ⟨w5.heap.size + 1, 0, none⟩) 0 0)).alloc (.cells #[.int .i64 9998] 3)).alloc (.cells #[] 9)) (w.heap.size + 1) 9 1 (.slice (some ⟨w5.heap.size + 1, 0, none⟩) 0 0) 0 [] := by
      have hz2 : (((w5.setCell ⟨p, 1, none⟩ (.slice (some ⟨w5.heap.size, 0, none⟩) 1 1)).setCell ⟨p, 2, none⟩ (.slice (some ⟨w5.heap.size + 1, 0, none⟩) 0 0)).alloc (.cells #[.int .i64 9998] 3)).heap.size = w5.heap.size + 1 := by simp [World.setCell]
      have := ownS_lit0D (((w5.setCell ⟨p, 1, none⟩ (.slice (some ⟨w5.heap.size, 0, none⟩) 1 1)).setCell ⟨p, 2, none⟩ (.slice (some ⟨w5.heap.size + 1, 0, none⟩) 0 0)).alloc (.cells #[.int .i64 9998] 3)) (w.heap.size + 1) (by omega)
      rwa [hz2] at this
    clear A6 R6 c6 g6 A7 R7 c7 g7 hz
    go_wp2_with (first | (with_reducible refine wp_at_load rfl _ rfl ?_; refine ⟨p, rfl, _, _, _, A9, ?_⟩) | (with_reducible refine wp_at_store rfl _ _ rfl ?_; refine ⟨w.heap.size, rfl, _, _, _, _, _, _, _, rfl, _, _, _, R9, ?_⟩))
    exact bodyPost_ret (res_at rfl _ _ _ _ _ _ rfl (Blk.setRow R9 _)) rfl ⟨_, ⟨d1.name, [9998], ([] : List ByteArray)⟩, rfl, ⟨_, _, rfl, own_base (own_setRow o9 _ _ (by omega)) (by omega), own_base (own_setRow p9 _ _ (by omega)) (by omega)⟩, ⟨htn.name, by show ([9998] : List Int).length ≤ 4; simp, by show ([] : List ByteArray).length ≤ 5; simp, fun s hs => by simp at hs, fun c hc => by rw [List.mem_singleton] at hc; omega⟩, IsCur.rowW c9 _ (by omega), grown_row g9 (Nat.le_refl _) _⟩
  have b4 : ((t : Int) == 4) = false := by rw [beq_eq_false_iff_ne]; omega
  clear t0 t1 t2 t3 t4
  go_wp2_with (first | (with_reducible refine wp_at_load rfl _ rfl ?_; refine ⟨p, rfl, _, _, _, A5, ?_⟩) | (with_reducible refine wp_at_store rfl _ _ rfl ?_; refine ⟨w.heap.size, rfl, _, _, _, _, _, _, _, rfl, _, _, _, R5, ?_⟩))
  exact bodyPost_ret (res_at rfl _ _ _ _ _ _ rfl (Blk.setRow R5 _)) rfl ⟨_, ⟨d1.name, d1.cuts, d1.vals⟩, rfl, ⟨_, _, rfl, own_base (own_setRow o5 _ _ (by omega)) (by omega), own_base (own_setRow p5 _ _ (by omega)) (by omega)⟩, htn, IsCur.rowW c5 _ (by omega), grown_row g5 (Nat.le_refl _) _⟩
end Go.Proofs.Ytobimpgapfecoaa
/- Draws of chapter 5: a schema, right or not. -/
namespace Go.Proofs.Ytobimpgapfecoaa
open Go.RowKit
set_option maxRecDepth 100000
theorem small_of_okS {d : SchemaD} (h : schemaOk d = true) : d.attrs.length ≤ 5 ∧ 2 ≤ d.classes.length ∧ d.classes.length ≤ 3 := by
  unfold schemaOk at h
  rw [Bool.and_eq_true, Bool.and_eq_true] at h
  have h1 := of_decide_eq_true h.1
  have h2 := h.2.1
  unfold choices at h2
  rw [Bool.and_eq_true] at h2
  have h3 := of_decide_eq_true h2.1
  omega
theorem own_low {w w' : World} {b e s n : Nat} {v : Value} {xs : List Value} {r : Option Nat} (h : w.ownsRow b e s v n xs) (hg : w.grownBy w' r) (hr : ∀ j, r = some j → j < b) : w'.ownsRow b e s v n xs := by
  refine h.kept hg ?_
  cases e : v.ownBlock with
  | none => exact .inl rfl
  | some k =>
    refine .inr fun e' => ?_
    have u1 := (h.lt k e).1
    have u2 := hr k e'.symm
    omega
theorem OwnL.low {w w' : World} {b : Nat} {v : Value} {ls : List AttrD} {r : Option Nat} (h : OwnL b w v ls) (hg : w.grownBy w' r) (hr : ∀ j, r = some j → j < b) : OwnL b w' v ls := by
  obtain ⟨ys, h1, h2⟩ := h
  refine ⟨ys, own_low h1 hg hr, fun j hj => ?_⟩
  obtain ⟨vc, vv, a0, a1, a2, a3, a4⟩ := h2 j hj
  exact ⟨vc, vv, a0, a1, a2, own_low a3 hg hr, own_low a4 hg hr⟩
theorem OwnL.cellB {w : World} {b : Nat} {v : Value} {ls : List AttrD} {cs : Array Value} (h : OwnL b w v ls) (p k : Nat) (u : Value) (hp : Blk 27 w p cs) : OwnL b (w.setCell ⟨p, k, none⟩ u) v ls := by
  obtain ⟨ys, h1, h2⟩ := h
  refine ⟨ys, own_setCellN h1 p k u (own_ne_blk h1 hp (by decide)), fun j hj => ?_⟩
  obtain ⟨vc, vv, a0, a1, a2, a3, a4⟩ := h2 j hj
  exact ⟨vc, vv, a0, a1, a2, own_setCellN a3 p k u (own_ne_blk a3 hp (by decide)), own_setCellN a4 p k u (own_ne_blk a4 hp (by decide))⟩
theorem own_cutD {w : World} {b e n m c : Nat} {o : Option Addr} {xs : List Value} (h : w.ownsRow b e 1 (.slice o n c) n xs) (hm : m ≤ n) (hn : 0 < n) : w.ownsRow b e 1 (.slice o m c) m (xs.take m) := by
  refine ⟨by rw [List.length_take, h.1]; omega, ?_⟩
  rcases h.2 with ⟨h', h0⟩ | ⟨g, cap, cur, hv, hg, hc, hle, hmx, hs, ht⟩
  · omega
  · cases hv
    refine .inr ⟨g, c, cur, rfl, hg, hc, by omega, hmx, hs, ?_⟩
    rw [← ht, List.take_take]; congr 1; omega
theorem ownA_lit0D (w : World) (b : Nat) (hb : b ≤ w.heap.size) : (w.alloc (.cells #[] 55)).ownsRow b 55 3 (.slice (some ⟨w.heap.size, 0, none⟩) 0 0) 0 [] :=
  World.ownsRow_lit (base := b) (e := 55) (size := 3) w #[] 0 hb (by decide) rfl
set_option maxHeartbeats 6400000 in
theorem draw5_any (g : Nat) (a : Option Addr) (len cap : Nat) (zs : List Int) (w : World) (hc : IsCur w g a len cap) (hr : IsRow .u8 w a len cap zs) :
    Calls Try.prog 43 #[.pointer (some ⟨g, 0, none⟩)] w fun e w' => ∃ v d, e = .returned v ∧ OwnS w.heap.size w' v d ∧ tinyS d ∧ IsCur w' g a len cap ∧ w.grownBy w' (some g) := by
  have hgw : g < w.heap.size := hc.lt
  have HR : Hid (∀ w', w.grownBy w' (some g) → IsRow .u8 w' a len cap zs) := fun w' h => hr.aside hc h
  obtain ⟨i0, hi, hi0, hi1, hi2⟩ := info_parts strInfo
  obtain ⟨j0, hj, hj0, hj1, hj2⟩ := info_parts atInfo
  have c1 := hc.alloc (.cells #[.slice none 0 0, .slice none 0 0] 27)
  have g1 : w.grownBy (w.alloc (.cells #[.slice none 0 0, .slice none 0 0] 27)) (some g) := grown_alloc w _ _
  have R1 := Blk.new 27 w #[.slice none 0 0, .slice none 0 0]
  have hs1 : w.heap.size + 1 ≤ (w.alloc (.cells #[.slice none 0 0, .slice none 0 0] 27)).heap.size := by simp
  clear hc hr
  have e1 := right5_any g a len cap zs _ c1 (HR.out _ g1)
  go_enter Try.func43, Try.ntmps43
  go_wp2_with fail
  refine e1.mono ?_
  clear e1
  rintro e w3 ⟨va, vc, d, mid, rfl, hm0, hm1, hL, hO, hvm, hok, htn, c3, h3⟩
  have hm2 : w.heap.size + 1 ≤ mid := Nat.le_trans hs1 hm0
  have hO := own_base hO hs1
  have HSM : Hid (d.attrs.length ≤ 5 ∧ 2 ≤ d.classes.length ∧ d.classes.length ≤ 3) := small_of_okS hok
  have g3 := grown_trans g1 h3
  have R3 := R1.kept h3 (by intro e; cases e; omega)
  clear h3 g1 c1 R1 hs1 hm0 hok
  obtain ⟨ys, hrow, hdone⟩ := hL
  obtain ⟨ova, cva, rfl⟩ := own_slice hrow
  obtain ⟨ovc, cvc, rfl⟩ := own_slice hO
  have Az : Blk 27 (w3.alloc (.cells #[.slice none 0 0, .slice none 0 0] 27)) w3.heap.size #[.slice none 0 0, .slice none 0 0] := Blk.new _ _ _
  have A4 := Az.setRow #[.slice ova d.attrs.length cva, .slice ovc d.classes.length cvc]
  have R4 := (R3.alloc (.cells #[.slice none 0 0, .slice none 0 0] 27)).setRow_other #[.slice ova d.attrs.length cva, .slice ovc d.classes.length cvc] (show w.heap.size ≠ w3.heap.size by omega)
  have c4 := (c3.alloc (.cells #[.slice none 0 0, .slice none 0 0] 27)).rowW #[.slice ova d.attrs.length cva, .slice ovc d.classes.length cvc] (show g ≠ w3.heap.size by omega)
  have g4 := grown_row (grown_trans g3 (grown_alloc w3 (.cells #[.slice none 0 0, .slice none 0 0] 27) _)) (show w.heap.size ≤ w3.heap.size by omega) #[.slice ova d.attrs.length cva, .slice ovc d.classes.length cvc]
  have o4 := own_setRowN (hO.alloc (.cells #[.slice none 0 0, .slice none 0 0] 27)) w3.heap.size #[.slice ova d.attrs.length cva, .slice ovc d.classes.length cvc] (fun e => by have := (hO.lt _ e).2; omega)
  have r4 := own_setRowN (hrow.alloc (.cells #[.slice none 0 0, .slice none 0 0] 27)) w3.heap.size #[.slice ova d.attrs.length cva, .slice ovc d.classes.length cvc] (fun e => by have := (hrow.lt _ e).2; omega)
  have n4 : DoneA ((w3.alloc (.cells #[.slice none 0 0, .slice none 0 0] 27)).setRow w3.heap.size #[.slice ova d.attrs.length cva, .slice ovc d.classes.length cvc]) mid ys d.attrs d.attrs.length := fun j hj => by
    obtain ⟨x1, x2, b0, b1, b2, b3, b4⟩ := hdone j hj
    exact ⟨x1, x2, b0, b1, b2, own_setRowN (b3.alloc _) _ _ (fun e => by have := (b3.lt _ e).2; omega), own_setRowN (b4.alloc _) _ _ (fun e => by have := (b4.lt _ e).2; omega)⟩
  clear hO hrow hdone R3 c3 g3
  have hz4 : ((w3.alloc (.cells #[.slice none 0 0, .slice none 0 0] 27)).setRow w3.heap.size #[.slice ova d.attrs.length cva, .slice ovc d.classes.length cvc]).heap.size = w3.heap.size + 1 := by simp [World.setRow]
  go_wp2_with (with_reducible refine wp_sc_store rfl _ _ rfl ?_; refine ⟨w3.heap.size, rfl, _, _, _, _, _, _, rfl, _, _, Az, ?_⟩; clear Az; generalize (w3.alloc (.cells #[.slice none 0 0, .slice none 0 0] 27)).setRow w3.heap.size #[.slice ova d.attrs.length cva, .slice ovc d.classes.length cvc] = W at A4 R4 c4 g4 o4 r4 n4 hz4 ⊢)
  obtain ⟨p, hp, hp1⟩ : ∃ p, w3.heap.size = p ∧ mid ≤ p := ⟨_, rfl, hm1⟩
  rw [hp] at A4 ⊢
  clear hp hm1 hz4
  have e1 := l1Below_any g a len cap zs 12 W c4 (HR.out _ g4) (by decide) (by decide)
  go_wp2_with fail
  refine e1.mono ?_
  clear e1
  rintro e w5 ⟨t, rfl, ht, c5, h5⟩
  have hA := A4.lt
  have g5 := grown_trans g4 h5
  have R5 := R4.kept h5 (by intro e; cases e; omega)
  have A5 := A4.kept h5 (by intro e; cases e; omega)
  have o5 := own_curW o4 (by omega) h5
  have r5 := own_curW r4 (by omega) h5
  have n5 := n4.curW (by omega) h5
  clear h5 g4 c4 R4 A4 o4 r4 n4 hA
  have hA := A5.lt
  by_cases t0 : t = 0
  · subst t0
    have hvo : ∀ j, (Value.slice ova d.attrs.length cva).ownBlock = some j → mid ≤ j := fun j hj => (r5.lt j hj).1
    have Ad : Blk 27 w5.drew p #[.slice ova d.attrs.length cva, .slice ovc d.classes.length cvc] := A5
    have Rd : Blk 27 w5.drew w.heap.size #[.slice none 0 0, .slice none 0 0] := R5
    have cd : IsCur w5.drew g a len cap := c5
    have od : w5.drew.ownsRow (w.heap.size + 1) 9 1 (.slice ovc d.classes.length cvc) d.classes.length (d.classes.map Value.string) := o5
    have rd : w5.drew.ownsRow mid 55 3 (.slice ova d.attrs.length cva) d.attrs.length ys := r5
    have dd : DoneA w5.drew mid ys d.attrs d.attrs.length := n5
    have gd : w.grownBy w5.drew (some g) := ⟨g5.os, g5.tape, g5.output, g5.size, g5.block⟩
    have sd : mid ≤ w5.drew.heap.size := by have := Ad.lt; omega
    have d0 : w5.drew.cell? ⟨p, 0, none⟩ = some (.slice ova d.attrs.length cva) := Ad.cell 0
    have d3 : w5.cell? ⟨p, 0, none⟩ = some (.slice ova d.attrs.length cva) := A5.cell 0
    have e1 := drawAttr_any g a len cap zs w5.drew cd (HR.out _ gd)
    have hal := htn.attrs
    have hpd := own_ne_blk rd Ad (by decide)
    clear R5 A5 c5 g5 o5 r5 n5
    go_wp2
    go_region_law (first
      | (refine step_wp rfl ?_; unfold Oper.wp; go_simp; go_at_call 92; refine e1.mono ?_; clear e1; rintro e w1 ⟨v1, d1, rfl, ⟨c1, c2, rfl, q1, q2⟩, htd, cc1, h1⟩; obtain ⟨oc1, k1, rfl⟩ := own_slice q1; obtain ⟨oc2, k2, rfl⟩ := own_slice q2; have A1 := Ad.kept h1 (by intro e; cases e; omega); have a1 : w1.cell? ⟨p, 0, none⟩ = some (.slice ova d.attrs.length cva) := A1.cell 0; have a1' : (w1.alloc (.cells #[.string d1.name, .slice oc1 d1.cuts.length k1, .slice oc2 d1.vals.length k2] 55)).cell? ⟨p, 0, none⟩ = some (.slice ova d.attrs.length cva) := (A1.alloc _).cell 0; have r1 := own_curW rd (by omega) h1; have s1 : mid ≤ w1.heap.size := Nat.le_trans sd h1.size)
      | (refine step_wp rfl (wp_append_own _ _ _ 24 rfl mid 55 j0 (.agg #[.string ⟨#[]⟩, .slice none 0 0, .slice none 0 0]) 3 64 Try.underlying24 hj hj0 hj1 hj2 rfl (by decide) _ _ _ rfl (r1.alloc (.cells #[.string d1.name, .slice oc1 d1.cuts.length k1, .slice oc2 d1.vals.length k2] 55)) ⟨w1.heap.size, 0, none⟩ 1 1 [.string d1.name, .slice oc1 d1.cuts.length k1, .slice oc2 d1.vals.length k2] rfl rfl (newc3D _ _ _ _ _) (by simp [Value.oneCell']) (by unfold maxLen; omega) (by omega) (by simp; omega) ?_); intro v' w2 ho hg2 hnil; obtain ⟨ov, cv, rfl⟩ := own_slice ho; have A2 := (A1.alloc (.cells #[.string d1.name, .slice oc1 d1.cuts.length k1, .slice oc2 d1.vals.length k2] 55)).kept hg2 hpd; have a2 : w2.cell? ⟨p, 0, none⟩ = some (.slice ova d.attrs.length cva) := A2.cell 0; have f2 := A2.frozen 0))
    all_goals
      have R1 := Rd.kept h1 (by intro e; cases e; omega)
      have own1 := own_curW od (by omega) h1
      have dn1 := dd.curW (by omega) h1
      have R2 := (R1.alloc (.cells #[.string d1.name, .slice oc1 d1.cuts.length k1, .slice oc2 d1.vals.length k2] 55)).kept hg2 (fun e => by have := hvo _ e; omega)
      have c2 := (cc1.alloc (.cells #[.string d1.name, .slice oc1 d1.cuts.length k1, .slice oc2 d1.vals.length k2] 55)).kept hg2 (fun e => by have := hvo _ e; omega)
      have g2 := grown_own (grown_trans (grown_trans gd h1) (grown_alloc w1 (.cells #[.string d1.name, .slice oc1 d1.cuts.length k1, .slice oc2 d1.vals.length k2] 55) _)) hg2 (fun j e => by have := hvo _ e; omega)
      have own2 := (own1.alloc (.cells #[.string d1.name, .slice oc1 d1.cuts.length k1, .slice oc2 d1.vals.length k2] 55)).kept hg2 (apart_d (own1.alloc (.cells #[.string d1.name, .slice oc1 d1.cuts.length k1, .slice oc2 d1.vals.length k2] 55)) (r1.alloc (.cells #[.string d1.name, .slice oc1 d1.cuts.length k1, .slice oc2 d1.vals.length k2] 55)) (by decide))
      have L2 := OwnL.snoc (x := d1) (r1.alloc (.cells #[.string d1.name, .slice oc1 d1.cuts.length k1, .slice oc2 d1.vals.length k2] 55)) (dn1.below ((Below.refl _ _).alloc (Nat.le_refl _) _)) ((own_base q1 sd).alloc _) ((own_base q2 sd).alloc _) hg2 ho
      have A3 : Blk 27 (w2.setCell ⟨p, 0, none⟩ (.slice ov (d.attrs.length + 1) cv)) p #[.slice ov (d.attrs.length + 1) cv, .slice ovc d.classes.length cvc] := A2.setCell 0 (.slice ov (d.attrs.length + 1) cv)
      have R3 := R2.setCell_other ⟨p, 0, none⟩ (.slice ov (d.attrs.length + 1) cv) (show p ≠ w.heap.size by omega)
      have own3 := own_setCellN own2 p 0 (.slice ov (d.attrs.length + 1) cv) (own_ne_blk own2 A2 (by decide))
      have L3 := L2.cellB p 0 (.slice ov (d.attrs.length + 1) cv) A2
      have c3 := c2.cellW 0 (.slice ov (d.attrs.length + 1) cv) (show g ≠ p by omega)
      have g3 := grown_cell g2 (p := p) (k := 0) (by omega) (.slice ov (d.attrs.length + 1) cv)
      have HT : Hid (tinyS ⟨d.attrs ++ [d1], d.classes⟩) := ⟨by show (d.attrs ++ [d1]).length ≤ 6; rw [List.length_append, List.length_singleton]; have := HSM.out.1; omega, fun x hx => by
        rcases List.mem_append.1 hx with hx | hx
        · exact htn.each x hx
        · rw [List.mem_singleton] at hx; rw [hx]; exact htd, htn.classes, htn.sizes⟩
      clear hg2 hnil A1 A2 R1 R2 c2 g2 ho a2 f2 a1 a1' Ad Rd cd od gd rd dd sd d0 d3 hvo r1 dn1 own1 own2 L2 q1 q2 h1 cc1 s1 htd hpd
      go_wp2_with (first | (with_reducible refine wp_sc_load rfl _ rfl ?_; refine ⟨p, rfl, _, _, A3, ?_⟩) | (with_reducible refine wp_sc_store rfl _ _ rfl ?_; refine ⟨w.heap.size, rfl, _, _, _, _, _, _, rfl, _, _, R3, ?_⟩))
      exact bodyPost_ret (res_sc rfl _ _ _ _ _ rfl (Blk.setRow R3 _)) rfl ⟨_, ⟨d.attrs ++ [d1], d.classes⟩, rfl, ⟨_, _, rfl, OwnL.base (OwnL.setRow L3 _ _ (by omega)) (by omega), own_base (own_setRow own3 _ _ (by omega)) (by omega)⟩, HT.out, IsCur.rowW c3 _ (by omega), grown_row g3 (Nat.le_refl _) _⟩
  have b0 : ((t : Int) == 0) = false := by rw [beq_eq_false_iff_ne]; omega
  by_cases t1 : t = 1
  · subst t1
    have Ad : Blk 27 w5.drew p #[.slice ova d.attrs.length cva, .slice ovc d.classes.length cvc] := A5
    have Rd : Blk 27 w5.drew w.heap.size #[.slice none 0 0, .slice none 0 0] := R5
    have cd : IsCur w5.drew g a len cap := c5
    have od : w5.drew.ownsRow (w.heap.size + 1) 9 1 (.slice ovc d.classes.length cvc) d.classes.length (d.classes.map Value.string) := o5
    have Ld : OwnL mid w5.drew (.slice ova d.attrs.length cva) d.attrs := ⟨ys, r5, n5⟩
    have gd : w.grownBy w5.drew (some g) := ⟨g5.os, g5.tape, g5.output, g5.size, g5.block⟩
    have hsd : w.heap.size + 1 ≤ w5.drew.heap.size := by have := Ad.lt; omega
    have e1 := pickS [⟨#[110, 111]⟩, ⟨#[111, 116, 104, 101, 114]⟩, ⟨#[]⟩] g a len cap zs w5.drew cd (HR.out _ gd) (by simp) (by simp)
    simp only [List.map_cons, List.map_nil, List.length_cons, List.length_nil, Nat.zero_add, Nat.reduceAdd] at e1
    have d0 : w5.drew.cell? ⟨p, 1, none⟩ = some (.slice ovc d.classes.length cvc) := Ad.cell 1
    have d1' : (w5.drew.alloc (.cells #[.string ⟨#[110, 111]⟩, .string ⟨#[111, 116, 104, 101, 114]⟩, .string ⟨#[]⟩] 9)).cell? ⟨p, 1, none⟩ = some (.slice ovc d.classes.length cvc) := (Ad.alloc _).cell 1
    have d3 : w5.cell? ⟨p, 1, none⟩ = some (.slice ovc d.classes.length cvc) := A5.cell 1
    have d4 : (w5.alloc (.cells #[.string ⟨#[110, 111]⟩, .string ⟨#[111, 116, 104, 101, 114]⟩, .string ⟨#[]⟩] 9)).cell? ⟨p, 1, none⟩ = some (.slice ovc d.classes.length cvc) := (A5.alloc _).cell 1
    have htl := htn.classes
    have hpd := own_ne_blk od Ad (by decide)
    clear R5 A5 c5 g5 o5 r5 n5
    go_wp2
    go_region_law (first
      | (refine step_wp rfl ?_; unfold Oper.wp; go_simp; go_at_call 93; refine e1.mono ?_; clear e1; rintro e w1 ⟨y, rfl, hy, cc1, h1⟩; have A1 := Ad.kept h1 (by intro e; cases e; omega); have a1 : w1.cell? ⟨p, 1, none⟩ = some (.slice ovc d.classes.length cvc) := A1.cell 1; have a1' : (w1.alloc (.cells #[.string y] 9)).cell? ⟨p, 1, none⟩ = some (.slice ovc d.classes.length cvc) := (A1.alloc _).cell 1; have r1 := own_curW od (by omega) h1; have s1 : w.heap.size + 1 ≤ w1.heap.size := Nat.le_trans hsd h1.size)
      | (refine step_wp rfl (wp_append_own _ _ _ 25 rfl (w.heap.size + 1) 9 i0 (.string ⟨#[]⟩) 1 16 Try.underlying25 hi hi0 hi1 hi2 rfl (by decide) _ _ _ rfl (r1.alloc (.cells #[.string y] 9)) ⟨w1.heap.size, 0, none⟩ 1 1 [.string y] rfl rfl (newc _ _ _) (by simp [Value.oneCell']) (by unfold maxLen; omega) (by omega) (by simp; omega) ?_); intro v' w2 ho hg2 hnil; obtain ⟨ov, cv, rfl⟩ := own_slice ho; have A2 := (A1.alloc (.cells #[.string y] 9)).kept hg2 hpd; have a2 : w2.cell? ⟨p, 1, none⟩ = some (.slice ovc d.classes.length cvc) := A2.cell 1; have f2 := A2.frozen 1))
    all_goals
      have R1 := Rd.kept h1 (by intro e; cases e; omega)
      have L1 := Ld.curW (by omega) h1
      have hro : ∀ j, (Value.slice ovc d.classes.length cvc).ownBlock = some j → w.heap.size + 1 ≤ j := fun j e => (r1.lt j e).1
      have R2 := (R1.alloc (.cells #[.string y] 9)).kept hg2 (fun e => by have := hro _ e; omega)
      have c2 := (cc1.alloc (.cells #[.string y] 9)).kept hg2 (fun e => by have := hro _ e; omega)
      have g2 := grown_own (grown_trans (grown_trans gd h1) (grown_alloc w1 (.cells #[.string y] 9) _)) hg2 (fun j e => by have := hro _ e; omega)
      have L2 := (L1.below ((Below.refl _ _).alloc (Nat.le_refl _) (.cells #[.string y] 9))).low hg2 hvm
      have A3 : Blk 27 (w2.setCell ⟨p, 1, none⟩ (.slice ov (d.classes.length + 1) cv)) p #[.slice ova d.attrs.length cva, .slice ov (d.classes.length + 1) cv] := A2.setCell 1 (.slice ov (d.classes.length + 1) cv)
      have R3 := R2.setCell_other ⟨p, 1, none⟩ (.slice ov (d.classes.length + 1) cv) (show p ≠ w.heap.size by omega)
      have L3 := L2.cellB p 1 (.slice ov (d.classes.length + 1) cv) A2
      have ho3 := own_castD (own_setCellN ho p 1 (.slice ov (d.classes.length + 1) cv) (own_ne_blk ho A2 (by decide))) (show d.classes.length + 1 = (d.classes ++ [y]).length by simp) (show _ = (d.classes ++ [y]).map Value.string by simp)
      have c3 := c2.cellW 1 (.slice ov (d.classes.length + 1) cv) (show g ≠ p by omega)
      have g3 := grown_cell g2 (p := p) (k := 1) (by omega) (.slice ov (d.classes.length + 1) cv)
      have HT : Hid (tinyS ⟨d.attrs, d.classes ++ [y]⟩) := ⟨htn.attrs, htn.each, by show (d.classes ++ [y]).length ≤ 4; rw [List.length_append, List.length_singleton]; have := HSM.out.2.2; omega, fun x hx => by
        rcases List.mem_append.1 hx with hx | hx
        · exact htn.sizes x hx
        · rw [List.mem_singleton] at hx; rw [hx]; exact (by decide +kernel : ∀ y ∈ ([⟨#[110, 111]⟩, ⟨#[111, 116, 104, 101, 114]⟩, ⟨#[]⟩] : List ByteArray), y.size ≤ 16) y hy⟩
      clear hg2 hnil A1 A2 R1 R2 c2 g2 ho a2 f2 a1 a1' Ad Rd cd od Ld gd d0 d1' d3 d4 r1 L1 L2 h1 cc1 s1 hy htl hpd hsd hro
      go_wp2_with (first | (with_reducible refine wp_sc_load rfl _ rfl ?_; refine ⟨p, rfl, _, _, A3, ?_⟩) | (with_reducible refine wp_sc_store rfl _ _ rfl ?_; refine ⟨w.heap.size, rfl, _, _, _, _, _, _, rfl, _, _, R3, ?_⟩))
      exact bodyPost_ret (res_sc rfl _ _ _ _ _ rfl (Blk.setRow R3 _)) rfl ⟨_, ⟨d.attrs, d.classes ++ [y]⟩, rfl, ⟨_, _, rfl, OwnL.base (OwnL.setRow L3 _ _ (by omega)) (by omega), own_base (own_setRow ho3 _ _ (by omega)) (by omega)⟩, HT.out, IsCur.rowW c3 _ (by omega), grown_row g3 (Nat.le_refl _) _⟩
  have b1 : ((t : Int) == 1) = false := by rw [beq_eq_false_iff_ne]; omega
  have L5 : OwnL mid w5 (.slice ova d.attrs.length cva) d.attrs := ⟨ys, r5, n5⟩
  by_cases t2 : t = 2
  · subst t2
    have a6 : w5.cell? ⟨p, 0, none⟩ = some (.slice ova d.attrs.length cva) := A5.cell 0
    have f6 := A5.frozen 0
    have A6 : Blk 27 (w5.setCell ⟨p, 0, none⟩ (.slice (some ⟨w5.heap.size, 0, none⟩) 0 0)) p #[(.slice (some ⟨w5.heap.size, 0, none⟩) 0 0), .slice ovc d.classes.length cvc] := A5.setCell 0 (.slice (some ⟨w5.heap.size, 0, none⟩) 0 0)
    have R6 := R5.setCell_other ⟨p, 0, none⟩ (.slice (some ⟨w5.heap.size, 0, none⟩) 0 0) (show p ≠ w.heap.size by omega)
    have o6 := own_setCellN o5 p 0 (.slice (some ⟨w5.heap.size, 0, none⟩) 0 0) (own_ne_blk o5 A5 (by decide))
    have c6 := c5.cellW 0 (.slice (some ⟨w5.heap.size, 0, none⟩) 0 0) (show g ≠ p by omega)
    have g6 := grown_cell g5 (p := p) (k := 0) (by omega) (.slice (some ⟨w5.heap.size, 0, none⟩) 0 0)
    have A7 := A6.alloc (.cells #[] 55)
    have R7 := R6.alloc (.cells #[] 55)
    have c7 := c6.alloc (.cells #[] 55)
    have g7 := grown_trans g6 (grown_alloc _ (.cells #[] 55) _)
    have o7 := o6.alloc (.cells #[] 55)
    have L7 : OwnL (w.heap.size + 1) ((w5.setCell ⟨p, 0, none⟩ (.slice (some ⟨w5.heap.size, 0, none⟩) 0 0)).alloc (.cells #[] 55)) (.slice (some ⟨w5.heap.size, 0, none⟩) 0 0) [] := by
      refine ⟨[], ?_, fun j hj => by simp at hj⟩
      have := ownA_lit0D (w5.setCell ⟨p, 0, none⟩ (.slice (some ⟨w5.heap.size, 0, none⟩) 0 0)) (w.heap.size + 1) (by simp [World.setCell]; omega)
      rwa [show (w5.setCell ⟨p, 0, none⟩ (.slice (some ⟨w5.heap.size, 0, none⟩) 0 0)).heap.size = w5.heap.size by simp [World.setCell]] at this
    have HT : Hid (tinyS ⟨[], d.classes⟩) := ⟨by show ([] : List AttrD).length ≤ 6; simp, fun x hx => by simp at hx, htn.classes, htn.sizes⟩
    clear A6 R6 o6 c6 g6
    go_wp2_with (first | (with_reducible refine wp_sc_load rfl _ rfl ?_; refine ⟨p, rfl, _, _, A7, ?_⟩) | (with_reducible refine wp_sc_store rfl _ _ rfl ?_; refine ⟨w.heap.size, rfl, _, _, _, _, _, _, rfl, _, _, R7, ?_⟩))
    exact bodyPost_ret (res_sc rfl _ _ _ _ _ rfl (Blk.setRow R7 _)) rfl ⟨_, ⟨([] : List AttrD), d.classes⟩, rfl, ⟨_, _, rfl, OwnL.base (OwnL.setRow L7 _ _ (by omega)) (by omega), own_base (own_setRow o7 _ _ (by omega)) (by omega)⟩, HT.out, IsCur.rowW c7 _ (by omega), grown_row g7 (Nat.le_refl _) _⟩
  have b2 : ((t : Int) == 2) = false := by rw [beq_eq_false_iff_ne]; omega
  by_cases t3 : t = 3
  · subst t3
    have a6 : w5.cell? ⟨p, 1, none⟩ = some (.slice ovc d.classes.length cvc) := A5.cell 1
    have f6 := A5.frozen 1
    have hcl := HSM.out.2.1
    obtain ⟨gq, rfl, hcap⟩ : ∃ gq, ovc = some ⟨gq, 0, none⟩ ∧ d.classes.length ≤ cvc := by
      rcases o5.2 with ⟨e, h0⟩ | ⟨gq, cq, cur, e, _, _, hle, _⟩
      · omega
      · cases e; exact ⟨gq, rfl, hle⟩
    have h1c : (1 : Int) ≤ (cvc : Int) := by omega
    have A7 : Blk 27 (w5.setCell ⟨p, 1, none⟩ (.slice (some ⟨gq, 0, none⟩) 1 cvc)) p #[.slice ova d.attrs.length cva, .slice (some ⟨gq, 0, none⟩) 1 cvc] := A5.setCell 1 (.slice (some ⟨gq, 0, none⟩) 1 cvc)
    have R7 := R5.setCell_other ⟨p, 1, none⟩ (.slice (some ⟨gq, 0, none⟩) 1 cvc) (show p ≠ w.heap.size by omega)
    have o7 : World.ownsRow (w5.setCell ⟨p, 1, none⟩ (.slice (some ⟨gq, 0, none⟩) 1 cvc)) (w.heap.size + 1) 9 1 (.slice (some ⟨gq, 0, none⟩) 1 cvc) (d.classes.take 1).length ((d.classes.take 1).map Value.string) := by
      have h1 := own_setCellN (own_cutD o5 (m := 1) (by omega) (by omega)) p 1 (.slice (some ⟨gq, 0, none⟩) 1 cvc) (own_ne_blk (own_cutD o5 (m := 1) (by omega) (by omega)) A5 (by decide))
      exact own_castD h1 (by rw [List.length_take]; omega) (by rw [List.map_take])
    have c7 := c5.cellW 1 (.slice (some ⟨gq, 0, none⟩) 1 cvc) (show g ≠ p by omega)
    have g7 := grown_cell g5 (p := p) (k := 1) (by omega) (.slice (some ⟨gq, 0, none⟩) 1 cvc)
    have L7 := L5.cellB p 1 (.slice (some ⟨gq, 0, none⟩) 1 cvc) A5
    have HT : Hid (tinyS ⟨d.attrs, d.classes.take 1⟩) := ⟨htn.attrs, htn.each, by show (d.classes.take 1).length ≤ 4; rw [List.length_take]; omega, fun x hx => htn.sizes x (List.mem_of_mem_take hx)⟩
    have hsl : ¬ ((cvc : Int) < 1) := by omega
    go_wp2_with (first | (with_reducible refine wp_sc_load rfl _ rfl ?_; refine ⟨p, rfl, _, _, A7, ?_⟩) | (with_reducible refine wp_sc_store rfl _ _ rfl ?_; refine ⟨w.heap.size, rfl, _, _, _, _, _, _, rfl, _, _, R7, ?_⟩))
    exact bodyPost_ret (res_sc rfl _ _ _ _ _ rfl (Blk.setRow R7 _)) rfl ⟨_, ⟨d.attrs, d.classes.take 1⟩, rfl, ⟨_, _, rfl, OwnL.base (OwnL.setRow L7 _ _ (by omega)) (by omega), own_base (own_setRow o7 _ _ (by omega)) (by omega)⟩, HT.out, IsCur.rowW c7 _ (by omega), grown_row g7 (Nat.le_refl _) _⟩
  have b3 : ((t : Int) == 3) = false := by rw [beq_eq_false_iff_ne]; omega
  clear t0 t1 t2 t3
  go_wp2_with (first | (with_reducible refine wp_sc_load rfl _ rfl ?_; refine ⟨p, rfl, _, _, A5, ?_⟩) | (with_reducible refine wp_sc_store rfl _ _ rfl ?_; refine ⟨w.heap.size, rfl, _, _, _, _, _, _, rfl, _, _, R5, ?_⟩))
  exact bodyPost_ret (res_sc rfl _ _ _ _ _ rfl (Blk.setRow R5 _)) rfl ⟨_, ⟨d.attrs, d.classes⟩, rfl, ⟨_, _, rfl, OwnL.base (OwnL.setRow L5 _ _ (by omega)) (by omega), own_base (own_setRow o5 _ _ (by omega)) (by omega)⟩, htn, IsCur.rowW c5 _ (by omega), grown_row g5 (Nat.le_refl _) _⟩
end Go.Proofs.Ytobimpgapfecoaa
/- Chapter 6 in plain words: bins, numbers in order, cuts that are reckoned. -/
namespace Go.Proofs.Ytobimpgapfecoaa
def binN (cs : List Int) (x : Int) : Nat := cs.countP fun c => decide (c < x)
theorem binN_step (cs : List Int) (x : Int) (k : Nat) (h : k < cs.length) : binN (cs.take (k + 1)) x = binN (cs.take k) x + (if cs.getD k 0 < x then 1 else 0) := by
  unfold binN
  rw [List.take_succ_eq_append_getElem h, List.countP_append]
  simp [List.getD, List.getElem?_eq_getElem h, List.countP_cons]
theorem binN_le (cs : List Int) (x : Int) : binN cs x ≤ cs.length := List.countP_le_length

def leB : Int → Int → Bool := fun x y => decide (x ≤ y)
def sortI (zs : List Int) : List Int := zs.mergeSort fun x y => decide (x ≤ y)
theorem sortI_perm (zs : List Int) : (sortI zs).Perm zs := List.mergeSort_perm _ _
theorem sortI_len (zs : List Int) : (sortI zs).length = zs.length := (sortI_perm zs).length_eq
theorem sortI_rise (zs : List Int) : (sortI zs).Pairwise (· ≤ ·) := by
  have := List.pairwise_mergeSort (le := fun x y : Int => decide (x ≤ y)) (fun a b c h1 h2 => by simp at *; omega) (fun a b => by simp; omega) zs
  unfold sortI
  exact this.imp (fun h => by simpa using h)
theorem sortI_nil : sortI [] = [] := by simp [sortI]
theorem sort_one {xs ys : List Int} (h1 : xs.Pairwise (· ≤ ·)) (h2 : xs.Perm ys) : xs = sortI ys :=
  List.Perm.eq_of_pairwise (le := (· ≤ ·)) (fun a b _ _ h1 h2 => by omega) h1 (sortI_rise ys) (h2.trans (sortI_perm ys).symm)
theorem rise_at {xs : List Int} (h : xs.Pairwise (· ≤ ·)) {i j : Nat} (hij : i ≤ j) (hj : j < xs.length) : xs.getD i 0 ≤ xs.getD j 0 := by
  by_cases e : i = j
  · subst e; exact Int.le_refl _
  · have := List.pairwise_iff_getElem.1 h i j (by omega) hj (by omega)
    simpa [List.getD, List.getElem?_eq_getElem hj, List.getElem?_eq_getElem (show i < xs.length by omega)] using this
/-- A number put in its place. -/
theorem sort_put {ys : List Int} {x : Int} {at' : Nat} (h : at' ≤ (sortI ys).length) (h1 : ∀ j, at' ≤ j → j < (sortI ys).length → x < (sortI ys).getD j 0) (h2 : at' = 0 ∨ (sortI ys).getD (at' - 1) 0 ≤ x) :
    (sortI ys).take at' ++ [x] ++ (sortI ys).drop at' = sortI (ys ++ [x]) := by
  have R := sortI_rise ys
  have Pm := sortI_perm ys
  generalize sortI ys = out at *
  refine sort_one ?_ ?_
  · rw [List.append_assoc, List.pairwise_append]
    refine ⟨R.take, ?_, ?_⟩
    · rw [List.singleton_append, List.pairwise_cons]
      refine ⟨?_, R.drop⟩
      intro b hb
      obtain ⟨j, hj, rfl⟩ := List.getElem_of_mem hb
      rw [List.getElem_drop]
      rw [List.length_drop] at hj
      have := h1 (at' + j) (by omega) (by omega)
      simp [List.getD, List.getElem?_eq_getElem (show at' + j < out.length by omega)] at this
      omega
    · intro a ha b hb
      obtain ⟨i, hi, rfl⟩ := List.getElem_of_mem ha
      rw [List.length_take] at hi
      rw [List.getElem_take]
      have hx : out.getD i 0 ≤ x := by
        rcases h2 with h2 | h2
        · omega
        · have := rise_at R (show i ≤ at' - 1 by omega) (by omega)
          omega
      have ei : out.getD i 0 = out[i]'(by omega) := by simp [List.getD, List.getElem?_eq_getElem (show i < out.length by omega)]
      rw [List.singleton_append] at hb
      rcases List.mem_cons.1 hb with rfl | hb
      · omega
      · obtain ⟨j, hj, rfl⟩ := List.getElem_of_mem hb
        rw [List.getElem_drop]
        rw [List.length_drop] at hj
        have := h1 (at' + j) (by omega) (by omega)
        simp [List.getD, List.getElem?_eq_getElem (show at' + j < out.length by omega)] at this
        omega
  · rw [List.append_assoc, List.singleton_append]
    refine List.perm_middle.trans ?_
    rw [List.take_append_drop]
    exact (Pm.cons x).trans (List.perm_append_singleton x ys).symm

def rightK (k : Int) : Bool := decide (2 ≤ k ∧ k ≤ 4)
def cutIn (c : Int) : Bool := decide (-9999 ≤ c ∧ c ≤ 9998)
def eqAt (lo hi k : Int) (m : Nat) : List Int := (List.range m).map fun i : Nat => lo + ((hi - lo) * ((i : Int) + 1)) / k
theorem eqAt_succ (lo hi k : Int) (m : Nat) : eqAt lo hi k (m + 1) = eqAt lo hi k m ++ [lo + ((hi - lo) * ((m : Int) + 1)) / k] := by
  simp [eqAt, List.range_succ]
theorem eqAt_len (lo hi k : Int) (m : Nat) : (eqAt lo hi k m).length = m := by simp [eqAt]
def equalC (lo hi k : Int) : List Int :=
  if 2 ≤ k ∧ k ≤ 4 ∧ -9999 ≤ lo ∧ lo ≤ 9998 ∧ -9999 ≤ hi ∧ hi ≤ 9998 ∧ k ≤ hi - lo then eqAt lo hi k (k.toNat - 1) else []

theorem equalC_len (lo hi k : Int) : (equalC lo hi k).length ≤ 3 := by
  unfold equalC
  split
  · rw [eqAt_len]; omega
  · simp

def qAt (up : List Int) (k : Int) (i : Nat) : Int := up.getD (((up.length : Int) * i) / k).toNat 0
def qPut (out : List Int) (x : Int) : List Int := if out.length = 0 ∨ out.getD (out.length - 1) 0 < x then out ++ [x] else out
def qTo (up : List Int) (k : Int) : Nat → List Int
  | 0 => []
  | m + 1 => qPut (qTo up k m) (qAt up k (m + 1))
theorem qTo_len (up : List Int) (k : Int) (m : Nat) : (qTo up k m).length ≤ m := by
  induction m with
  | zero => simp [qTo]
  | succ m ih =>
    unfold qTo qPut
    split
    · simp; omega
    · omega
def allIn (zs : List Int) : Bool := zs.all cutIn
def quantC (zs : List Int) (k : Int) : List Int :=
  if 2 ≤ k ∧ k ≤ 4 ∧ 1 ≤ zs.length ∧ zs.length ≤ 64 ∧ allIn zs = true then qTo (sortI zs) k (k.toNat - 1) else []
theorem quantC_len (zs : List Int) (k : Int) : (quantC zs k).length ≤ 3 := by
  unfold quantC
  split
  · have := qTo_len (sortI zs) k (k.toNat - 1)
    omega
  · simp
theorem allIn_ends {zs : List Int} (h : 0 < zs.length) : allIn zs = (decide (-9999 ≤ (sortI zs).getD 0 0) && decide ((sortI zs).getD (zs.length - 1) 0 ≤ 9998)) := by
  have e : allIn zs = allIn (sortI zs) := by
    unfold allIn
    rw [Bool.eq_iff_iff, List.all_eq_true, List.all_eq_true]
    exact ⟨fun H x hx => H x ((sortI_perm zs).mem_iff.1 hx), fun H x hx => H x ((sortI_perm zs).mem_iff.2 hx)⟩
  have R := sortI_rise zs
  have L := sortI_len zs
  rw [e, ← L]
  rw [← L] at h
  generalize sortI zs = out at *
  have gd : ∀ i (hi : i < out.length), out.getD i 0 = out[i] := fun i hi => by simp [List.getD, List.getElem?_eq_getElem hi]
  unfold allIn
  rw [Bool.eq_iff_iff, List.all_eq_true, Bool.and_eq_true, decide_eq_true_eq, decide_eq_true_eq]
  constructor
  · intro H
    have a := H _ (List.getElem_mem h)
    have b := H _ (List.getElem_mem (show out.length - 1 < out.length by omega))
    rw [gd 0 h, gd _ (show out.length - 1 < out.length by omega)]
    simp [cutIn] at a b
    omega
  · rintro ⟨a, b⟩ x hx
    obtain ⟨i, hi, rfl⟩ := List.getElem_of_mem hx
    have c := rise_at R (show 0 ≤ i by omega) hi
    have d := rise_at R (show i ≤ out.length - 1 by omega) (by omega)
    rw [gd i hi] at c d
    simp [cutIn]
    omega
/-- The place that is asked lies within. -/
theorem q_in {n : Nat} {k : Int} {i : Nat} (hk : 2 ≤ k) (hn : 0 < n) (hi : (i : Int) < k) : 0 ≤ ((n : Int) * i) / k ∧ ((n : Int) * i) / k < n := by
  have h0 : 0 ≤ (n : Int) * i := Int.mul_nonneg (by omega) (by omega)
  refine ⟨Int.ediv_nonneg h0 (by omega), ?_⟩
  refine Int.ediv_lt_of_lt_mul (by omega) ?_
  exact Int.mul_lt_mul_of_pos_left hi (by omega)
end Go.Proofs.Ytobimpgapfecoaa
/- Which number a text is the digits of: plain facts on lists of bytes. -/
namespace Go.Proofs.Ytobimpgapfecoaa

theorem dig_byte (d : Nat) (h : d < 10) : (UInt8.ofNat (48 + d)).toNat = 48 + d := by
  rw [UInt8.toNat_ofNat']; omega
theorem dig_val (d : Nat) (h : d < 10) : Lib.digitVal (UInt8.ofNat (48 + d)) = some d := by
  unfold Lib.digitVal
  rw [dig_byte d h, if_pos (by omega)]
  congr 1; omega

theorem decFrom_append (a b : List UInt8) : ∀ acc, Lib.decFrom acc (a ++ b) = (Lib.decFrom acc a).bind fun n => Lib.decFrom n b := by
  induction a with
  | nil => intro acc; rfl
  | cons c r ih =>
    intro acc
    simp only [List.cons_append, Lib.decFrom]
    cases Lib.digitVal c with
    | none => rfl
    | some d => exact ih _

theorem decFrom_digits (u : Nat) : Lib.decFrom 0 (Lib.decDigits u) = some u := by
  induction u using Nat.strongRecOn with
  | _ u ih =>
    rw [Lib.decDigits]
    by_cases h : u < 10
    · rw [dif_pos h]; simp only [Lib.decFrom, dig_val u h]; congr 1; omega
    · rw [dif_neg h, decFrom_append, ih (u / 10) (by omega)]
      simp only [Option.bind_some, Lib.decFrom, dig_val (u % 10) (by omega)]
      congr 1; omega

theorem digits_len (k : Nat) : ∀ u, u < 10 ^ (k + 1) → 1 ≤ (Lib.decDigits u).length ∧ (Lib.decDigits u).length ≤ k + 1 := by
  induction k with
  | zero => intro u h; rw [Lib.decDigits, dif_pos (by simpa using h)]; simp
  | succ k ih =>
    intro u h
    rw [Lib.decDigits]
    by_cases h10 : u < 10
    · rw [dif_pos h10]; simp
    · rw [dif_neg h10]
      have := ih (u / 10) (by rw [Nat.pow_succ] at h; omega)
      simp; omega

theorem decFrom_mono : ∀ (l : List UInt8) (acc v : Nat), Lib.decFrom acc l = some v → acc ≤ v
  | [], acc, v, h => by simp only [Lib.decFrom, Option.some.injEq] at h; omega
  | c :: r, acc, v, h => by
    simp only [Lib.decFrom] at h
    cases hd : Lib.digitVal c with
    | none => simp [hd] at h
    | some d => rw [hd] at h; have := decFrom_mono r _ v h; omega

theorem digitVal_inv {c : UInt8} {d : Nat} (h : Lib.digitVal c = some d) : 48 ≤ c.toNat ∧ c.toNat ≤ 57 ∧ d = c.toNat - 48 := by
  unfold Lib.digitVal at h
  split at h
  · next hc => simp only [Option.some.injEq] at h; exact ⟨hc.1, hc.2, h.symm⟩
  · cases h

theorem parse_of : ∀ (l : List UInt8) (acc v : Nat), Lib.decFrom acc l = some v → v < 1000000000000000000 → Lib.parseUint10 acc l = .ok v
  | [], acc, v, h, _ => by simp only [Lib.decFrom, Option.some.injEq] at h; rw [h]; rfl
  | c :: r, acc, v, h, hv => by
    simp only [Lib.decFrom] at h
    cases hd : Lib.digitVal c with
    | none => simp [hd] at h
    | some d =>
      rw [hd] at h
      obtain ⟨h1, h2, rfl⟩ := digitVal_inv hd
      have hm := decFrom_mono r _ v h
      rw [Lib.parseUint10, if_pos ⟨h1, h2⟩, if_neg (by omega), if_neg (by omega)]
      exact parse_of r _ v h hv

/-- The first byte of a row of digits is no sign. -/
theorem digits_head (u : Nat) : ∃ c r, Lib.decDigits u = c :: r ∧ 48 ≤ c.toNat ∧ c.toNat ≤ 57 := by
  have h := decFrom_digits u
  have hne : Lib.decDigits u ≠ [] := by
    rw [Lib.decDigits]; split <;> simp
  cases hl : Lib.decDigits u with
  | nil => exact absurd hl hne
  | cons c r =>
    rw [hl] at h
    simp only [Lib.decFrom] at h
    cases hd : Lib.digitVal c with
    | none => simp [hd] at h
    | some d => obtain ⟨h1, h2, _⟩ := digitVal_inv hd; exact ⟨c, r, rfl, h1, h2⟩

theorem atoi_nat (u : Nat) (h : u < 1000000000000000000) : Lib.atoiAll (Lib.decDigits u) = .ok (u : Int) := by
  obtain ⟨c, r, hl, h1, h2⟩ := digits_head u
  have hp : Lib.parseUint10 0 (c :: r) = .ok u := parse_of _ 0 u (by rw [← hl]; exact decFrom_digits u) h
  have hm : Lib.parseMag (c :: r) = .ok u := by rw [Lib.parseMag, if_neg (by simp)]; exact hp
  have hs : ¬ (c.toNat = 43 ∨ c.toNat = 45) := by omega
  have hs2 : ¬ c.toNat = 45 := by omega
  rw [hl, Lib.atoiAll]
  simp only [if_neg hs, hm]
  rw [if_neg (by omega), if_neg (by omega), if_neg hs2]
theorem atoi_neg (u : Nat) (h : u < 1000000000000000000) : Lib.atoiAll (45 :: Lib.decDigits u) = .ok (-(u : Int)) := by
  obtain ⟨c, r, hl, h1, h2⟩ := digits_head u
  have hp : Lib.parseUint10 0 (c :: r) = .ok u := parse_of _ 0 u (by rw [← hl]; exact decFrom_digits u) h
  have hm : Lib.parseMag (c :: r) = .ok u := by rw [Lib.parseMag, if_neg (by simp)]; exact hp
  have e45 : (45 : UInt8).toNat = 45 := rfl
  have hs : (45 : UInt8).toNat = 43 ∨ (45 : UInt8).toNat = 45 := .inr rfl
  rw [hl, Lib.atoiAll]
  simp only [if_pos hs, hm]
  rw [if_neg (by omega), if_neg (by omega), if_pos e45]
theorem atoi_itoa (n : Int) (h0 : -999999 ≤ n) (h1 : n ≤ 999999) : Lib.atoiAll (Lib.itoa n) = .ok n := by
  unfold Lib.itoa
  split
  · rw [atoi_neg n.natAbs (by omega)]; congr 1; omega
  · rw [atoi_nat n.toNat (by omega)]; congr 1; omega

/-- What mustDigits finds: the number from lo to hi of which l is the digits. -/
def must (lo hi : Int) (l : List UInt8) : Option Int :=
  match Lib.atoiAll l with
  | .ok v => if lo ≤ v ∧ v ≤ hi ∧ Lib.itoa v = l then some v else none
  | _ => none
theorem must_iff (lo hi : Int) (h0 : -999999 ≤ lo) (h1 : hi ≤ 999999) (l : List UInt8) (v : Int) : must lo hi l = some v ↔ lo ≤ v ∧ v ≤ hi ∧ Lib.itoa v = l := by
  unfold must
  constructor
  · intro h
    split at h
    · split at h
      · next hc => simp only [Option.some.injEq] at h; subst h; exact hc
      · cases h
    · cases h
  · rintro ⟨a, b, rfl⟩
    rw [atoi_itoa v (by omega) (by omega)]
    simp [a, b]

/-- What the specification's Number finds. -/
def numSpec (l : List UInt8) : Option Int :=
  if 1 ≤ l.length ∧ l.length ≤ 6 then
    match Lib.decFrom 0 l with
    | some v => if Lib.itoa v = l then some (v : Int) else none
    | none => none
  else none
theorem decFrom_lt : ∀ (l : List UInt8) (acc v : Nat), Lib.decFrom acc l = some v → v < (acc + 1) * 10 ^ l.length
  | [], acc, v, h => by simp only [Lib.decFrom, Option.some.injEq] at h; simp; omega
  | c :: r, acc, v, h => by
    simp only [Lib.decFrom] at h
    cases hd : Lib.digitVal c with
    | none => simp [hd] at h
    | some d =>
      rw [hd] at h
      obtain ⟨h1, h2, rfl⟩ := digitVal_inv hd
      have := decFrom_lt r _ v h
      rw [List.length_cons, Nat.pow_succ]
      have hle : (acc * 10 + (c.toNat - 48) + 1) * 10 ^ r.length ≤ ((acc + 1) * 10) * 10 ^ r.length := Nat.mul_le_mul_right _ (by omega)
      rw [Nat.mul_comm (10 ^ r.length) 10, ← Nat.mul_assoc]
      omega
theorem numSpec_iff (l : List UInt8) (v : Int) : numSpec l = some v ↔ 0 ≤ v ∧ v ≤ 999999 ∧ Lib.itoa v = l := by
  unfold numSpec
  constructor
  · intro h
    split at h
    · next hl =>
      split at h
      · next u hu =>
        split at h
        · next hi =>
          simp only [Option.some.injEq] at h
          subst h
          have h2 := decFrom_lt l 0 u hu
          have h3 : 10 ^ l.length ≤ 10 ^ 6 := Nat.pow_le_pow_right (by decide) hl.2
          refine ⟨by omega, ?_, hi⟩
          simp only [Nat.zero_add, Nat.one_mul] at h2
          omega
        · cases h
      · cases h
    · cases h
  · rintro ⟨a, b, rfl⟩
    obtain ⟨u, rfl⟩ := Int.eq_ofNat_of_zero_le a
    have e : Lib.itoa (u : Int) = Lib.decDigits u := by rw [Lib.itoa, if_neg (by omega)]; simp
    rw [e, if_pos (digits_len 5 u (by omega)), decFrom_digits]
    simp [e]
theorem number_one (l : List UInt8) : numSpec l = must 0 999999 l := by
  apply Option.ext
  intro v
  rw [numSpec_iff, must_iff 0 999999 (by decide) (by decide)]

/-- What the specification's Signed finds. -/
def sigSpec (l : List UInt8) : Option Int :=
  if 1 ≤ l.length ∧ l.length ≤ 5 then
    if l.head? = some 45 then
      match numSpec l.tail with
      | some v => if 1 ≤ v ∧ v ≤ 9999 then some (0 - v) else none
      | none => none
    else
      match numSpec l with
      | some v => if v ≤ 9999 then some v else none
      | none => none
  else none
theorem itoa_neg (u : Nat) (h : 0 < u) : Lib.itoa (-(u : Int)) = 45 :: Lib.decDigits u := by rw [Lib.itoa, if_pos (by omega)]; simp
theorem itoa_nat (u : Nat) : Lib.itoa (u : Int) = Lib.decDigits u := by rw [Lib.itoa, if_neg (by omega)]; simp
theorem sigSpec_iff (l : List UInt8) (v : Int) : sigSpec l = some v ↔ -9999 ≤ v ∧ v ≤ 9999 ∧ Lib.itoa v = l := by
  unfold sigSpec
  constructor
  · intro h
    split at h
    · split at h
      · next hh =>
        split at h
        · next x hx =>
          split at h
          · next hc =>
            simp only [Option.some.injEq] at h
            subst h
            obtain ⟨a, b, c⟩ := (numSpec_iff _ _).1 hx
            obtain ⟨u, rfl⟩ := Int.eq_ofNat_of_zero_le a
            refine ⟨by omega, by omega, ?_⟩
            rw [show (0 : Int) - (u : Int) = -(u : Int) by omega, itoa_neg u (by omega), ← itoa_nat, c]
            cases l with
            | nil => simp at hh
            | cons y r => simp only [List.head?_cons, Option.some.injEq] at hh; subst hh; rfl
          · cases h
        · cases h
      · split at h
        · next x hx =>
          split at h
          · next hc =>
            simp only [Option.some.injEq] at h
            subst h
            obtain ⟨a, b, c⟩ := (numSpec_iff _ _).1 hx
            exact ⟨by omega, hc, c⟩
          · cases h
        · cases h
    · cases h
  · rintro ⟨a, b, rfl⟩
    by_cases hn : v < 0
    · obtain ⟨u, rfl⟩ : ∃ u : Nat, v = -(u : Int) := ⟨v.natAbs, by omega⟩
      have hx : numSpec (Lib.decDigits u) = some (u : Int) := (numSpec_iff _ _).2 ⟨by omega, by omega, itoa_nat u⟩
      have hl := digits_len 3 u (by omega)
      rw [itoa_neg u (by omega), if_pos (by simp; omega)]
      simp only [List.head?_cons, if_true, List.tail_cons, hx]
      rw [if_pos (by omega)]
      congr 1; omega
    · obtain ⟨u, rfl⟩ := Int.eq_ofNat_of_zero_le (show 0 ≤ v by omega)
      have hx : numSpec (Lib.decDigits u) = some (u : Int) := (numSpec_iff _ _).2 ⟨by omega, by omega, itoa_nat u⟩
      have hl := digits_len 3 u (by omega)
      obtain ⟨c, r, hcr, h1, h2⟩ := digits_head u
      rw [itoa_nat u, if_pos (by omega)]
      have hh : ¬ (Lib.decDigits u).head? = some 45 := by
        rw [hcr]
        simp only [List.head?_cons, Option.some.injEq]
        intro e; subst e
        have : (45 : UInt8).toNat = 45 := rfl
        omega
      rw [if_neg hh, hx]
      simp only
      rw [if_pos (by omega)]
theorem signed_one (l : List UInt8) : sigSpec l = must (-9999) 9999 l := by
  apply Option.ext
  intro v
  rw [sigSpec_iff, must_iff (-9999) 9999 (by decide) (by decide)]
end Go.Proofs.Ytobimpgapfecoaa
