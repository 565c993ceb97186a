/- Texts of this claim, put together: part 12. -/
import Derived.Deep.RegionLaw
import Derived.Test.YtobimpgapfecoaaFnAnyOrderPack10
import Derived.Test.YtobimpgapfecoaaFnAnyOrderPack11
import Derived.Test.YtobimpgapfecoaaFnAnyOrderPack9
import Derived.Test.YtobimpgapfecoaaFnAnyOrderPack5
/- Draws of chapter 5: an attribute that is right. -/
namespace Go.Proofs.Ytobimpgapfecoaa
open Go.RowKit
set_option maxRecDepth 100000
set_option maxHeartbeats 3200000 in
theorem rightAttr_any (g : Nat) (a : Option Addr) (len cap : Nat) (zs : List Int) (i : Nat) (w : World) (hc : IsCur w g a len cap) (hr : IsRow .u8 w a len cap zs) (hi5 : i < 5) :
    Calls Try.prog 112 #[.pointer (some ⟨g, 0, none⟩), .int .i64 (i : Int)] w fun e w' => ∃ v d, e = .returned v ∧ OwnA w.heap.size w' v d ∧ d.name = nmL.getD i ByteArray.empty ∧ attrOk d = true ∧ tinyA d ∧ IsCur w' g a len cap ∧ w.grownBy w' (some g) := by
  have hgw : g < w.heap.size := hc.lt
  have HR : Hid (∀ w', w.grownBy w' (some g) → IsRow .u8 w' a len cap zs) := fun w' h => hr.aside hc h
  obtain ⟨i0, hi, hz0, hz1, hz2⟩ := info_parts intInfo
  obtain ⟨j0, hj, hj0, hj1, hj2⟩ := info_parts strInfo
  obtain ⟨NM, HE, HN1⟩ : ∃ NM, Hid (nmL.getD i ByteArray.empty = NM) ∧ Hid (wordOk NM = true ∧ NM.size ≤ 16) := ⟨_, rfl, nm_ok i hi5⟩
  have g3 : w.grownBy (((w.alloc (.cells #[.string ⟨#[]⟩, .slice none 0 0, .slice none 0 0] 55)).alloc (.cells #[.string ⟨#[97, 103, 101]⟩, .string ⟨#[115, 105, 122, 101]⟩, .string ⟨#[99, 111, 108, 111, 117, 114]⟩, .string ⟨#[107]⟩, .string ⟨#[108, 111, 110, 103, 110, 97, 109, 101]⟩] 9)).alloc (.cells #[.string ⟨#[]⟩, .slice none 0 0, .slice none 0 0] 55)) (some g) := grown_trans (grown_trans (grown_alloc w _ _) (grown_alloc _ _ _)) (grown_alloc _ _ _)
  have c3 := ((hc.alloc (.cells #[.string ⟨#[]⟩, .slice none 0 0, .slice none 0 0] 55)).alloc (.cells #[.string ⟨#[97, 103, 101]⟩, .string ⟨#[115, 105, 122, 101]⟩, .string ⟨#[99, 111, 108, 111, 117, 114]⟩, .string ⟨#[107]⟩, .string ⟨#[108, 111, 110, 103, 110, 97, 109, 101]⟩] 9)).alloc (.cells #[.string ⟨#[]⟩, .slice none 0 0, .slice none 0 0] 55)
  have R3 := ((Blk.new 55 w #[.string ⟨#[]⟩, .slice none 0 0, .slice none 0 0]).alloc (.cells #[.string ⟨#[97, 103, 101]⟩, .string ⟨#[115, 105, 122, 101]⟩, .string ⟨#[99, 111, 108, 111, 117, 114]⟩, .string ⟨#[107]⟩, .string ⟨#[108, 111, 110, 103, 110, 97, 109, 101]⟩] 9)).alloc (.cells #[.string ⟨#[]⟩, .slice none 0 0, .slice none 0 0] 55)
  have A3 : Blk 55 (((w.alloc (.cells #[.string ⟨#[]⟩, .slice none 0 0, .slice none 0 0] 55)).alloc (.cells #[.string ⟨#[97, 103, 101]⟩, .string ⟨#[115, 105, 122, 101]⟩, .string ⟨#[99, 111, 108, 111, 117, 114]⟩, .string ⟨#[107]⟩, .string ⟨#[108, 111, 110, 103, 110, 97, 109, 101]⟩] 9)).alloc (.cells #[.string ⟨#[]⟩, .slice none 0 0, .slice none 0 0] 55)) (w.heap.size + 1 + 1) #[.string ⟨#[]⟩, .slice none 0 0, .slice none 0 0] := by have := Blk.new 55 ((w.alloc (.cells #[.string ⟨#[]⟩, .slice none 0 0, .slice none 0 0] 55)).alloc (.cells #[.string ⟨#[97, 103, 101]⟩, .string ⟨#[115, 105, 122, 101]⟩, .string ⟨#[99, 111, 108, 111, 117, 114]⟩, .string ⟨#[107]⟩, .string ⟨#[108, 111, 110, 103, 110, 97, 109, 101]⟩] 9)) #[.string ⟨#[]⟩, .slice none 0 0, .slice none 0 0]; rwa [show ((w.alloc (.cells #[.string ⟨#[]⟩, .slice none 0 0, .slice none 0 0] 55)).alloc (.cells #[.string ⟨#[97, 103, 101]⟩, .string ⟨#[115, 105, 122, 101]⟩, .string ⟨#[99, 111, 108, 111, 117, 114]⟩, .string ⟨#[107]⟩, .string ⟨#[108, 111, 110, 103, 110, 97, 109, 101]⟩] 9)).heap.size = w.heap.size + 1 + 1 by simp] at this
  have nm : ((w.alloc (.cells #[.string ⟨#[]⟩, .slice none 0 0, .slice none 0 0] 55)).alloc (.cells #[.string ⟨#[97, 103, 101]⟩, .string ⟨#[115, 105, 122, 101]⟩, .string ⟨#[99, 111, 108, 111, 117, 114]⟩, .string ⟨#[107]⟩, .string ⟨#[108, 111, 110, 103, 110, 97, 109, 101]⟩] 9)).cell? ⟨w.heap.size + 1, i % 5, none⟩ = some (.string NM) := by
    rw [Nat.mod_eq_of_lt hi5, World.cell?_alloc_at _ _ _ _ (by simp), ← HE.out]
    have h : i = 0 ∨ i = 1 ∨ i = 2 ∨ i = 3 ∨ i = 4 := by omega
    rcases h with rfl | rfl | rfl | rfl | rfl <;> rfl
  have g4 := grown_row g3 (show w.heap.size ≤ w.heap.size + 1 + 1 by omega) #[.string NM, .slice none 0 0, .slice none 0 0]
  have c4 := c3.rowW #[.string NM, .slice none 0 0, .slice none 0 0] (show g ≠ w.heap.size + 1 + 1 by omega)
  have R4 := R3.setRow_other #[.string NM, .slice none 0 0, .slice none 0 0] (show w.heap.size ≠ w.heap.size + 1 + 1 by omega)
  have A4 := A3.setRow #[.string NM, .slice none 0 0, .slice none 0 0]
  clear hc hr g3 c3 R3
  go_enter Try.func112, Try.ntmps112
  go_wp2_with (with_reducible refine wp_at_store rfl _ _ rfl ?_; refine ⟨w.heap.size + 1 + 1, rfl, NM, none, 0, 0, none, 0, 0, rfl, _, _, _, A3, ?_⟩; clear A3 nm; generalize (((w.alloc (.cells #[.string ⟨#[]⟩, .slice none 0 0, .slice none 0 0] 55)).alloc (.cells #[.string ⟨#[97, 103, 101]⟩, .string ⟨#[115, 105, 122, 101]⟩, .string ⟨#[99, 111, 108, 111, 117, 114]⟩, .string ⟨#[107]⟩, .string ⟨#[108, 111, 110, 103, 110, 97, 109, 101]⟩] 9)).alloc (.cells #[.string ⟨#[]⟩, .slice none 0 0, .slice none 0 0] 55)).setRow (w.heap.size + 1 + 1) #[.string NM, .slice none 0 0, .slice none 0 0] = W at g4 c4 R4 A4 ⊢)
  obtain ⟨p, hp, hp1, hp2⟩ : ∃ p, w.heap.size + 1 + 1 = p ∧ w.heap.size + 2 ≤ p ∧ p < w.heap.size + 3 := ⟨_, rfl, by omega, by omega⟩
  rw [hp] at A4 ⊢
  clear hp
  have e1 := once_any g a len cap zs 2 W c4 (HR.out _ g4) (by decide) (by decide)
  have hA := A4.lt
  go_wp2_with fail
  refine e1.mono ?_
  clear e1
  rintro e w5 ⟨b, rfl, c5, h5⟩
  have g5 := grown_trans g4 h5
  have R5 := R4.kept h5 (by intro e; cases e; omega)
  have A5 := A4.kept h5 (by intro e; cases e; omega)
  clear h5 g4 c4 R4 A4 hA
  cases b with
  | true =>
    have e1 := l1Below_any g a len cap zs 3 w5 c5 (HR.out _ g5) (by decide) (by decide)
    go_wp2_with fail
    refine e1.mono ?_
    clear e1
    rintro e w6 ⟨x, rfl, hx, c6, h6⟩
    have g6 := grown_trans g5 h6
    have R6 := R5.kept h6 (by intro e; cases e; omega)
    have A6 := A5.kept h6 (by intro e; cases e; omega)
    clear h6 g5 c5 R5 A5
    have e1 := pickN [-9999, -7, 0, 3, 20] g a len cap zs w6 c6 (HR.out _ g6) (by simp) (by simp)
    simp only [List.map_cons, List.map_nil, List.length_cons, List.length_nil, Nat.zero_add, Nat.reduceAdd] at e1
    go_wp2_with fail
    refine e1.mono ?_
    clear e1
    rintro e w7 ⟨at0, rfl, hat, c7, h7⟩
    have hat0 : -9999 ≤ at0 ∧ at0 ≤ 20 := by
      simp only [List.mem_cons, List.not_mem_nil, or_false] at hat
      omega
    have g7 := grown_trans g6 h7
    have R7 := R6.kept h7 (by intro e; cases e; omega)
    have A7 := A6.kept h7 (by intro e; cases e; omega)
    clear h7 g6 c6 R6 A6 hat
    obtain ⟨l0, l1⟩ := hat0
    go_wp2
    go_loopw [7, 8] (fun t j wr => ∃ (k : Nat) (at' : Int) (vc : Value) (cs : List Int), j = .int .i64 k ∧ t = .int .i64 at' ∧ k ≤ x + 1 ∧ cs.length = k ∧ -9999 ≤ at' ∧ at' ≤ 20 + 6 * k ∧ Hid (∀ j, j < cs.length → cutAt cs j = true) ∧ Hid (cs.length = 0 ∨ cs.getD (cs.length - 1) 0 < at') ∧ Hid (∀ c ∈ cs, -9999 ≤ c ∧ c ≤ 38) ∧
        Blk 55 wr w.heap.size #[.string ⟨#[]⟩, .slice none 0 0, .slice none 0 0] ∧ Blk 55 wr (p) #[.string NM, vc, .slice none 0 0] ∧ wr.ownsRow (w.heap.size + 3) 3 1 vc cs.length (cs.map (Value.int .i64)) ∧ IsCur wr g a len cap ∧ w.grownBy wr (some g)) (fun _ j _ => x + 1 - (intOf j).toNat)
    case atStart => exact ⟨0, at0, _, [], rfl, rfl, by omega, rfl, l0, by omega, fun j hj => by simp at hj, .inl rfl, fun c hc => by simp at hc, R7, A7, World.ownsRow_nil _ _ _ _, c7, g7⟩
    case round =>
      obtain ⟨k, at', vc, cs, rfl, rfl, hk, hcl, t0, t1, HC, HB, HL, R, A, own, c8, g8⟩ := hrel
      clear R7 A7 c7 g7 l0 l1
      have hAl := A.lt
      have a1 := A.cell 1
      have a1' : wr.cell? ⟨p, 1, none⟩ = some vc := a1
      clear a1
      have hvo : ∀ j, vc.ownBlock = some j → w.heap.size + 3 ≤ j := fun j hj => (own.lt j hj).1
      by_cases hlt : k < x + 1
      · go_wp2_with (at_builtin; refine wpList_append_own _ rfl _ _ 28 rfl (w.heap.size + 3) 3 i0 (.int .i64 0) 1 8 Try.underlying28 hi hz0 hz1 hz2 rfl (by decide) _ _ _ rfl (own.alloc _) ⟨wr.heap.size, 0, none⟩ 1 1 [_] rfl rfl (newc _ _ _) (ints_oneCell .i64 [_]) (by unfold maxLen; omega) (by omega) (by simp; omega) ?_)
        intro v' w2 ho hg2 hnil
        obtain ⟨ov, cv, rfl⟩ := own_slice ho
        have A2 := (A.alloc (.cells #[.int .i64 at'] 3)).kept hg2 (fun e => by have := hvo _ e; omega)
        have R2 := (R.alloc (.cells #[.int .i64 at'] 3)).kept hg2 (fun e => by have := hvo _ e; omega)
        have c2 := (c8.alloc (.cells #[.int .i64 at'] 3)).kept hg2 (fun e => by have := hvo _ e; omega)
        have g2 := grown_own (grown_trans g8 (grown_alloc wr (.cells #[.int .i64 at'] 3) _)) hg2 (fun j e => by have := hvo _ e; omega)
        have a2 : w2.cell? ⟨p, 1, none⟩ = some vc := A2.cell 1
        have f2 := A2.frozen 1
        have A3 : Blk 55 (w2.setCell ⟨p, 1, none⟩ (.slice ov (k + 1) cv)) (p) #[.string NM, (.slice ov (k + 1) cv), .slice none 0 0] := A2.setCell 1 (.slice ov (k + 1) cv)
        have R3 := R2.setCell_other ⟨p, 1, none⟩ (.slice ov (k + 1) cv) (show p ≠ w.heap.size by omega)
        have o3 := own_setCell ho ⟨p, 1, none⟩ (.slice ov (k + 1) cv) (show p < w.heap.size + 3 by omega)
        have c3 := c2.cellW 1 (.slice ov (k + 1) cv) (show g ≠ p by omega)
        have g3 := grown_cell g2 (p := p) (k := 1) (by omega) (.slice ov (k + 1) cv)
        clear hg2 hnil A R c8 g8 own a1' ho A2 R2 c2 g2 hvo
        have e1 := l1Below_any g a len cap zs 6 _ c3 (HR.out _ g3) (by decide) (by decide)
        go_wp2_with fail
        refine e1.mono ?_
        clear e1
        rintro e w9 ⟨y, rfl, hy, c9, h9⟩
        have g9 := grown_trans g3 h9
        have R9 := R3.kept h9 (by intro e; cases e; omega)
        have A9 := A3.kept h9 (by intro e; cases e; omega)
        have o9 := own_curW o3 (by omega) h9
        clear h9 g3 c3 R3 A3 o3 a2 f2
        go_wp2
        go_roundw
        case rel =>
          refine ⟨k + 1, at' + 1 + y, (.slice ov (k + 1) cv), cs ++ [at'], by go_num, rfl, by omega, by simp [hcl], by omega, by omega, rise_snoc HC.out HB.out (by omega), .inr ?_, fun c hc => ?_, R9, A9, ?_, c9, g9⟩
          · rw [List.length_append, List.length_singleton, Nat.add_sub_cancel]
            simp [List.getD]; omega
          · rcases List.mem_append.1 hc with hc | hc
            · exact HL.out c hc
            · rw [List.mem_singleton] at hc; omega
          · rw [List.length_append, List.map_append, hcl]; exact o9
        case measure => simp [intOf]; omega
      · obtain ⟨ov, cv, rfl, -, -⟩ := RowI.of_own own rfl
        go_wp2_with (first | (with_reducible refine wp_at_load rfl _ rfl ?_; refine ⟨p, rfl, _, _, _, A, ?_⟩) | (with_reducible refine wp_at_store rfl _ _ rfl ?_; refine ⟨w.heap.size, rfl, _, _, _, _, _, _, _, rfl, _, _, _, R, ?_⟩))
        refine bodyPost_ret (res_at rfl _ _ _ _ _ _ rfl (R.setRow _)) rfl ⟨_, ⟨NM, cs, []⟩, rfl, ⟨_, _, rfl, own_base (own_setRow own _ _ (by omega)) (by omega), World.ownsRow_nil _ _ _ _⟩, HE.out.symm, ?_, ?_, c8.rowW _ (by omega), grown_row g8 (Nat.le_refl _) _⟩
        · have := right_cuts (i := i) (cs := cs) hi5 (by omega) (by omega) HC.out
          rwa [HE.out] at this
        · exact ⟨HN1.out.2, by show cs.length ≤ 4; omega, by show ([] : List ByteArray).length ≤ 5; simp, fun s hs => by simp at hs, fun c hc => by have := HL.out c hc; omega⟩
  | false =>
    have e1 := l1Below_any g a len cap zs 3 w5 c5 (HR.out _ g5) (by decide) (by decide)
    go_wp2_with fail
    refine e1.mono ?_
    clear e1
    rintro e w7 ⟨x, rfl, hx, c7, h7⟩
    have g7 := grown_trans g5 h7
    have R7 := R5.kept h7 (by intro e; cases e; omega)
    have A7 := A5.kept h7 (by intro e; cases e; omega)
    clear h7 g5 c5 R5 A5
    go_wp2
    go_loopw [10] (fun j wr => ∃ (k : Nat) (vv : Value), j = .int .i64 k ∧ k ≤ x + 2 ∧
        Blk 55 wr w.heap.size #[.string ⟨#[]⟩, .slice none 0 0, .slice none 0 0] ∧ Blk 55 wr p #[.string NM, .slice none 0 0, vv] ∧ wr.ownsRow (w.heap.size + 3) 9 1 vv k ((vlL.take k).map Value.string) ∧ IsCur wr g a len cap ∧ w.grownBy wr (some g)) (fun j _ => x + 2 - (intOf j).toNat)
    case atStart => exact ⟨0, _, rfl, by omega, R7, A7, World.ownsRow_nil _ _ _ _, c7, g7⟩
    case round =>
      obtain ⟨k, vv, rfl, hk, R, A, own, c8, g8⟩ := hrel
      clear R7 A7 c7 g7
      have hAl := A.lt
      have hvo : ∀ j, vv.ownBlock = some j → w.heap.size + 3 ≤ j := fun j hj => (own.lt j hj).1
      by_cases hlt : k < x + 2
      · obtain ⟨T, HT⟩ : ∃ T, Hid (vlL.getD k ByteArray.empty = T) := ⟨_, rfl⟩
        have HS : Hid ((vlL.take (k + 1)).map Value.string = (vlL.take k).map Value.string ++ [.string T]) := by
          rw [← HT.out]
          have h : k = 0 ∨ k = 1 ∨ k = 2 ∨ k = 3 := by omega
          rcases h with rfl | rfl | rfl | rfl <;> rfl
        have Ad : Blk 55 wr.drew p #[.string NM, .slice none 0 0, vv] := A
        have Rd : Blk 55 wr.drew w.heap.size #[.string ⟨#[]⟩, .slice none 0 0, .slice none 0 0] := R
        have cd : IsCur wr.drew g a len cap := c8
        have od : wr.drew.ownsRow (w.heap.size + 3) 9 1 vv k ((vlL.take k).map Value.string) := own
        have gd : w.grownBy wr.drew (some g) := ⟨g8.os, g8.tape, g8.output, g8.size, g8.block⟩
        have d0 : wr.drew.cell? ⟨p, 2, none⟩ = some vv := Ad.cell 2
        have d1 : (wr.drew.alloc (.cells #[.string ⟨#[114, 101, 100]⟩, .string ⟨#[98, 108, 117, 101]⟩, .string ⟨#[120]⟩, .string ⟨#[103, 114, 101, 101, 110]⟩] 9)).cell? ⟨p, 2, none⟩ = some vv := (Ad.alloc _).cell 2
        have d2 : ((wr.drew.alloc (.cells #[.string ⟨#[114, 101, 100]⟩, .string ⟨#[98, 108, 117, 101]⟩, .string ⟨#[120]⟩, .string ⟨#[103, 114, 101, 101, 110]⟩] 9)).alloc (.cells #[.string T] 9)).cell? ⟨p, 2, none⟩ = some vv := ((Ad.alloc _).alloc _).cell 2
        have d3 : wr.cell? ⟨p, 2, none⟩ = some vv := A.cell 2
        have d4 : (wr.alloc (.cells #[.string ⟨#[114, 101, 100]⟩, .string ⟨#[98, 108, 117, 101]⟩, .string ⟨#[120]⟩, .string ⟨#[103, 114, 101, 101, 110]⟩] 9)).cell? ⟨p, 2, none⟩ = some vv := (A.alloc _).cell 2
        have d5 : ((wr.alloc (.cells #[.string ⟨#[114, 101, 100]⟩, .string ⟨#[98, 108, 117, 101]⟩, .string ⟨#[120]⟩, .string ⟨#[103, 114, 101, 101, 110]⟩] 9)).alloc (.cells #[.string T] 9)).cell? ⟨p, 2, none⟩ = some vv := ((A.alloc _).alloc _).cell 2
        have n1 : (wr.drew.alloc (.cells #[.string ⟨#[114, 101, 100]⟩, .string ⟨#[98, 108, 117, 101]⟩, .string ⟨#[120]⟩, .string ⟨#[103, 114, 101, 101, 110]⟩] 9)).cell? ⟨wr.heap.size, k, none⟩ = some (.string T) := by
          show (wr.drew.alloc _).cell? ⟨wr.drew.heap.size, k, none⟩ = _
          rw [World.cell?_alloc_at _ _ _ _ rfl, ← HT.out]
          have h : k = 0 ∨ k = 1 ∨ k = 2 ∨ k = 3 := by omega
          rcases h with rfl | rfl | rfl | rfl <;> rfl
        have hk4 : k < 4 := by omega
        have hget : ([.string ⟨#[114, 101, 100]⟩, .string ⟨#[98, 108, 117, 101]⟩, .string ⟨#[120]⟩, .string ⟨#[103, 114, 101, 101, 110]⟩] : List Value)[k]'hk4 = .string T := by
          have h : k = 0 ∨ k = 1 ∨ k = 2 ∨ k = 3 := by omega
          rw [← HT.out]
          rcases h with rfl | rfl | rfl | rfl <;> rfl
        have hk4i : (k : Int) < 4 := by omega
        have hk4j : (0 : Int) ≤ (k : Int) := by omega
        have hk4k : (k : Int).toNat = k := by omega
        clear R A c8 g8 own
        go_wp2
        go_region_law (refine step_wp rfl (wp_append_own _ _ _ 25 rfl (w.heap.size + 3) 9 j0 (.string ⟨#[]⟩) 1 16 Try.underlying25 hj hj0 hj1 hj2 rfl (by decide) _ _ _ rfl ((od.alloc (.cells #[.string ⟨#[114, 101, 100]⟩, .string ⟨#[98, 108, 117, 101]⟩, .string ⟨#[120]⟩, .string ⟨#[103, 114, 101, 101, 110]⟩] 9)).alloc (.cells #[.string T] 9)) ⟨wr.heap.size + 1, 0, none⟩ 1 1 [.string T] rfl rfl (newc2 _ _ _ _) (by simp [Value.oneCell']) (by unfold maxLen; omega) (by omega) (by simp; omega) ?_); intro v' w2 ho hg2 hnil; obtain ⟨ov, cv, rfl⟩ := own_slice ho; have A2 := ((Ad.alloc (.cells #[.string ⟨#[114, 101, 100]⟩, .string ⟨#[98, 108, 117, 101]⟩, .string ⟨#[120]⟩, .string ⟨#[103, 114, 101, 101, 110]⟩] 9)).alloc (.cells #[.string T] 9)).kept hg2 (fun e => by have := hvo _ e; omega); have a2 : w2.cell? ⟨p, 2, none⟩ = some vv := A2.cell 2; have f2 := A2.frozen 2)
        all_goals
          have R2 := ((Rd.alloc (.cells #[.string ⟨#[114, 101, 100]⟩, .string ⟨#[98, 108, 117, 101]⟩, .string ⟨#[120]⟩, .string ⟨#[103, 114, 101, 101, 110]⟩] 9)).alloc (.cells #[.string T] 9)).kept hg2 (fun e => by have := hvo _ e; omega)
          have c2 := ((cd.alloc (.cells #[.string ⟨#[114, 101, 100]⟩, .string ⟨#[98, 108, 117, 101]⟩, .string ⟨#[120]⟩, .string ⟨#[103, 114, 101, 101, 110]⟩] 9)).alloc (.cells #[.string T] 9)).kept hg2 (fun e => by have := hvo _ e; omega)
          have g2 := grown_own (grown_trans (grown_trans gd (grown_alloc _ (.cells #[.string ⟨#[114, 101, 100]⟩, .string ⟨#[98, 108, 117, 101]⟩, .string ⟨#[120]⟩, .string ⟨#[103, 114, 101, 101, 110]⟩] 9) _)) (grown_alloc _ (.cells #[.string T] 9) _)) hg2 (fun j e => by have := hvo _ e; omega)
          have A3 : Blk 55 (w2.setCell ⟨p, 2, none⟩ (.slice ov (k + 1) cv)) p #[.string NM, .slice none 0 0, .slice ov (k + 1) cv] := A2.setCell 2 (.slice ov (k + 1) cv)
          have R3 := R2.setCell_other ⟨p, 2, none⟩ (.slice ov (k + 1) cv) (show p ≠ w.heap.size by omega)
          have o3 := own_setCell ho ⟨p, 2, none⟩ (.slice ov (k + 1) cv) (show p < w.heap.size + 3 by omega)
          have c3 := c2.cellW 2 (.slice ov (k + 1) cv) (show g ≠ p by omega)
          have g3 := grown_cell g2 (p := p) (k := 2) (by omega) (.slice ov (k + 1) cv)
          clear hg2 hnil A2 R2 c2 g2 ho a2 f2 Ad Rd cd od gd d0 d1 d2 d3 d4 d5 n1 hget hvo
          go_wp2
          go_roundw
          case rel =>
            refine ⟨k + 1, _, by go_num, by omega, R3, A3, ?_, c3, g3⟩
            rw [HS.out]
            exact o3
          case measure => simp [intOf]; omega
      · obtain ⟨ov, cv, rfl⟩ := own_slice own
        go_wp2_with (first | (with_reducible refine wp_at_load rfl _ rfl ?_; refine ⟨p, rfl, _, _, _, A, ?_⟩) | (with_reducible refine wp_at_store rfl _ _ rfl ?_; refine ⟨w.heap.size, rfl, _, _, _, _, _, _, _, rfl, _, _, _, R, ?_⟩))
        refine bodyPost_ret (res_at rfl _ _ _ _ _ _ rfl (R.setRow _)) rfl ⟨_, ⟨NM, [], vlL.take k⟩, rfl, ⟨_, _, rfl, World.ownsRow_nil _ _ _ _, ?_⟩, HE.out.symm, ?_, ?_, c8.rowW _ (by omega), grown_row g8 (Nat.le_refl _) _⟩
        · have hl : (vlL.take k).length = k := by rw [List.length_take]; show min k 4 = k; omega
          show World.ownsRow _ _ _ _ _ (vlL.take k).length _
          rw [hl]
          exact own_base (own_setRow own _ _ (by omega)) (by omega)
        · have := right_vals (i := i) (n := k) hi5 (by omega) (by omega)
          rwa [HE.out] at this
        · refine ⟨HN1.out.2, by show ([] : List Int).length ≤ 4; simp, ?_, fun s hs => vl_each s (List.mem_of_mem_take hs), fun c hc => by simp at hc⟩
          show (vlL.take k).length ≤ 5
          rw [List.length_take]; omega
end Go.Proofs.Ytobimpgapfecoaa
/- Lists of attributes that grow, beside a draw. (What is plain.) -/
namespace Go.Proofs.Ytobimpgapfecoaa
open Go.RowKit
set_option maxRecDepth 100000
theorem DoneA.curW {w w' : World} {b g k : Nat} {ys : List Value} {ls : List AttrD} (h : DoneA w b ys ls k) (hg : g < b) (hk : w.grownBy w' (some g)) : DoneA w' b ys ls k := by
  intro j hj
  obtain ⟨vc, vv, h0, h1, h2, h3, h4⟩ := h j hj
  exact ⟨vc, vv, h0, h1, h2, own_curW h3 hg hk, own_curW h4 hg hk⟩
theorem OwnL.curW {w w' : World} {b g : Nat} {v : Value} {ls : List AttrD} (h : OwnL b w v ls) (hg : g < b) (hk : w.grownBy w' (some g)) : OwnL b w' v ls := by
  obtain ⟨ys, h1, h2⟩ := h
  exact ⟨ys, own_curW h1 hg hk, h2.curW hg hk⟩
theorem ad_appD {zs : List AttrD} {x : AttrD} {j : Nat} (h : j < zs.length) : ad (zs ++ [x]) j = ad zs j := by simp [ad, List.getElem?_append_left h]
theorem ad_lastD {zs : List AttrD} {x : AttrD} : ad (zs ++ [x]) zs.length = x := by simp [ad]
/-- One attribute more. -/
theorem OwnL.snoc {mid : Nat} {w1 w' : World} {v v' : Value} {ls : List AttrD} {x : AttrD} {c1 c2 : Value} {ys : List Value} (hr1 : w1.ownsRow mid 55 3 v ls.length ys) (hd : DoneA w1 mid ys ls ls.length)
    (o1 : w1.ownsRow mid 3 1 c1 x.cuts.length (x.cuts.map (Value.int .i64))) (o2 : w1.ownsRow mid 9 1 c2 x.vals.length (x.vals.map Value.string))
    (hg : w1.grownBy w' v.ownBlock) (hr : w'.ownsRow mid 55 3 v' (ls.length + 1) (ys ++ [.string x.name, c1, c2])) : OwnL mid w' v' (ls ++ [x]) := by
  have hl : ys.length = ls.length * 3 := hr1.1
  have kp : ∀ {e m : Nat} {u : Value} {xs : List Value}, w1.ownsRow mid e 1 u m xs → e ≠ 55 → w'.ownsRow mid e 1 u m xs := fun ho he => ho.kept hg (apart_d ho hr1 he)
  refine ⟨ys ++ [.string x.name, c1, c2], by rw [List.length_append]; exact hr, fun j hj => ?_⟩
  rw [List.length_append, List.length_singleton] at hj
  by_cases e : j = ls.length
  · subst e
    rw [ad_lastD]
    refine ⟨c1, c2, ?_, ?_, ?_, kp o1 (by decide), kp o2 (by decide)⟩
    · rw [List.getElem?_append_right (by omega), hl, Nat.sub_self]; rfl
    · rw [List.getElem?_append_right (by omega), hl, show ls.length * 3 + 1 - ls.length * 3 = 1 by omega]; rfl
    · rw [List.getElem?_append_right (by omega), hl, show ls.length * 3 + 2 - ls.length * 3 = 2 by omega]; rfl
  · obtain ⟨vc, vv, h0, h1, h2, h3, h4⟩ := hd j (by omega)
    rw [ad_appD (by omega)]
    refine ⟨vc, vv, ?_, ?_, ?_, kp h3 (by decide), kp h4 (by decide)⟩
    · rw [List.getElem?_append_left (by omega)]; exact h0
    · rw [List.getElem?_append_left (by omega)]; exact h1
    · rw [List.getElem?_append_left (by omega)]; exact h2
theorem newc3D (w : World) (x y z : Value) (e : TypeId) : ∀ (j : Nat) (u : Value), [x, y, z][j]? = some u → (w.alloc (.cells #[x, y, z] e)).cell? ((⟨w.heap.size, 0, none⟩ : Addr).add j) = some u := by
  intro j u hj
  match j, hj with
  | 0, hj => simp at hj; subst hj; simp [Addr.add]
  | 1, hj => simp at hj; subst hj; simp [Addr.add]
  | 2, hj => simp at hj; subst hj; simp [Addr.add]
theorem OwnL.setCellN {base p k : Nat} {w : World} {v u : Value} {ls : List AttrD} (h : OwnL base w v ls) (hp : p < base) : OwnL base (w.setCell ⟨p, k, none⟩ u) v ls := h.setCell ⟨p, k, none⟩ u hp
/-- What is drawn is right. -/
theorem right_schema {ls : List AttrD} {cl : List ByteArray} (h1 : 1 ≤ ls.length) (h5 : ls.length ≤ 5) (hc : choices cl 3 = true) (ha : ∀ j, j < ls.length → attrOk (ad ls j) = true ∧ (ad ls j).name = nmL.getD j ByteArray.empty) : schemaOk ⟨ls, cl⟩ = true := by
  unfold schemaOk
  show (decide (1 ≤ ls.length ∧ ls.length ≤ 5) && (choices cl 3 && attrsOk ls)) = true
  rw [decide_eq_true ⟨h1, h5⟩, hc, attrs_yes fun j hj => ?_]
  · rfl
  · unfold attrAt
    rw [(ha j hj).1, Bool.true_and, Bool.not_eq_true']
    refine hasT_no fun i hi => ?_
    rw [nmsB_len (by omega)] at hi
    have hij : i < j := by omega
    rw [(ha j hj).2]
    have e : tx (nmsB ls j) i = nmL.getD i ByteArray.empty := by
      rw [← (ha i (by omega)).2]
      exact nmsB_at hij (by omega)
    rw [e]
    have key : ∀ j, j < 5 → ∀ i, i < j → nmL.getD j ByteArray.empty ≠ nmL.getD i ByteArray.empty := by decide +kernel
    exact key j (by omega) i hij
theorem cls_ok : choices [⟨#[110, 111]⟩, ⟨#[121, 101, 115]⟩] 3 = true ∧ choices [⟨#[110, 111]⟩, ⟨#[121, 101, 115]⟩, ⟨#[112, 101, 114, 104, 97, 112, 115]⟩] 3 = true := by decide +kernel
end Go.Proofs.Ytobimpgapfecoaa
/- Draws of chapter 5: a schema that is right. -/
namespace Go.Proofs.Ytobimpgapfecoaa
open Go.RowKit
set_option maxRecDepth 100000
set_option maxHeartbeats 6400000 in
theorem right5_any (g : Nat) (a : Option Addr) (len cap : Nat) (zs : List Int) (w : World) (hc : IsCur w g a len cap) (hr : IsRow .u8 w a len cap zs) :
    Calls Try.prog 90 #[.pointer (some ⟨g, 0, none⟩)] w fun e w' => ∃ va vc d mid, e = .returned (.agg #[va, vc]) ∧ w.heap.size ≤ mid ∧ mid ≤ w'.heap.size ∧ OwnL mid w' va d.attrs ∧ w'.ownsRow w.heap.size 9 1 vc d.classes.length (d.classes.map Value.string) ∧ (∀ j, vc.ownBlock = some j → j < mid) ∧ schemaOk d = true ∧ tinyS d ∧ IsCur w' g a len cap ∧ w.grownBy w' (some g) := by
  have hgw : g < w.heap.size := hc.lt
  have HR : Hid (∀ w', w.grownBy w' (some g) → IsRow .u8 w' a len cap zs) := fun w' h => hr.aside hc h
  obtain ⟨i0, hi, hi0, hi1, hi2⟩ := info_parts strInfo
  obtain ⟨j0, hj, hj0, hj1, hj2⟩ := info_parts atInfo
  have g3 : w.grownBy (((w.alloc (.cells #[.slice none 0 0, .slice none 0 0] 27)).alloc (.cells #[.string ⟨#[110, 111]⟩, .string ⟨#[121, 101, 115]⟩] 9)).alloc (.cells #[.slice none 0 0, .slice none 0 0] 27)) (some g) := grown_trans (grown_trans (grown_alloc w _ _) (grown_alloc _ _ _)) (grown_alloc _ _ _)
  have c3 := ((hc.alloc (.cells #[.slice none 0 0, .slice none 0 0] 27)).alloc (.cells #[.string ⟨#[110, 111]⟩, .string ⟨#[121, 101, 115]⟩] 9)).alloc (.cells #[.slice none 0 0, .slice none 0 0] 27)
  have R3 := ((Blk.new 27 w #[.slice none 0 0, .slice none 0 0]).alloc (.cells #[.string ⟨#[110, 111]⟩, .string ⟨#[121, 101, 115]⟩] 9)).alloc (.cells #[.slice none 0 0, .slice none 0 0] 27)
  have A3 : Blk 27 (((w.alloc (.cells #[.slice none 0 0, .slice none 0 0] 27)).alloc (.cells #[.string ⟨#[110, 111]⟩, .string ⟨#[121, 101, 115]⟩] 9)).alloc (.cells #[.slice none 0 0, .slice none 0 0] 27)) (w.heap.size + 1 + 1) #[.slice none 0 0, .slice none 0 0] := by have := Blk.new 27 ((w.alloc (.cells #[.slice none 0 0, .slice none 0 0] 27)).alloc (.cells #[.string ⟨#[110, 111]⟩, .string ⟨#[121, 101, 115]⟩] 9)) #[.slice none 0 0, .slice none 0 0]; rwa [show ((w.alloc (.cells #[.slice none 0 0, .slice none 0 0] 27)).alloc (.cells #[.string ⟨#[110, 111]⟩, .string ⟨#[121, 101, 115]⟩] 9)).heap.size = w.heap.size + 1 + 1 by simp] at this
  have o3 : (((w.alloc (.cells #[.slice none 0 0, .slice none 0 0] 27)).alloc (.cells #[.string ⟨#[110, 111]⟩, .string ⟨#[121, 101, 115]⟩] 9)).alloc (.cells #[.slice none 0 0, .slice none 0 0] 27)).ownsRow (w.heap.size + 1) 9 1 (.slice (some ⟨w.heap.size + 1, 0, none⟩) 2 2) 2 [.string ⟨#[110, 111]⟩, .string ⟨#[121, 101, 115]⟩] := by
    have := World.ownsRow_lit (base := w.heap.size + 1) (e := 9) (size := 1) (w.alloc (.cells #[.slice none 0 0, .slice none 0 0] 27)) #[.string ⟨#[110, 111]⟩, .string ⟨#[121, 101, 115]⟩] 2 (by simp) (by decide) rfl
    rw [show (w.alloc (.cells #[.slice none 0 0, .slice none 0 0] 27)).heap.size = w.heap.size + 1 by simp] at this
    exact this.alloc _
  have g4 := grown_row g3 (show w.heap.size ≤ w.heap.size + 1 + 1 by omega) #[.slice none 0 0, .slice (some ⟨w.heap.size + 1, 0, none⟩) 2 2]
  have c4 := c3.rowW #[.slice none 0 0, .slice (some ⟨w.heap.size + 1, 0, none⟩) 2 2] (show g ≠ w.heap.size + 1 + 1 by omega)
  have R4 := R3.setRow_other #[.slice none 0 0, .slice (some ⟨w.heap.size + 1, 0, none⟩) 2 2] (show w.heap.size ≠ w.heap.size + 1 + 1 by omega)
  have A4 := A3.setRow #[.slice none 0 0, .slice (some ⟨w.heap.size + 1, 0, none⟩) 2 2]
  have o4 : ((((w.alloc (.cells #[.slice none 0 0, .slice none 0 0] 27)).alloc (.cells #[.string ⟨#[110, 111]⟩, .string ⟨#[121, 101, 115]⟩] 9)).alloc (.cells #[.slice none 0 0, .slice none 0 0] 27)).setRow (w.heap.size + 1 + 1) #[.slice none 0 0, .slice (some ⟨w.heap.size + 1, 0, none⟩) 2 2]).ownsRow (w.heap.size + 1) 9 1 (.slice (some ⟨w.heap.size + 1, 0, none⟩) 2 2) 2 [.string ⟨#[110, 111]⟩, .string ⟨#[121, 101, 115]⟩] := own_setRowN o3 _ _ (by simp [Value.ownBlock])
  clear hc hr g3 c3 R3 o3
  go_enter Try.func90, Try.ntmps90
  go_wp2_with (with_reducible refine wp_sc_store rfl _ _ rfl ?_; refine ⟨w.heap.size + 1 + 1, rfl, none, 0, 0, _, 2, 2, rfl, _, _, A3, ?_⟩; clear A3; generalize (((w.alloc (.cells #[.slice none 0 0, .slice none 0 0] 27)).alloc (.cells #[.string ⟨#[110, 111]⟩, .string ⟨#[121, 101, 115]⟩] 9)).alloc (.cells #[.slice none 0 0, .slice none 0 0] 27)).setRow (w.heap.size + 1 + 1) #[.slice none 0 0, .slice (some ⟨w.heap.size + 1, 0, none⟩) 2 2] = W at g4 c4 R4 A4 o4 ⊢)
  obtain ⟨p, hp, hp1, hp2⟩ : ∃ p, w.heap.size + 1 + 1 = p ∧ w.heap.size + 2 ≤ p ∧ p < w.heap.size + 3 := ⟨_, rfl, by omega, by omega⟩
  rw [hp] at A4 ⊢
  clear hp
  have e1 := once_any g a len cap zs 3 W c4 (HR.out _ g4) (by decide) (by decide)
  have hA := A4.lt
  go_wp2_with fail
  refine e1.mono ?_
  clear e1
  rintro e w5 ⟨b, rfl, c5, h5⟩
  have g5 := grown_trans g4 h5
  have R5 := R4.kept h5 (by intro e; cases e; omega)
  have A5 := A4.kept h5 (by intro e; cases e; omega)
  have o5 := own_curW o4 (by omega) h5
  clear h5 g4 c4 R4 A4 hA o4
  cases b with
  | true =>
    have a5 : w5.cell? ⟨p, 1, none⟩ = some (.slice (some ⟨w.heap.size + 1, 0, none⟩) 2 2) := A5.cell 1
    have hA := A5.lt
    go_wp2_with (at_builtin; refine wpList_append_own _ rfl _ _ 25 rfl (w.heap.size + 1) 9 i0 (.string ⟨#[]⟩) 1 16 Try.underlying25 hi hi0 hi1 hi2 rfl (by decide) _ _ _ rfl (o5.alloc (.cells #[.string ⟨#[112, 101, 114, 104, 97, 112, 115]⟩] 9)) ⟨w5.heap.size, 0, none⟩ 1 1 [_] rfl rfl (newc _ _ _) (by simp [Value.oneCell']) (by unfold maxLen; omega) (by omega) (by simp; omega) ?_)
    intro v' w2 ho hg2 hnil
    obtain ⟨ov, cv, rfl⟩ := own_slice ho
    have hne : (some (w.heap.size + 1) : Option Nat) ≠ some p := by intro e; cases e; omega
    have A2 := (A5.alloc (.cells #[.string ⟨#[112, 101, 114, 104, 97, 112, 115]⟩] 9)).kept hg2 hne
    have hne2 : (some (w.heap.size + 1) : Option Nat) ≠ some w.heap.size := by intro e; injection e; omega
    have hne3 : (some (w.heap.size + 1) : Option Nat) ≠ some g := by intro e; injection e; omega
    have R2 := (R5.alloc (.cells #[.string ⟨#[112, 101, 114, 104, 97, 112, 115]⟩] 9)).kept hg2 hne2
    have c2 := (c5.alloc (.cells #[.string ⟨#[112, 101, 114, 104, 97, 112, 115]⟩] 9)).kept hg2 hne3
    have g2 := grown_own (grown_trans g5 (grown_alloc w5 (.cells #[.string ⟨#[112, 101, 114, 104, 97, 112, 115]⟩] 9) _)) hg2 (fun j (e : (some (w.heap.size + 1) : Option Nat) = some j) => by injection e; omega)
    have a2 : w2.cell? ⟨p, 1, none⟩ = some (.slice (some ⟨w.heap.size + 1, 0, none⟩) 2 2) := A2.cell 1
    have f2 := A2.frozen 1
    have A3 : Blk 27 (w2.setCell ⟨p, 1, none⟩ (.slice ov 3 cv)) p #[.slice none 0 0, .slice ov 3 cv] := A2.setCell 1 (.slice ov 3 cv)
    have R3 := R2.setCell_other ⟨p, 1, none⟩ (.slice ov 3 cv) (show p ≠ w.heap.size by omega)
    have o3 := own_setCellN ho p 1 (.slice ov 3 cv) (own_ne_blk ho A2 (by decide))
    have c3 := c2.cellW 1 (.slice ov 3 cv) (show g ≠ p by omega)
    have g3 := grown_cell g2 (p := p) (k := 1) (by omega) (.slice ov 3 cv)
    clear hg2 hnil A5 R5 c5 g5 o5 a5 ho A2 R2 c2 g2 hne hA
    go_wp2_with fail
    generalize w2.setCell ⟨p, 1, none⟩ (.slice ov 3 cv) = w5' at A3 R3 o3 c3 g3 ⊢
    obtain ⟨vc, hvc⟩ : ∃ vc, vc = Value.slice ov 3 cv := ⟨_, rfl⟩
    have hvl : (3 : Nat) = 3 := rfl
    obtain ⟨cl, HCL, HCO, HCS, HCT⟩ : ∃ cl : List ByteArray, Hid (cl.map Value.string = [.string ⟨#[110, 111]⟩, .string ⟨#[121, 101, 115]⟩, .string ⟨#[112, 101, 114, 104, 97, 112, 115]⟩]) ∧ cl.length = 3 ∧ Hid (choices cl 3 = true) ∧ Hid (∀ t ∈ cl, t.size ≤ 16) := ⟨[⟨#[110, 111]⟩, ⟨#[121, 101, 115]⟩, ⟨#[112, 101, 114, 104, 97, 112, 115]⟩], rfl, rfl, cls_ok.2, (by decide +kernel : ∀ t ∈ ([⟨#[110, 111]⟩, ⟨#[121, 101, 115]⟩, ⟨#[112, 101, 114, 104, 97, 112, 115]⟩] : List ByteArray), t.size ≤ 16)⟩
    have o5 : w5'.ownsRow (w.heap.size + 1) 9 1 vc cl.length (cl.map Value.string) := by rw [HCO, HCL.out, hvc]; exact o3
    rw [← hvc] at A3
    clear hvc HCL o3 a2 f2
    have hmid := hvl
    obtain ⟨mid, hm0, hm1⟩ : ∃ mid, p < mid ∧ mid = w5'.heap.size := ⟨_, A3.lt, rfl⟩
    have hvm : ∀ j, vc.ownBlock = some j → j < mid := fun j hj => by rw [hm1]; exact (o5.lt j hj).2
    have hms : mid ≤ w5'.heap.size := by omega
    clear hm1 hmid
    have e1 := l1Below_any g a len cap zs 5 w5' c3 (HR.out _ g3) (by decide) (by decide)
    refine e1.mono ?_
    clear e1
    rintro e w7 ⟨x, rfl, hx, c7, h7⟩
    have g7 := grown_trans g3 h7
    have R7 := R3.kept h7 (by intro e; cases e; omega)
    have A7 := A3.kept h7 (by intro e; cases e; omega)
    have o7 := own_curW o5 (by omega) h7
    have hs7 : mid ≤ w7.heap.size := Nat.le_trans hms h7.size
    clear h7 g3 c3 R3 A3 o5 hms
    go_wp2
    go_loopw [5] (fun i wr => ∃ (k : Nat) (va : Value) (ls : List AttrD), i = .int .i64 k ∧ k ≤ x + 1 ∧ ls.length = k ∧ Hid (∀ j, j < k → attrOk (ad ls j) = true ∧ (ad ls j).name = nmL.getD j ByteArray.empty) ∧ Hid (∀ d ∈ ls, tinyA d) ∧
        Blk 27 wr w.heap.size #[.slice none 0 0, .slice none 0 0] ∧ Blk 27 wr p #[va, vc] ∧ OwnL mid wr va ls ∧ wr.ownsRow (w.heap.size + 1) 9 1 vc cl.length (cl.map Value.string) ∧ IsCur wr g a len cap ∧ w.grownBy wr (some g) ∧ mid ≤ wr.heap.size) (fun i _ => x + 1 - (intOf i).toNat)
    case atStart => exact ⟨0, _, [], rfl, by omega, rfl, fun j hj => by omega, fun d hd => by simp at hd, R7, A7, ⟨[], World.ownsRow_nil _ _ _ _, fun j hj => by simp at hj⟩, o7, c7, g7, hs7⟩
    case round =>
      obtain ⟨k, va, ls, rfl, hk, hll, HA, HT, R, A, hL, own, c8, g8, hs8⟩ := hrel
      clear R7 A7 c7 g7 o7 hs7
      subst hll
      have hAl := A.lt
      by_cases hlt : ls.length < x + 1
      · obtain ⟨ys, hrow, hdone⟩ := hL
        obtain ⟨ova, cva, rfl⟩ := own_slice hrow
        have hvo : ∀ j, (Value.slice ova ls.length cva).ownBlock = some j → mid ≤ j := fun j hj => (hrow.lt j hj).1
        have Ad : Blk 27 wr.drew p #[.slice ova ls.length cva, vc] := A
        have Rd : Blk 27 wr.drew w.heap.size #[.slice none 0 0, .slice none 0 0] := R
        have cd : IsCur wr.drew g a len cap := c8
        have od : wr.drew.ownsRow (w.heap.size + 1) 9 1 vc cl.length (cl.map Value.string) := own
        have rd : wr.drew.ownsRow mid 55 3 (.slice ova ls.length cva) ls.length ys := hrow
        have dd : DoneA wr.drew mid ys ls ls.length := hdone
        have gd : w.grownBy wr.drew (some g) := ⟨g8.os, g8.tape, g8.output, g8.size, g8.block⟩
        have sd : mid ≤ wr.drew.heap.size := hs8
        have d0 : wr.drew.cell? ⟨p, 0, none⟩ = some (.slice ova ls.length cva) := Ad.cell 0
        have d3 : wr.cell? ⟨p, 0, none⟩ = some (.slice ova ls.length cva) := A.cell 0
        have e1 := rightAttr_any g a len cap zs ls.length wr.drew cd (HR.out _ gd) (by omega)
        have hk5 : ls.length < 5 := by omega
        clear R A c8 g8 own hrow hdone hs8
        go_wp2
        go_region_law (first
          | (refine step_wp rfl ?_; unfold Oper.wp; go_simp; go_at_call 112; refine e1.mono ?_; clear e1; rintro e w1 ⟨v1, d1, rfl, ⟨c1, c2, rfl, q1, q2⟩, hnm, hok, htn, cc1, h1⟩; have HNM : Hid (d1.name = nmL.getD ls.length ByteArray.empty ∧ attrOk d1 = true) := ⟨hnm, hok⟩; clear hnm hok; obtain ⟨oc1, k1, rfl⟩ := own_slice q1; obtain ⟨oc2, k2, rfl⟩ := own_slice q2; have A1 := Ad.kept h1 (by intro e; cases e; omega); have a1 : w1.cell? ⟨p, 0, none⟩ = some (.slice ova ls.length cva) := A1.cell 0; have a1' : (w1.alloc (.cells #[.string d1.name, .slice oc1 d1.cuts.length k1, .slice oc2 d1.vals.length k2] 55)).cell? ⟨p, 0, none⟩ = some (.slice ova ls.length cva) := (A1.alloc _).cell 0; have r1 := own_curW rd (by omega) h1; have s1 : mid ≤ w1.heap.size := Nat.le_trans sd h1.size)
          | (refine step_wp rfl (wp_append_own _ _ _ 24 rfl mid 55 j0 (.agg #[.string ⟨#[]⟩, .slice none 0 0, .slice none 0 0]) 3 64 Try.underlying24 hj hj0 hj1 hj2 rfl (by decide) _ _ _ rfl (r1.alloc (.cells #[.string d1.name, .slice oc1 d1.cuts.length k1, .slice oc2 d1.vals.length k2] 55)) ⟨w1.heap.size, 0, none⟩ 1 1 [.string d1.name, .slice oc1 d1.cuts.length k1, .slice oc2 d1.vals.length k2] rfl rfl (newc3D _ _ _ _ _) (by simp [Value.oneCell']) (by unfold maxLen; omega) (by omega) (by simp; omega) ?_); intro v' w2 ho hg2 hnil; obtain ⟨ov, cv, rfl⟩ := own_slice ho; have A2 := (A1.alloc (.cells #[.string d1.name, .slice oc1 d1.cuts.length k1, .slice oc2 d1.vals.length k2] 55)).kept hg2 (fun e => by have := hvo _ e; omega); have a2 : w2.cell? ⟨p, 0, none⟩ = some (.slice ova ls.length cva) := A2.cell 0; have f2 := A2.frozen 0))
        all_goals
          have R1 := Rd.kept h1 (by intro e; cases e; omega)
          have own1 := own_curW od (by omega) h1
          have dn1 := dd.curW (by omega) h1
          have R2 := (R1.alloc (.cells #[.string d1.name, .slice oc1 d1.cuts.length k1, .slice oc2 d1.vals.length k2] 55)).kept hg2 (fun e => by have := hvo _ e; omega)
          have c2 := (cc1.alloc (.cells #[.string d1.name, .slice oc1 d1.cuts.length k1, .slice oc2 d1.vals.length k2] 55)).kept hg2 (fun e => by have := hvo _ e; omega)
          have g2 := grown_own (grown_trans (grown_trans gd h1) (grown_alloc w1 (.cells #[.string d1.name, .slice oc1 d1.cuts.length k1, .slice oc2 d1.vals.length k2] 55) _)) hg2 (fun j e => by have := hvo _ e; omega)
          have own2 := (own1.alloc (.cells #[.string d1.name, .slice oc1 d1.cuts.length k1, .slice oc2 d1.vals.length k2] 55)).kept hg2 (by
            cases hv : vc.ownBlock with
            | none => exact .inl rfl
            | some j => refine .inr fun e => ?_; have u1 := hvm j hv; have u2 := hvo j e.symm; omega)
          have L2 := OwnL.snoc (x := d1) (r1.alloc (.cells #[.string d1.name, .slice oc1 d1.cuts.length k1, .slice oc2 d1.vals.length k2] 55)) (dn1.below ((Below.refl _ _).alloc (Nat.le_refl _) _)) ((own_base q1 sd).alloc _) ((own_base q2 sd).alloc _) hg2 ho
          have s2 : mid ≤ w2.heap.size := by have := hg2.size; simp at this; omega
          have A3 : Blk 27 (w2.setCell ⟨p, 0, none⟩ (.slice ov (ls.length + 1) cv)) p #[.slice ov (ls.length + 1) cv, vc] := A2.setCell 0 (.slice ov (ls.length + 1) cv)
          have R3 := R2.setCell_other ⟨p, 0, none⟩ (.slice ov (ls.length + 1) cv) (show p ≠ w.heap.size by omega)
          have own3 := own_setCellN own2 p 0 (.slice ov (ls.length + 1) cv) (own_ne_blk own2 A2 (by decide))
          have L3 := L2.setCellN (p := p) (k := 0) (u := .slice ov (ls.length + 1) cv) (by omega)
          have c3 := c2.cellW 0 (.slice ov (ls.length + 1) cv) (show g ≠ p by omega)
          have g3 := grown_cell g2 (p := p) (k := 0) (by omega) (.slice ov (ls.length + 1) cv)
          have s3 : mid ≤ (w2.setCell ⟨p, 0, none⟩ (.slice ov (ls.length + 1) cv)).heap.size := by simp [World.setCell]; omega
          have HA2 : Hid (∀ j, j < ls.length + 1 → attrOk (ad (ls ++ [d1]) j) = true ∧ (ad (ls ++ [d1]) j).name = nmL.getD j ByteArray.empty) := fun j hj => by
            by_cases e : j = ls.length
            · subst e; rw [ad_lastD]; exact ⟨HNM.out.2, HNM.out.1⟩
            · rw [ad_appD (by omega)]; exact HA.out j (by omega)
          have HT2 : Hid (∀ d ∈ ls ++ [d1], tinyA d) := fun d hd => by
            rcases List.mem_append.1 hd with hd | hd
            · exact HT.out d hd
            · rw [List.mem_singleton] at hd; rw [hd]; exact htn
          clear hg2 hnil A1 A2 R1 R2 c2 g2 ho a2 f2 a1 a1' Ad Rd cd od gd rd dd sd d0 d3 hvo r1 dn1 own1 own2 L2 q1 q2 h1 cc1 s1 s2 htn
          go_wp2
          go_roundw
          case rel => exact ⟨ls.length + 1, _, ls ++ [d1], by go_num, by omega, by simp, HA2, HT2, R3, A3, L3, own3, c3, g3, s3⟩
          case measure => simp [intOf]; omega
      · obtain ⟨ys, hrow, hdone⟩ := hL
        obtain ⟨ova, cva, rfl⟩ := own_slice hrow
        obtain ⟨ovc, cvc, rfl⟩ := own_slice own
        go_wp2_with (first | (with_reducible refine wp_sc_load rfl _ rfl ?_; refine ⟨p, rfl, _, _, A, ?_⟩) | (with_reducible refine wp_sc_store rfl _ _ rfl ?_; refine ⟨w.heap.size, rfl, _, _, _, _, _, _, rfl, _, _, R, ?_⟩))
        refine bodyPost_ret (res_sc rfl _ _ _ _ _ rfl (R.setRow _)) rfl ⟨_, _, ⟨ls, cl⟩, mid, rfl, by omega, by simp [World.setRow]; omega, OwnL.setRow ⟨ys, hrow, hdone⟩ _ _ (by omega), own_base (own_setRow own _ _ (by omega)) (by omega), hvm, right_schema (by omega) (by omega) HCS.out HA.out, ⟨by show ls.length ≤ 6; omega, HT.out, by show cl.length ≤ 4; omega, HCT.out⟩, c8.rowW _ (by omega), grown_row g8 (Nat.le_refl _) _⟩
  | false =>
    obtain ⟨vc, hvc⟩ : ∃ vc, vc = Value.slice (some ⟨w.heap.size + 1, 0, none⟩) 2 2 := ⟨_, rfl⟩
    have hvl : (2 : Nat) = 2 := rfl
    obtain ⟨cl, HCL, HCO, HCS, HCT⟩ : ∃ cl : List ByteArray, Hid (cl.map Value.string = [.string ⟨#[110, 111]⟩, .string ⟨#[121, 101, 115]⟩]) ∧ cl.length = 2 ∧ Hid (choices cl 3 = true) ∧ Hid (∀ t ∈ cl, t.size ≤ 16) := ⟨[⟨#[110, 111]⟩, ⟨#[121, 101, 115]⟩], rfl, rfl, cls_ok.1, (by decide +kernel : ∀ t ∈ ([⟨#[110, 111]⟩, ⟨#[121, 101, 115]⟩] : List ByteArray), t.size ≤ 16)⟩
    rw [← HCL.out, ← hvc] at o5
    rw [← hvc] at A5
    have o5 : w5.ownsRow (w.heap.size + 1) 9 1 vc cl.length (cl.map Value.string) := by rw [HCO]; exact o5
    clear hvc HCL
    have hmid := hvl
    obtain ⟨mid, hm0, hm1⟩ : ∃ mid, p < mid ∧ mid = w5.heap.size := ⟨_, A5.lt, rfl⟩
    have hvm : ∀ j, vc.ownBlock = some j → j < mid := fun j hj => by rw [hm1]; exact (o5.lt j hj).2
    have hms : mid ≤ w5.heap.size := by omega
    clear hm1 hmid
    have e1 := l1Below_any g a len cap zs 5 w5 c5 (HR.out _ g5) (by decide) (by decide)
    go_wp2_with fail
    refine e1.mono ?_
    clear e1
    rintro e w7 ⟨x, rfl, hx, c7, h7⟩
    have g7 := grown_trans g5 h7
    have R7 := R5.kept h7 (by intro e; cases e; omega)
    have A7 := A5.kept h7 (by intro e; cases e; omega)
    have o7 := own_curW o5 (by omega) h7
    have hs7 : mid ≤ w7.heap.size := Nat.le_trans hms h7.size
    clear h7 g5 c5 R5 A5 o5 hms
    go_wp2
    go_loopw [5] (fun i wr => ∃ (k : Nat) (va : Value) (ls : List AttrD), i = .int .i64 k ∧ k ≤ x + 1 ∧ ls.length = k ∧ Hid (∀ j, j < k → attrOk (ad ls j) = true ∧ (ad ls j).name = nmL.getD j ByteArray.empty) ∧ Hid (∀ d ∈ ls, tinyA d) ∧
        Blk 27 wr w.heap.size #[.slice none 0 0, .slice none 0 0] ∧ Blk 27 wr p #[va, vc] ∧ OwnL mid wr va ls ∧ wr.ownsRow (w.heap.size + 1) 9 1 vc cl.length (cl.map Value.string) ∧ IsCur wr g a len cap ∧ w.grownBy wr (some g) ∧ mid ≤ wr.heap.size) (fun i _ => x + 1 - (intOf i).toNat)
    case atStart => exact ⟨0, _, [], rfl, by omega, rfl, fun j hj => by omega, fun d hd => by simp at hd, R7, A7, ⟨[], World.ownsRow_nil _ _ _ _, fun j hj => by simp at hj⟩, o7, c7, g7, hs7⟩
    case round =>
      obtain ⟨k, va, ls, rfl, hk, hll, HA, HT, R, A, hL, own, c8, g8, hs8⟩ := hrel
      clear R7 A7 c7 g7 o7 hs7
      subst hll
      have hAl := A.lt
      by_cases hlt : ls.length < x + 1
      · obtain ⟨ys, hrow, hdone⟩ := hL
        obtain ⟨ova, cva, rfl⟩ := own_slice hrow
        have hvo : ∀ j, (Value.slice ova ls.length cva).ownBlock = some j → mid ≤ j := fun j hj => (hrow.lt j hj).1
        have Ad : Blk 27 wr.drew p #[.slice ova ls.length cva, vc] := A
        have Rd : Blk 27 wr.drew w.heap.size #[.slice none 0 0, .slice none 0 0] := R
        have cd : IsCur wr.drew g a len cap := c8
        have od : wr.drew.ownsRow (w.heap.size + 1) 9 1 vc cl.length (cl.map Value.string) := own
        have rd : wr.drew.ownsRow mid 55 3 (.slice ova ls.length cva) ls.length ys := hrow
        have dd : DoneA wr.drew mid ys ls ls.length := hdone
        have gd : w.grownBy wr.drew (some g) := ⟨g8.os, g8.tape, g8.output, g8.size, g8.block⟩
        have sd : mid ≤ wr.drew.heap.size := hs8
        have d0 : wr.drew.cell? ⟨p, 0, none⟩ = some (.slice ova ls.length cva) := Ad.cell 0
        have d3 : wr.cell? ⟨p, 0, none⟩ = some (.slice ova ls.length cva) := A.cell 0
        have e1 := rightAttr_any g a len cap zs ls.length wr.drew cd (HR.out _ gd) (by omega)
        have hk5 : ls.length < 5 := by omega
        clear R A c8 g8 own hrow hdone hs8
        go_wp2
        go_region_law (first
          | (refine step_wp rfl ?_; unfold Oper.wp; go_simp; go_at_call 112; refine e1.mono ?_; clear e1; rintro e w1 ⟨v1, d1, rfl, ⟨c1, c2, rfl, q1, q2⟩, hnm, hok, htn, cc1, h1⟩; have HNM : Hid (d1.name = nmL.getD ls.length ByteArray.empty ∧ attrOk d1 = true) := ⟨hnm, hok⟩; clear hnm hok; obtain ⟨oc1, k1, rfl⟩ := own_slice q1; obtain ⟨oc2, k2, rfl⟩ := own_slice q2; have A1 := Ad.kept h1 (by intro e; cases e; omega); have a1 : w1.cell? ⟨p, 0, none⟩ = some (.slice ova ls.length cva) := A1.cell 0; have a1' : (w1.alloc (.cells #[.string d1.name, .slice oc1 d1.cuts.length k1, .slice oc2 d1.vals.length k2] 55)).cell? ⟨p, 0, none⟩ = some (.slice ova ls.length cva) := (A1.alloc _).cell 0; have r1 := own_curW rd (by omega) h1; have s1 : mid ≤ w1.heap.size := Nat.le_trans sd h1.size)
          | (refine step_wp rfl (wp_append_own _ _ _ 24 rfl mid 55 j0 (.agg #[.string ⟨#[]⟩, .slice none 0 0, .slice none 0 0]) 3 64 Try.underlying24 hj hj0 hj1 hj2 rfl (by decide) _ _ _ rfl (r1.alloc (.cells #[.string d1.name, .slice oc1 d1.cuts.length k1, .slice oc2 d1.vals.length k2] 55)) ⟨w1.heap.size, 0, none⟩ 1 1 [.string d1.name, .slice oc1 d1.cuts.length k1, .slice oc2 d1.vals.length k2] rfl rfl (newc3D _ _ _ _ _) (by simp [Value.oneCell']) (by unfold maxLen; omega) (by omega) (by simp; omega) ?_); intro v' w2 ho hg2 hnil; obtain ⟨ov, cv, rfl⟩ := own_slice ho; have A2 := (A1.alloc (.cells #[.string d1.name, .slice oc1 d1.cuts.length k1, .slice oc2 d1.vals.length k2] 55)).kept hg2 (fun e => by have := hvo _ e; omega); have a2 : w2.cell? ⟨p, 0, none⟩ = some (.slice ova ls.length cva) := A2.cell 0; have f2 := A2.frozen 0))
        all_goals
          have R1 := Rd.kept h1 (by intro e; cases e; omega)
          have own1 := own_curW od (by omega) h1
          have dn1 := dd.curW (by omega) h1
          have R2 := (R1.alloc (.cells #[.string d1.name, .slice oc1 d1.cuts.length k1, .slice oc2 d1.vals.length k2] 55)).kept hg2 (fun e => by have := hvo _ e; omega)
          have c2 := (cc1.alloc (.cells #[.string d1.name, .slice oc1 d1.cuts.length k1, .slice oc2 d1.vals.length k2] 55)).kept hg2 (fun e => by have := hvo _ e; omega)
          have g2 := grown_own (grown_trans (grown_trans gd h1) (grown_alloc w1 (.cells #[.string d1.name, .slice oc1 d1.cuts.length k1, .slice oc2 d1.vals.length k2] 55) _)) hg2 (fun j e => by have := hvo _ e; omega)
          have own2 := (own1.alloc (.cells #[.string d1.name, .slice oc1 d1.cuts.length k1, .slice oc2 d1.vals.length k2] 55)).kept hg2 (by
            cases hv : vc.ownBlock with
            | none => exact .inl rfl
            | some j => refine .inr fun e => ?_; have u1 := hvm j hv; have u2 := hvo j e.symm; omega)
          have L2 := OwnL.snoc (x := d1) (r1.alloc (.cells #[.string d1.name, .slice oc1 d1.cuts.length k1, .slice oc2 d1.vals.length k2] 55)) (dn1.below ((Below.refl _ _).alloc (Nat.le_refl _) _)) ((own_base q1 sd).alloc _) ((own_base q2 sd).alloc _) hg2 ho
          have s2 : mid ≤ w2.heap.size := by have := hg2.size; simp at this; omega
          have A3 : Blk 27 (w2.setCell ⟨p, 0, none⟩ (.slice ov (ls.length + 1) cv)) p #[.slice ov (ls.length + 1) cv, vc] := A2.setCell 0 (.slice ov (ls.length + 1) cv)
          have R3 := R2.setCell_other ⟨p, 0, none⟩ (.slice ov (ls.length + 1) cv) (show p ≠ w.heap.size by omega)
          have own3 := own_setCellN own2 p 0 (.slice ov (ls.length + 1) cv) (own_ne_blk own2 A2 (by decide))
          have L3 := L2.setCellN (p := p) (k := 0) (u := .slice ov (ls.length + 1) cv) (by omega)
          have c3 := c2.cellW 0 (.slice ov (ls.length + 1) cv) (show g ≠ p by omega)
          have g3 := grown_cell g2 (p := p) (k := 0) (by omega) (.slice ov (ls.length + 1) cv)
          have s3 : mid ≤ (w2.setCell ⟨p, 0, none⟩ (.slice ov (ls.length + 1) cv)).heap.size := by simp [World.setCell]; omega
          have HA2 : Hid (∀ j, j < ls.length + 1 → attrOk (ad (ls ++ [d1]) j) = true ∧ (ad (ls ++ [d1]) j).name = nmL.getD j ByteArray.empty) := fun j hj => by
            by_cases e : j = ls.length
            · subst e; rw [ad_lastD]; exact ⟨HNM.out.2, HNM.out.1⟩
            · rw [ad_appD (by omega)]; exact HA.out j (by omega)
          have HT2 : Hid (∀ d ∈ ls ++ [d1], tinyA d) := fun d hd => by
            rcases List.mem_append.1 hd with hd | hd
            · exact HT.out d hd
            · rw [List.mem_singleton] at hd; rw [hd]; exact htn
          clear hg2 hnil A1 A2 R1 R2 c2 g2 ho a2 f2 a1 a1' Ad Rd cd od gd rd dd sd d0 d3 hvo r1 dn1 own1 own2 L2 q1 q2 h1 cc1 s1 s2 htn
          go_wp2
          go_roundw
          case rel => exact ⟨ls.length + 1, _, ls ++ [d1], by go_num, by omega, by simp, HA2, HT2, R3, A3, L3, own3, c3, g3, s3⟩
          case measure => simp [intOf]; omega
      · obtain ⟨ys, hrow, hdone⟩ := hL
        obtain ⟨ova, cva, rfl⟩ := own_slice hrow
        obtain ⟨ovc, cvc, rfl⟩ := own_slice own
        go_wp2_with (first | (with_reducible refine wp_sc_load rfl _ rfl ?_; refine ⟨p, rfl, _, _, A, ?_⟩) | (with_reducible refine wp_sc_store rfl _ _ rfl ?_; refine ⟨w.heap.size, rfl, _, _, _, _, _, _, rfl, _, _, R, ?_⟩))
        refine bodyPost_ret (res_sc rfl _ _ _ _ _ rfl (R.setRow _)) rfl ⟨_, _, ⟨ls, cl⟩, mid, rfl, by omega, by simp [World.setRow]; omega, OwnL.setRow ⟨ys, hrow, hdone⟩ _ _ (by omega), own_base (own_setRow own _ _ (by omega)) (by omega), hvm, right_schema (by omega) (by omega) HCS.out HA.out, ⟨by show ls.length ≤ 6; omega, HT.out, by show cl.length ≤ 4; omega, HCT.out⟩, c8.rowW _ (by omega), grown_row g8 (Nat.le_refl _) _⟩
end Go.Proofs.Ytobimpgapfecoaa
/- Draws: one of a few texts. -/
namespace Go.Proofs.Ytobimpgapfecoaa
open Go.RowKit
set_option maxRecDepth 100000

theorem l1Pick_any (g : Nat) (a : Option Addr) (len cap : Nat) (zs : List Int) (gl : Nat) (xs : List ByteArray) (w : World) (hc : IsCur w g a len cap) (hr : IsRow .u8 w a len cap zs) (h1 : 1 ≤ xs.length) (h2 : xs.length ≤ 256) (hgl : ¬ gl = g)
    (hl : ∀ j, j < xs.length → w.cell? ⟨gl, j, none⟩ = some (.string (xs.getD j ByteArray.empty))) :
    Calls Try.prog 93 #[.pointer (some ⟨g, 0, none⟩), .slice (some ⟨gl, 0, none⟩) xs.length xs.length] w fun e w' => ∃ x : ByteArray, e = .returned (.string x) ∧ x ∈ xs ∧ IsCur w' g a len cap ∧ w.grownBy w' (some g) := by
  have HL : Hid (∀ j, j < xs.length → w.cell? ⟨gl, j, none⟩ = some (.string (xs.getD j ByteArray.empty))) := hl
  clear hl
  go_enter Try.func93, Try.ntmps93
  go_wp2_with fail
  refine (l1Below_any g a len cap zs xs.length w hc hr h1 h2).mono ?_
  rintro e w1 ⟨x, rfl, hx, hc1, hg1⟩
  have hcell : w1.cell? ⟨gl, x, none⟩ = some (.string (xs.getD x ByteArray.empty)) := by
    have h0 := HL.out x hx
    rw [← h0]
    exact World.cell?_of_block (w := w) (hg1.block gl (lt_of_cell h0) (by simp; exact hgl))
  have hmem : xs.getD x ByteArray.empty ∈ xs := by rw [List.getD_eq_getElem?_getD, List.getElem?_eq_getElem hx]; exact List.getElem_mem hx
  generalize xs.getD x ByteArray.empty = r at hcell hmem
  clear hc hr
  go_wp2
  go_ret
  exact ⟨r, rfl, hmem, hc1, hg1⟩

theorem new_texts (w : World) (xs : List ByteArray) (e : TypeId) : ∀ j, j < xs.length → (w.alloc (.cells (xs.map Value.string).toArray e)).cell? ⟨w.heap.size, j, none⟩ = some (.string (xs.getD j ByteArray.empty)) := by
  intro j hj
  rw [World.cell?_alloc_at _ _ _ _ rfl]
  simp [hj]

theorem pick_newS (xs : List ByteArray) (g : Nat) (a : Option Addr) (len cap : Nat) (zs : List Int) (w : World) (hc : IsCur w g a len cap) (hr : IsRow .u8 w a len cap zs) (h1 : 1 ≤ xs.length) (h2 : xs.length ≤ 256) :
    Calls Try.prog 93 #[.pointer (some ⟨g, 0, none⟩), .slice (some ⟨w.heap.size, 0, none⟩) xs.length xs.length] (w.alloc (.cells (xs.map Value.string).toArray 9)) fun e w' =>
      ∃ x : ByteArray, e = .returned (.string x) ∧ x ∈ xs ∧ IsCur w' g a len cap ∧ IsRow .u8 w' a len cap zs ∧ Below g w w' := by
  have hlt := hc.lt
  have hb : Below w.heap.size w (w.alloc (.cells (xs.map Value.string).toArray 9)) := (Below.refl _ _).alloc (Nat.le_refl _) _
  refine (l1Pick_any g a len cap zs w.heap.size xs _ (hc.alloc _) (hr.later hb) h1 h2 (by omega) (new_texts w xs 9)).mono ?_
  rintro e w' ⟨x, rfl, hx, hc', hg⟩
  exact ⟨x, rfl, hx, hc', (hr.later hb).aside (hc.alloc _) hg, (hb.mono (by omega)).trans (grown_below hg (Nat.le_refl _) (by simp; omega))⟩

end Go.Proofs.Ytobimpgapfecoaa
