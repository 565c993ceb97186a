/- Texts of this claim, put together: part 16. -/
import Derived.Test.YteadkdllmeeocaaFnBestPack13
import Derived.Test.YteadkdllmeeocaaFnBestPack14
import Derived.Test.YteadkdllmeeocaaFnBestPack15
import Derived.Test.YteadkdllmeeocaaFnBestPack8
import Derived.Deep.RegionLaw
import Derived.Test.YteadkdllmeeocaaFnBestPack9
import Derived.Test.YteadkdllmeeocaaFnBestPack10
import Derived.Test.YteadkdllmeeocaaFnBestPack11
/- Counts that are small: what draws answer. -/
namespace Go.Proofs.Yteadkdllmeeocaa
open Go.RowKit
set_option maxRecDepth 100000
structure tinySt (n : Nat) (t : StatsD) : Prop where
  totals : t.totals.length ≤ n
  cells : t.cells.length ≤ n
  each : ∀ c ∈ t.cells, c.length ≤ n
theorem tinySt.ok {n : Nat} {t : StatsD} (h : tinySt n t) (hn : n ≤ 1000) : okSt t := ⟨by have := h.totals; omega, by have := h.cells; omega, fun c hc => by have := h.each c hc; omega⟩
theorem tinySt.up {n m : Nat} {t : StatsD} (h : tinySt n t) (hn : n ≤ m) : tinySt m t := ⟨by have := h.totals; omega, by have := h.cells; omega, fun c hc => by have := h.each c hc; omega⟩
theorem tiny_new (s : SchemaD) : tinySt 16 (statsNew s) := by
  unfold statsNew
  split
  · rename_i ho
    have hc := sch_classes ho
    have h5 : s.attrs.length ≤ 5 := by unfold schemaOk at ho; rw [Bool.and_eq_true] at ho; have := of_decide_eq_true ho.1; omega
    refine ⟨by simp; omega, by rw [newCells_len]; omega, fun c hc2 => ?_⟩
    obtain ⟨a, -, rfl⟩ := List.mem_map.1 hc2
    obtain ⟨b0, b1⟩ := small_bins a
    have := binsN_le a
    have h2 := Nat.mul_le_mul (show binsN a ≤ 4 by omega) hc.2
    rw [List.length_replicate]
    omega
  · exact ⟨by simp, by simp, fun c hc => by simp at hc⟩
theorem addTo_tiny (s : SchemaD) (e : ExD) (x : Int) (cs : List (List Int)) (M : Nat) (h : ∀ c ∈ cs, c.length ≤ M) : ∀ k, ∀ c ∈ addTo s e x cs k, c.length ≤ M
  | 0 => h
  | k + 1 => by
    intro c hc
    unfold addTo at hc
    split at hc
    · rcases List.mem_or_eq_of_mem_set hc with hc | rfl
      · exact addTo_tiny s e x cs M h k c hc
      · unfold cellPut
        rw [List.length_set]
        by_cases hk : k < cs.length
        · exact h _ (il_mem hk)
        · simp [il, List.getElem?_eq_none (Nat.le_of_not_lt hk)]
    · exact addTo_tiny s e x cs M h k c hc
theorem tiny_add {n : Nat} (s : SchemaD) (t : StatsD) (e : ExD) (x : Int) (h : tinySt n t) : tinySt n (statsAdd s t e x) := by
  unfold statsAdd
  split
  · refine ⟨?_, ?_, addTo_tiny s e x _ _ h.each _⟩
    · show (cellPut t.totals _ x).length ≤ _
      unfold cellPut
      rw [List.length_set]; exact h.totals
    · show (addTo s e x t.cells _).length ≤ _
      rw [addTo_len]; exact h.cells
  · exact h
theorem tiny_thin {n : Nat} (t : StatsD) (h : tinySt n t) : tinySt n (thinS t) := ⟨h.totals, by simp [thinS], fun c hc => by simp [thinS] at hc⟩
theorem SepII.curW {w w' : World} {b g n : Nat} {v : Value} {L : Nat → Value} {ys : List Value} {cs : List (List Int)} (h : SepII b w v L ys cs n) (hg : g < b) (hk : w.grownBy w' (some g)) : SepII b w' v L ys cs n :=
  ⟨own_curW h.row hg hk, h.cells, fun j hj => own_curW (h.ints j hj) hg hk, h.ord⟩
theorem OwnSt.curW {w w' : World} {b g : Nat} {v : Value} {t : StatsD} (h : OwnSt b w v t) (hg : g < b) (hk : w.grownBy w' (some g)) : OwnSt b w' v t := by
  obtain ⟨vt, vc, L, ys, rfl, h1, h2, h3⟩ := h
  exact ⟨vt, vc, L, ys, rfl, own_curW h1 hg hk, h2.curW hg hk, h3⟩
theorem OwnSt.alloc {w : World} {b : Nat} {v : Value} {t : StatsD} (h : OwnSt b w v t) (o : Obj) : OwnSt b (w.alloc o) v t := h.below ((Below.refl _ _).alloc (Nat.le_refl _) o)
theorem OwnSt.rowB {w : World} {b p : Nat} {v : Value} {t : StatsD} {T : TypeId} {cs : Array Value} (h : OwnSt b w v t) (hp : Blk T w p cs) (h1 : 3 ≠ T) (h2 : 24 ≠ T) (c : Array Value) : OwnSt b (w.setRow p c) v t := by
  obtain ⟨vt, vc, L, ys, rfl, o1, o2, o3⟩ := h
  exact ⟨vt, vc, L, ys, rfl, own_setRowN o1 _ _ (own_ne_blk o1 hp h1), ⟨own_setRowN o2.row _ _ (own_ne_blk o2.row hp h2), o2.cells, fun j hj => own_setRowN (o2.ints j hj) _ _ (own_ne_blk (o2.ints j hj) hp h1), o2.ord⟩, o3⟩
theorem OwnSt.cellB {w : World} {b p : Nat} {v : Value} {t : StatsD} {T : TypeId} {cs : Array Value} (h : OwnSt b w v t) (hp : Blk T w p cs) (h1 : 3 ≠ T) (h2 : 24 ≠ T) (k : Nat) (u : Value) : OwnSt b (w.setCell ⟨p, k, none⟩ u) v t := by
  obtain ⟨vt, vc, L, ys, rfl, o1, o2, o3⟩ := h
  exact ⟨vt, vc, L, ys, rfl, own_setCellN o1 _ _ _ (own_ne_blk o1 hp h1), ⟨own_setCellN o2.row _ _ _ (own_ne_blk o2.row hp h2), o2.cells, fun j hj => own_setCellN (o2.ints j hj) _ _ _ (own_ne_blk (o2.ints j hj) hp h1), o2.ord⟩, o3⟩
theorem OwnSt.rowX8 {w : World} {b k : Nat} {v : Value} {s : StatsD} (h : OwnSt b w v s) (c : Array Value) (hk : k < b) : OwnSt b (w.setRow k c) v s := by
  obtain ⟨vt, vc, L, ys, rfl, h1, h2, h3⟩ := h
  exact ⟨vt, vc, L, ys, rfl, own_setRow h1 k c hk, h2.setRow k c hk, h3⟩
end Go.Proofs.Yteadkdllmeeocaa
/- Draws of stage 2: one of a number of ways. -/
namespace Go.Proofs.Yteadkdllmeeocaa
open Go.RowKit
set_option maxRecDepth 100000

theorem once_any (g : Nat) (a : Option Addr) (len cap : Nat) (zs : List Int) (n : Nat) (w : World) (hc : IsCur w g a len cap) (hr : IsRow .u8 w a len cap zs) (h1 : 1 ≤ n) (h2 : n ≤ 256) :
    Calls Try.prog 49 #[.pointer (some ⟨g, 0, none⟩), .int .i64 (n : Int)] w fun e w' => ∃ b : Bool, e = .returned (.bool b) ∧ IsCur w' g a len cap ∧ w.grownBy w' (some g) := by
  go_enter Try.func49, Try.ntmps49
  go_wp2_with fail
  refine (l1Below_any g a len cap zs n w hc hr h1 h2).mono ?_
  rintro e w1 ⟨x, rfl, hx, hc1, hg1⟩
  clear hc hr
  go_wp2
  go_ret
  exact ⟨_, rfl, hc1, hg1⟩
end Go.Proofs.Yteadkdllmeeocaa
/- Draws of chapter 5: an attribute that is right. -/
namespace Go.Proofs.Yteadkdllmeeocaa
open Go.RowKit
set_option maxRecDepth 100000
set_option maxHeartbeats 3200000 in
theorem rightAttr_any (g : Nat) (a : Option Addr) (len cap : Nat) (zs : List Int) (i : Nat) (w : World) (hc : IsCur w g a len cap) (hr : IsRow .u8 w a len cap zs) (hi5 : i < 5) :
    Calls Try.prog 74 #[.pointer (some ⟨g, 0, none⟩), .int .i64 (i : Int)] w fun e w' => ∃ v d, e = .returned v ∧ OwnA w.heap.size w' v d ∧ d.name = nmL.getD i ByteArray.empty ∧ attrOk d = true ∧ tinyA d ∧ IsCur w' g a len cap ∧ w.grownBy w' (some g) := by
  have hgw : g < w.heap.size := hc.lt
  have HR : Hid (∀ w', w.grownBy w' (some g) → IsRow .u8 w' a len cap zs) := fun w' h => hr.aside hc h
  obtain ⟨i0, hi, hz0, hz1, hz2⟩ := info_parts intInfo
  obtain ⟨j0, hj, hj0, hj1, hj2⟩ := info_parts strInfo
  obtain ⟨NM, HE, HN1⟩ : ∃ NM, Hid (nmL.getD i ByteArray.empty = NM) ∧ Hid (wordOk NM = true ∧ NM.size ≤ 16) := ⟨_, rfl, nm_ok i hi5⟩
  have g3 : w.grownBy (((w.alloc (.cells #[.string ⟨#[]⟩, .slice none 0 0, .slice none 0 0] 68)).alloc (.cells #[.string ⟨#[97, 103, 101]⟩, .string ⟨#[115, 105, 122, 101]⟩, .string ⟨#[99, 111, 108, 111, 117, 114]⟩, .string ⟨#[107]⟩, .string ⟨#[108, 111, 110, 103, 110, 97, 109, 101]⟩] 9)).alloc (.cells #[.string ⟨#[]⟩, .slice none 0 0, .slice none 0 0] 68)) (some g) := grown_trans (grown_trans (grown_alloc w _ _) (grown_alloc _ _ _)) (grown_alloc _ _ _)
  have c3 := ((hc.alloc (.cells #[.string ⟨#[]⟩, .slice none 0 0, .slice none 0 0] 68)).alloc (.cells #[.string ⟨#[97, 103, 101]⟩, .string ⟨#[115, 105, 122, 101]⟩, .string ⟨#[99, 111, 108, 111, 117, 114]⟩, .string ⟨#[107]⟩, .string ⟨#[108, 111, 110, 103, 110, 97, 109, 101]⟩] 9)).alloc (.cells #[.string ⟨#[]⟩, .slice none 0 0, .slice none 0 0] 68)
  have R3 := ((Blk.new 68 w #[.string ⟨#[]⟩, .slice none 0 0, .slice none 0 0]).alloc (.cells #[.string ⟨#[97, 103, 101]⟩, .string ⟨#[115, 105, 122, 101]⟩, .string ⟨#[99, 111, 108, 111, 117, 114]⟩, .string ⟨#[107]⟩, .string ⟨#[108, 111, 110, 103, 110, 97, 109, 101]⟩] 9)).alloc (.cells #[.string ⟨#[]⟩, .slice none 0 0, .slice none 0 0] 68)
  have A3 : Blk 68 (((w.alloc (.cells #[.string ⟨#[]⟩, .slice none 0 0, .slice none 0 0] 68)).alloc (.cells #[.string ⟨#[97, 103, 101]⟩, .string ⟨#[115, 105, 122, 101]⟩, .string ⟨#[99, 111, 108, 111, 117, 114]⟩, .string ⟨#[107]⟩, .string ⟨#[108, 111, 110, 103, 110, 97, 109, 101]⟩] 9)).alloc (.cells #[.string ⟨#[]⟩, .slice none 0 0, .slice none 0 0] 68)) (w.heap.size + 1 + 1) #[.string ⟨#[]⟩, .slice none 0 0, .slice none 0 0] := by have := Blk.new 68 ((w.alloc (.cells #[.string ⟨#[]⟩, .slice none 0 0, .slice none 0 0] 68)).alloc (.cells #[.string ⟨#[97, 103, 101]⟩, .string ⟨#[115, 105, 122, 101]⟩, .string ⟨#[99, 111, 108, 111, 117, 114]⟩, .string ⟨#[107]⟩, .string ⟨#[108, 111, 110, 103, 110, 97, 109, 101]⟩] 9)) #[.string ⟨#[]⟩, .slice none 0 0, .slice none 0 0]; rwa [show ((w.alloc (.cells #[.string ⟨#[]⟩, .slice none 0 0, .slice none 0 0] 68)).alloc (.cells #[.string ⟨#[97, 103, 101]⟩, .string ⟨#[115, 105, 122, 101]⟩, .string ⟨#[99, 111, 108, 111, 117, 114]⟩, .string ⟨#[107]⟩, .string ⟨#[108, 111, 110, 103, 110, 97, 109, 101]⟩] 9)).heap.size = w.heap.size + 1 + 1 by simp] at this
  have nm : ((w.alloc (.cells #[.string ⟨#[]⟩, .slice none 0 0, .slice none 0 0] 68)).alloc (.cells #[.string ⟨#[97, 103, 101]⟩, .string ⟨#[115, 105, 122, 101]⟩, .string ⟨#[99, 111, 108, 111, 117, 114]⟩, .string ⟨#[107]⟩, .string ⟨#[108, 111, 110, 103, 110, 97, 109, 101]⟩] 9)).cell? ⟨w.heap.size + 1, i % 5, none⟩ = some (.string NM) := by
    rw [Nat.mod_eq_of_lt hi5, World.cell?_alloc_at _ _ _ _ (by simp), ← HE.out]
    have h : i = 0 ∨ i = 1 ∨ i = 2 ∨ i = 3 ∨ i = 4 := by omega
    rcases h with rfl | rfl | rfl | rfl | rfl <;> rfl
  have g4 := grown_row g3 (show w.heap.size ≤ w.heap.size + 1 + 1 by omega) #[.string NM, .slice none 0 0, .slice none 0 0]
  have c4 := c3.rowW #[.string NM, .slice none 0 0, .slice none 0 0] (show g ≠ w.heap.size + 1 + 1 by omega)
  have R4 := R3.setRow_other #[.string NM, .slice none 0 0, .slice none 0 0] (show w.heap.size ≠ w.heap.size + 1 + 1 by omega)
  have A4 := A3.setRow #[.string NM, .slice none 0 0, .slice none 0 0]
  clear hc hr g3 c3 R3
  go_enter Try.func74, Try.ntmps74
  go_wp2_with (with_reducible refine wp_at_store rfl _ _ rfl ?_; refine ⟨w.heap.size + 1 + 1, rfl, NM, none, 0, 0, none, 0, 0, rfl, _, _, _, A3, ?_⟩; clear A3 nm; generalize (((w.alloc (.cells #[.string ⟨#[]⟩, .slice none 0 0, .slice none 0 0] 68)).alloc (.cells #[.string ⟨#[97, 103, 101]⟩, .string ⟨#[115, 105, 122, 101]⟩, .string ⟨#[99, 111, 108, 111, 117, 114]⟩, .string ⟨#[107]⟩, .string ⟨#[108, 111, 110, 103, 110, 97, 109, 101]⟩] 9)).alloc (.cells #[.string ⟨#[]⟩, .slice none 0 0, .slice none 0 0] 68)).setRow (w.heap.size + 1 + 1) #[.string NM, .slice none 0 0, .slice none 0 0] = W at g4 c4 R4 A4 ⊢)
  obtain ⟨p, hp, hp1, hp2⟩ : ∃ p, w.heap.size + 1 + 1 = p ∧ w.heap.size + 2 ≤ p ∧ p < w.heap.size + 3 := ⟨_, rfl, by omega, by omega⟩
  rw [hp] at A4 ⊢
  clear hp
  have e1 := once_any g a len cap zs 2 W c4 (HR.out _ g4) (by decide) (by decide)
  have hA := A4.lt
  go_wp2_with fail
  refine e1.mono ?_
  clear e1
  rintro e w5 ⟨b, rfl, c5, h5⟩
  have g5 := grown_trans g4 h5
  have R5 := R4.kept h5 (by intro e; cases e; omega)
  have A5 := A4.kept h5 (by intro e; cases e; omega)
  clear h5 g4 c4 R4 A4 hA
  cases b with
  | true =>
    have e1 := l1Below_any g a len cap zs 3 w5 c5 (HR.out _ g5) (by decide) (by decide)
    go_wp2_with fail
    refine e1.mono ?_
    clear e1
    rintro e w6 ⟨x, rfl, hx, c6, h6⟩
    have g6 := grown_trans g5 h6
    have R6 := R5.kept h6 (by intro e; cases e; omega)
    have A6 := A5.kept h6 (by intro e; cases e; omega)
    clear h6 g5 c5 R5 A5
    have e1 := pickN [-9999, -7, 0, 3, 20] g a len cap zs w6 c6 (HR.out _ g6) (by simp) (by simp)
    simp only [List.map_cons, List.map_nil, List.length_cons, List.length_nil, Nat.zero_add, Nat.reduceAdd] at e1
    go_wp2_with fail
    refine e1.mono ?_
    clear e1
    rintro e w7 ⟨at0, rfl, hat, c7, h7⟩
    have hat0 : -9999 ≤ at0 ∧ at0 ≤ 20 := by
      simp only [List.mem_cons, List.not_mem_nil, or_false] at hat
      omega
    have g7 := grown_trans g6 h7
    have R7 := R6.kept h7 (by intro e; cases e; omega)
    have A7 := A6.kept h7 (by intro e; cases e; omega)
    clear h7 g6 c6 R6 A6 hat
    obtain ⟨l0, l1⟩ := hat0
    go_wp2
    go_loopw [7, 8] (fun t j wr => ∃ (k : Nat) (at' : Int) (vc : Value) (cs : List Int), j = .int .i64 k ∧ t = .int .i64 at' ∧ k ≤ x + 1 ∧ cs.length = k ∧ -9999 ≤ at' ∧ at' ≤ 20 + 6 * k ∧ Hid (∀ j, j < cs.length → cutAt cs j = true) ∧ Hid (cs.length = 0 ∨ cs.getD (cs.length - 1) 0 < at') ∧ Hid (∀ c ∈ cs, -9999 ≤ c ∧ c ≤ 38) ∧
        Blk 68 wr w.heap.size #[.string ⟨#[]⟩, .slice none 0 0, .slice none 0 0] ∧ Blk 68 wr (p) #[.string NM, vc, .slice none 0 0] ∧ wr.ownsRow (w.heap.size + 3) 3 1 vc cs.length (cs.map (Value.int .i64)) ∧ IsCur wr g a len cap ∧ w.grownBy wr (some g)) (fun _ j _ => x + 1 - (intOf j).toNat)
    case atStart => exact ⟨0, at0, _, [], rfl, rfl, by omega, rfl, l0, by omega, fun j hj => by simp at hj, .inl rfl, fun c hc => by simp at hc, R7, A7, World.ownsRow_nil _ _ _ _, c7, g7⟩
    case round =>
      obtain ⟨k, at', vc, cs, rfl, rfl, hk, hcl, t0, t1, HC, HB, HL, R, A, own, c8, g8⟩ := hrel
      clear R7 A7 c7 g7 l0 l1
      have hAl := A.lt
      have a1 := A.cell 1
      have a1' : wr.cell? ⟨p, 1, none⟩ = some vc := a1
      clear a1
      have hvo : ∀ j, vc.ownBlock = some j → w.heap.size + 3 ≤ j := fun j hj => (own.lt j hj).1
      by_cases hlt : k < x + 1
      · go_wp2_with (at_builtin; refine wpList_append_own _ rfl _ _ 24 rfl (w.heap.size + 3) 3 i0 (.int .i64 0) 1 8 Try.underlying24 hi hz0 hz1 hz2 rfl (by decide) _ _ _ rfl (own.alloc _) ⟨wr.heap.size, 0, none⟩ 1 1 [_] rfl rfl (newc _ _ _) (ints_oneCell .i64 [_]) (by unfold maxLen; omega) (by omega) (by simp; omega) ?_)
        intro v' w2 ho hg2 hnil
        obtain ⟨ov, cv, rfl⟩ := own_slice ho
        have A2 := (A.alloc (.cells #[.int .i64 at'] 3)).kept hg2 (fun e => by have := hvo _ e; omega)
        have R2 := (R.alloc (.cells #[.int .i64 at'] 3)).kept hg2 (fun e => by have := hvo _ e; omega)
        have c2 := (c8.alloc (.cells #[.int .i64 at'] 3)).kept hg2 (fun e => by have := hvo _ e; omega)
        have g2 := grown_own (grown_trans g8 (grown_alloc wr (.cells #[.int .i64 at'] 3) _)) hg2 (fun j e => by have := hvo _ e; omega)
        have a2 : w2.cell? ⟨p, 1, none⟩ = some vc := A2.cell 1
        have f2 := A2.frozen 1
        have A3 : Blk 68 (w2.setCell ⟨p, 1, none⟩ (.slice ov (k + 1) cv)) (p) #[.string NM, (.slice ov (k + 1) cv), .slice none 0 0] := A2.setCell 1 (.slice ov (k + 1) cv)
        have R3 := R2.setCell_other ⟨p, 1, none⟩ (.slice ov (k + 1) cv) (show p ≠ w.heap.size by omega)
        have o3 := own_setCell ho ⟨p, 1, none⟩ (.slice ov (k + 1) cv) (show p < w.heap.size + 3 by omega)
        have c3 := c2.cellW 1 (.slice ov (k + 1) cv) (show g ≠ p by omega)
        have g3 := grown_cell g2 (p := p) (k := 1) (by omega) (.slice ov (k + 1) cv)
        clear hg2 hnil A R c8 g8 own a1' ho A2 R2 c2 g2 hvo
        have e1 := l1Below_any g a len cap zs 6 _ c3 (HR.out _ g3) (by decide) (by decide)
        go_wp2_with fail
        refine e1.mono ?_
        clear e1
        rintro e w9 ⟨y, rfl, hy, c9, h9⟩
        have g9 := grown_trans g3 h9
        have R9 := R3.kept h9 (by intro e; cases e; omega)
        have A9 := A3.kept h9 (by intro e; cases e; omega)
        have o9 := own_curW o3 (by omega) h9
        clear h9 g3 c3 R3 A3 o3 a2 f2
        go_wp2
        go_roundw
        case rel =>
          refine ⟨k + 1, at' + 1 + y, (.slice ov (k + 1) cv), cs ++ [at'], by go_num, rfl, by omega, by simp [hcl], by omega, by omega, rise_snoc HC.out HB.out (by omega), .inr ?_, fun c hc => ?_, R9, A9, ?_, c9, g9⟩
          · rw [List.length_append, List.length_singleton, Nat.add_sub_cancel]
            simp [List.getD]; omega
          · rcases List.mem_append.1 hc with hc | hc
            · exact HL.out c hc
            · rw [List.mem_singleton] at hc; omega
          · rw [List.length_append, List.map_append, hcl]; exact o9
        case measure => simp [intOf]; omega
      · obtain ⟨ov, cv, rfl, -, -⟩ := RowI.of_own own rfl
        go_wp2_with (first | (with_reducible refine wp_at_load rfl _ rfl ?_; refine ⟨p, rfl, _, _, _, A, ?_⟩) | (with_reducible refine wp_at_store rfl _ _ rfl ?_; refine ⟨w.heap.size, rfl, _, _, _, _, _, _, _, rfl, _, _, _, R, ?_⟩))
        refine bodyPost_ret (res_at rfl _ _ _ _ _ _ rfl (R.setRow _)) rfl ⟨_, ⟨NM, cs, []⟩, rfl, ⟨_, _, rfl, own_base (own_setRow own _ _ (by omega)) (by omega), World.ownsRow_nil _ _ _ _⟩, HE.out.symm, ?_, ?_, c8.rowW _ (by omega), grown_row g8 (Nat.le_refl _) _⟩
        · have := right_cuts (i := i) (cs := cs) hi5 (by omega) (by omega) HC.out
          rwa [HE.out] at this
        · exact ⟨HN1.out.2, by show cs.length ≤ 4; omega, by show ([] : List ByteArray).length ≤ 5; simp, fun s hs => by simp at hs, fun c hc => by have := HL.out c hc; omega⟩
  | false =>
    have e1 := l1Below_any g a len cap zs 3 w5 c5 (HR.out _ g5) (by decide) (by decide)
    go_wp2_with fail
    refine e1.mono ?_
    clear e1
    rintro e w7 ⟨x, rfl, hx, c7, h7⟩
    have g7 := grown_trans g5 h7
    have R7 := R5.kept h7 (by intro e; cases e; omega)
    have A7 := A5.kept h7 (by intro e; cases e; omega)
    clear h7 g5 c5 R5 A5
    go_wp2
    go_loopw [10] (fun j wr => ∃ (k : Nat) (vv : Value), j = .int .i64 k ∧ k ≤ x + 2 ∧
        Blk 68 wr w.heap.size #[.string ⟨#[]⟩, .slice none 0 0, .slice none 0 0] ∧ Blk 68 wr p #[.string NM, .slice none 0 0, vv] ∧ wr.ownsRow (w.heap.size + 3) 9 1 vv k ((vlL.take k).map Value.string) ∧ IsCur wr g a len cap ∧ w.grownBy wr (some g)) (fun j _ => x + 2 - (intOf j).toNat)
    case atStart => exact ⟨0, _, rfl, by omega, R7, A7, World.ownsRow_nil _ _ _ _, c7, g7⟩
    case round =>
      obtain ⟨k, vv, rfl, hk, R, A, own, c8, g8⟩ := hrel
      clear R7 A7 c7 g7
      have hAl := A.lt
      have hvo : ∀ j, vv.ownBlock = some j → w.heap.size + 3 ≤ j := fun j hj => (own.lt j hj).1
      by_cases hlt : k < x + 2
      · obtain ⟨T, HT⟩ : ∃ T, Hid (vlL.getD k ByteArray.empty = T) := ⟨_, rfl⟩
        have HS : Hid ((vlL.take (k + 1)).map Value.string = (vlL.take k).map Value.string ++ [.string T]) := by
          rw [← HT.out]
          have h : k = 0 ∨ k = 1 ∨ k = 2 ∨ k = 3 := by omega
          rcases h with rfl | rfl | rfl | rfl <;> rfl
        have Ad : Blk 68 wr.drew p #[.string NM, .slice none 0 0, vv] := A
        have Rd : Blk 68 wr.drew w.heap.size #[.string ⟨#[]⟩, .slice none 0 0, .slice none 0 0] := R
        have cd : IsCur wr.drew g a len cap := c8
        have od : wr.drew.ownsRow (w.heap.size + 3) 9 1 vv k ((vlL.take k).map Value.string) := own
        have gd : w.grownBy wr.drew (some g) := ⟨g8.os, g8.tape, g8.output, g8.size, g8.block⟩
        have d0 : wr.drew.cell? ⟨p, 2, none⟩ = some vv := Ad.cell 2
        have d1 : (wr.drew.alloc (.cells #[.string ⟨#[114, 101, 100]⟩, .string ⟨#[98, 108, 117, 101]⟩, .string ⟨#[120]⟩, .string ⟨#[103, 114, 101, 101, 110]⟩] 9)).cell? ⟨p, 2, none⟩ = some vv := (Ad.alloc _).cell 2
        have d2 : ((wr.drew.alloc (.cells #[.string ⟨#[114, 101, 100]⟩, .string ⟨#[98, 108, 117, 101]⟩, .string ⟨#[120]⟩, .string ⟨#[103, 114, 101, 101, 110]⟩] 9)).alloc (.cells #[.string T] 9)).cell? ⟨p, 2, none⟩ = some vv := ((Ad.alloc _).alloc _).cell 2
        have d3 : wr.cell? ⟨p, 2, none⟩ = some vv := A.cell 2
        have d4 : (wr.alloc (.cells #[.string ⟨#[114, 101, 100]⟩, .string ⟨#[98, 108, 117, 101]⟩, .string ⟨#[120]⟩, .string ⟨#[103, 114, 101, 101, 110]⟩] 9)).cell? ⟨p, 2, none⟩ = some vv := (A.alloc _).cell 2
        have d5 : ((wr.alloc (.cells #[.string ⟨#[114, 101, 100]⟩, .string ⟨#[98, 108, 117, 101]⟩, .string ⟨#[120]⟩, .string ⟨#[103, 114, 101, 101, 110]⟩] 9)).alloc (.cells #[.string T] 9)).cell? ⟨p, 2, none⟩ = some vv := ((A.alloc _).alloc _).cell 2
        have n1 : (wr.drew.alloc (.cells #[.string ⟨#[114, 101, 100]⟩, .string ⟨#[98, 108, 117, 101]⟩, .string ⟨#[120]⟩, .string ⟨#[103, 114, 101, 101, 110]⟩] 9)).cell? ⟨wr.heap.size, k, none⟩ = some (.string T) := by
          show (wr.drew.alloc _).cell? ⟨wr.drew.heap.size, k, none⟩ = _
          rw [World.cell?_alloc_at _ _ _ _ rfl, ← HT.out]
          have h : k = 0 ∨ k = 1 ∨ k = 2 ∨ k = 3 := by omega
          rcases h with rfl | rfl | rfl | rfl <;> rfl
        have hk4 : k < 4 := by omega
        have hget : ([.string ⟨#[114, 101, 100]⟩, .string ⟨#[98, 108, 117, 101]⟩, .string ⟨#[120]⟩, .string ⟨#[103, 114, 101, 101, 110]⟩] : List Value)[k]'hk4 = .string T := by
          have h : k = 0 ∨ k = 1 ∨ k = 2 ∨ k = 3 := by omega
          rw [← HT.out]
          rcases h with rfl | rfl | rfl | rfl <;> rfl
        have hk4i : (k : Int) < 4 := by omega
        have hk4j : (0 : Int) ≤ (k : Int) := by omega
        have hk4k : (k : Int).toNat = k := by omega
        clear R A c8 g8 own
        go_wp2
        go_region_law (refine step_wp rfl (wp_append_own _ _ _ 31 rfl (w.heap.size + 3) 9 j0 (.string ⟨#[]⟩) 1 16 Try.underlying31 hj hj0 hj1 hj2 rfl (by decide) _ _ _ rfl ((od.alloc (.cells #[.string ⟨#[114, 101, 100]⟩, .string ⟨#[98, 108, 117, 101]⟩, .string ⟨#[120]⟩, .string ⟨#[103, 114, 101, 101, 110]⟩] 9)).alloc (.cells #[.string T] 9)) ⟨wr.heap.size + 1, 0, none⟩ 1 1 [.string T] rfl rfl (newc2 _ _ _ _) (by simp [Value.oneCell']) (by unfold maxLen; omega) (by omega) (by simp; omega) ?_); intro v' w2 ho hg2 hnil; obtain ⟨ov, cv, rfl⟩ := own_slice ho; have A2 := ((Ad.alloc (.cells #[.string ⟨#[114, 101, 100]⟩, .string ⟨#[98, 108, 117, 101]⟩, .string ⟨#[120]⟩, .string ⟨#[103, 114, 101, 101, 110]⟩] 9)).alloc (.cells #[.string T] 9)).kept hg2 (fun e => by have := hvo _ e; omega); have a2 : w2.cell? ⟨p, 2, none⟩ = some vv := A2.cell 2; have f2 := A2.frozen 2)
        all_goals
          have R2 := ((Rd.alloc (.cells #[.string ⟨#[114, 101, 100]⟩, .string ⟨#[98, 108, 117, 101]⟩, .string ⟨#[120]⟩, .string ⟨#[103, 114, 101, 101, 110]⟩] 9)).alloc (.cells #[.string T] 9)).kept hg2 (fun e => by have := hvo _ e; omega)
          have c2 := ((cd.alloc (.cells #[.string ⟨#[114, 101, 100]⟩, .string ⟨#[98, 108, 117, 101]⟩, .string ⟨#[120]⟩, .string ⟨#[103, 114, 101, 101, 110]⟩] 9)).alloc (.cells #[.string T] 9)).kept hg2 (fun e => by have := hvo _ e; omega)
          have g2 := grown_own (grown_trans (grown_trans gd (grown_alloc _ (.cells #[.string ⟨#[114, 101, 100]⟩, .string ⟨#[98, 108, 117, 101]⟩, .string ⟨#[120]⟩, .string ⟨#[103, 114, 101, 101, 110]⟩] 9) _)) (grown_alloc _ (.cells #[.string T] 9) _)) hg2 (fun j e => by have := hvo _ e; omega)
          have A3 : Blk 68 (w2.setCell ⟨p, 2, none⟩ (.slice ov (k + 1) cv)) p #[.string NM, .slice none 0 0, .slice ov (k + 1) cv] := A2.setCell 2 (.slice ov (k + 1) cv)
          have R3 := R2.setCell_other ⟨p, 2, none⟩ (.slice ov (k + 1) cv) (show p ≠ w.heap.size by omega)
          have o3 := own_setCell ho ⟨p, 2, none⟩ (.slice ov (k + 1) cv) (show p < w.heap.size + 3 by omega)
          have c3 := c2.cellW 2 (.slice ov (k + 1) cv) (show g ≠ p by omega)
          have g3 := grown_cell g2 (p := p) (k := 2) (by omega) (.slice ov (k + 1) cv)
          clear hg2 hnil A2 R2 c2 g2 ho a2 f2 Ad Rd cd od gd d0 d1 d2 d3 d4 d5 n1 hget hvo
          go_wp2
          go_roundw
          case rel =>
            refine ⟨k + 1, _, by go_num, by omega, R3, A3, ?_, c3, g3⟩
            rw [HS.out]
            exact o3
          case measure => simp [intOf]; omega
      · obtain ⟨ov, cv, rfl⟩ := own_slice own
        go_wp2_with (first | (with_reducible refine wp_at_load rfl _ rfl ?_; refine ⟨p, rfl, _, _, _, A, ?_⟩) | (with_reducible refine wp_at_store rfl _ _ rfl ?_; refine ⟨w.heap.size, rfl, _, _, _, _, _, _, _, rfl, _, _, _, R, ?_⟩))
        refine bodyPost_ret (res_at rfl _ _ _ _ _ _ rfl (R.setRow _)) rfl ⟨_, ⟨NM, [], vlL.take k⟩, rfl, ⟨_, _, rfl, World.ownsRow_nil _ _ _ _, ?_⟩, HE.out.symm, ?_, ?_, c8.rowW _ (by omega), grown_row g8 (Nat.le_refl _) _⟩
        · have hl : (vlL.take k).length = k := by rw [List.length_take]; show min k 4 = k; omega
          show World.ownsRow _ _ _ _ _ (vlL.take k).length _
          rw [hl]
          exact own_base (own_setRow own _ _ (by omega)) (by omega)
        · have := right_vals (i := i) (n := k) hi5 (by omega) (by omega)
          rwa [HE.out] at this
        · refine ⟨HN1.out.2, by show ([] : List Int).length ≤ 4; simp, ?_, fun s hs => vl_each s (List.mem_of_mem_take hs), fun c hc => by simp at hc⟩
          show (vlL.take k).length ≤ 5
          rw [List.length_take]; omega
end Go.Proofs.Yteadkdllmeeocaa
/- Lists of attributes that grow, beside a draw. (What is plain.) -/
namespace Go.Proofs.Yteadkdllmeeocaa
open Go.RowKit
set_option maxRecDepth 100000
theorem DoneA.curW {w w' : World} {b g k : Nat} {ys : List Value} {ls : List AttrD} (h : DoneA w b ys ls k) (hg : g < b) (hk : w.grownBy w' (some g)) : DoneA w' b ys ls k := by
  intro j hj
  obtain ⟨vc, vv, h0, h1, h2, h3, h4⟩ := h j hj
  exact ⟨vc, vv, h0, h1, h2, own_curW h3 hg hk, own_curW h4 hg hk⟩
theorem OwnL.curW {w w' : World} {b g : Nat} {v : Value} {ls : List AttrD} (h : OwnL b w v ls) (hg : g < b) (hk : w.grownBy w' (some g)) : OwnL b w' v ls := by
  obtain ⟨ys, h1, h2⟩ := h
  exact ⟨ys, own_curW h1 hg hk, h2.curW hg hk⟩
theorem ad_appD {zs : List AttrD} {x : AttrD} {j : Nat} (h : j < zs.length) : ad (zs ++ [x]) j = ad zs j := by simp [ad, List.getElem?_append_left h]
theorem ad_lastD {zs : List AttrD} {x : AttrD} : ad (zs ++ [x]) zs.length = x := by simp [ad]
/-- One attribute more. -/
theorem OwnL.snoc {mid : Nat} {w1 w' : World} {v v' : Value} {ls : List AttrD} {x : AttrD} {c1 c2 : Value} {ys : List Value} (hr1 : w1.ownsRow mid 68 3 v ls.length ys) (hd : DoneA w1 mid ys ls ls.length)
    (o1 : w1.ownsRow mid 3 1 c1 x.cuts.length (x.cuts.map (Value.int .i64))) (o2 : w1.ownsRow mid 9 1 c2 x.vals.length (x.vals.map Value.string))
    (hg : w1.grownBy w' v.ownBlock) (hr : w'.ownsRow mid 68 3 v' (ls.length + 1) (ys ++ [.string x.name, c1, c2])) : OwnL mid w' v' (ls ++ [x]) := by
  have hl : ys.length = ls.length * 3 := hr1.1
  have kp : ∀ {e m : Nat} {u : Value} {xs : List Value}, w1.ownsRow mid e 1 u m xs → e ≠ 68 → w'.ownsRow mid e 1 u m xs := fun ho he => ho.kept hg (apart_d ho hr1 he)
  refine ⟨ys ++ [.string x.name, c1, c2], by rw [List.length_append]; exact hr, fun j hj => ?_⟩
  rw [List.length_append, List.length_singleton] at hj
  by_cases e : j = ls.length
  · subst e
    rw [ad_lastD]
    refine ⟨c1, c2, ?_, ?_, ?_, kp o1 (by decide), kp o2 (by decide)⟩
    · rw [List.getElem?_append_right (by omega), hl, Nat.sub_self]; rfl
    · rw [List.getElem?_append_right (by omega), hl, show ls.length * 3 + 1 - ls.length * 3 = 1 by omega]; rfl
    · rw [List.getElem?_append_right (by omega), hl, show ls.length * 3 + 2 - ls.length * 3 = 2 by omega]; rfl
  · obtain ⟨vc, vv, h0, h1, h2, h3, h4⟩ := hd j (by omega)
    rw [ad_appD (by omega)]
    refine ⟨vc, vv, ?_, ?_, ?_, kp h3 (by decide), kp h4 (by decide)⟩
    · rw [List.getElem?_append_left (by omega)]; exact h0
    · rw [List.getElem?_append_left (by omega)]; exact h1
    · rw [List.getElem?_append_left (by omega)]; exact h2
theorem newc3D (w : World) (x y z : Value) (e : TypeId) : ∀ (j : Nat) (u : Value), [x, y, z][j]? = some u → (w.alloc (.cells #[x, y, z] e)).cell? ((⟨w.heap.size, 0, none⟩ : Addr).add j) = some u := by
  intro j u hj
  match j, hj with
  | 0, hj => simp at hj; subst hj; simp [Addr.add]
  | 1, hj => simp at hj; subst hj; simp [Addr.add]
  | 2, hj => simp at hj; subst hj; simp [Addr.add]
theorem OwnL.setCellN {base p k : Nat} {w : World} {v u : Value} {ls : List AttrD} (h : OwnL base w v ls) (hp : p < base) : OwnL base (w.setCell ⟨p, k, none⟩ u) v ls := h.setCell ⟨p, k, none⟩ u hp
/-- What is drawn is right. -/
theorem right_schema {ls : List AttrD} {cl : List ByteArray} (h1 : 1 ≤ ls.length) (h5 : ls.length ≤ 5) (hc : choices cl 3 = true) (ha : ∀ j, j < ls.length → attrOk (ad ls j) = true ∧ (ad ls j).name = nmL.getD j ByteArray.empty) : schemaOk ⟨ls, cl⟩ = true := by
  unfold schemaOk
  show (decide (1 ≤ ls.length ∧ ls.length ≤ 5) && (choices cl 3 && attrsOk ls)) = true
  rw [decide_eq_true ⟨h1, h5⟩, hc, attrs_yes fun j hj => ?_]
  · rfl
  · unfold attrAt
    rw [(ha j hj).1, Bool.true_and, Bool.not_eq_true']
    refine hasT_no fun i hi => ?_
    rw [nmsB_len (by omega)] at hi
    have hij : i < j := by omega
    rw [(ha j hj).2]
    have e : tx (nmsB ls j) i = nmL.getD i ByteArray.empty := by
      rw [← (ha i (by omega)).2]
      exact nmsB_at hij (by omega)
    rw [e]
    have key : ∀ j, j < 5 → ∀ i, i < j → nmL.getD j ByteArray.empty ≠ nmL.getD i ByteArray.empty := by decide +kernel
    exact key j (by omega) i hij
theorem cls_ok : choices [⟨#[110, 111]⟩, ⟨#[121, 101, 115]⟩] 3 = true ∧ choices [⟨#[110, 111]⟩, ⟨#[121, 101, 115]⟩, ⟨#[112, 101, 114, 104, 97, 112, 115]⟩] 3 = true := by decide +kernel
end Go.Proofs.Yteadkdllmeeocaa
