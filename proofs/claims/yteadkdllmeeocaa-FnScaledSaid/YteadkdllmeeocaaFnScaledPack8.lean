/- Texts of this claim, put together: part 8. -/
import Derived.Test.YteadkdllmeeocaaFnScaledPack7
import Derived.Test.YteadkdllmeeocaaFnScaledPack1
import Derived.Laws.AppendOwnNone
import Derived.Test.YteadkdllmeeocaaFnScaledPack6
/- Draws: one of a few numbers, one number below a bound. -/
namespace Go.Proofs.Yteadkdllmeeocaa
open Go.RowKit
set_option maxRecDepth 100000

theorem IsCur.alloc {w : World} {g : Nat} {a : Option Addr} {len cap : Nat} (h : IsCur w g a len cap) (o : Obj) : IsCur (w.alloc o) g a len cap := by
  obtain ⟨i, y, hi, hb⟩ := h
  have hlt : g < w.heap.size := by
    rcases Nat.lt_or_ge g w.heap.size with h3 | h3
    · exact h3
    · rw [Array.getElem?_eq_none h3] at hb; cases hb
  exact ⟨i, y, hi, (Below.heap_alloc w o g hlt).trans hb⟩
theorem new_ints (w : World) (xs : List Int) (e : TypeId) : ∀ j, j < xs.length → (w.alloc (.cells (xs.map (Value.int .i64)).toArray e)).cell? ⟨w.heap.size, j, none⟩ = some (.int .i64 (xs.getD j 0)) := by
  intro j hj
  rw [World.cell?_alloc_at _ _ _ _ rfl]
  simp [hj]
theorem IsCur.lt {w : World} {g : Nat} {a : Option Addr} {len cap : Nat} (h : IsCur w g a len cap) : g < w.heap.size := by
  obtain ⟨i, y, hi, hb⟩ := h
  rcases Nat.lt_or_ge g w.heap.size with h3 | h3
  · exact h3
  · rw [Array.getElem?_eq_none h3] at hb; cases hb

/-- One of a few numbers, picked out of a list that was just laid. -/
theorem pick_new (xs : List Int) (g : Nat) (a : Option Addr) (len cap : Nat) (zs : List Int) (w : World) (hc : IsCur w g a len cap) (hr : IsRow .u8 w a len cap zs) (h1 : 1 ≤ xs.length) (h2 : xs.length ≤ 256) :
    Calls Try.prog 48 #[.pointer (some ⟨g, 0, none⟩), .slice (some ⟨w.heap.size, 0, none⟩) xs.length xs.length] (w.alloc (.cells (xs.map (Value.int .i64)).toArray 3)) fun e w' =>
      ∃ x : Int, e = .returned (.int .i64 x) ∧ x ∈ xs ∧ IsCur w' g a len cap ∧ IsRow .u8 w' a len cap zs ∧ Below g w w' := by
  have hlt := hc.lt
  have hb : Below w.heap.size w (w.alloc (.cells (xs.map (Value.int .i64)).toArray 3)) := (Below.refl _ _).alloc (Nat.le_refl _) _
  refine (l1PickInt_any g a len cap zs w.heap.size xs _ (hc.alloc _) (hr.later hb) h1 h2 (by omega) (new_ints w xs 3)).mono ?_
  rintro e w' ⟨x, rfl, hx, hc', hg⟩
  exact ⟨x, rfl, hx, hc', (hr.later hb).aside (hc.alloc _) hg, (hb.mono (by omega)).trans (grown_below hg (Nat.le_refl _) (by simp; omega))⟩

/-- One below whatever bound. -/
theorem l1BelowBig_any (g : Nat) (a : Option Addr) (len cap : Nat) (zs : List Int) (n : Nat) (w : World) (hc : IsCur w g a len cap) (hr : IsRow .u8 w a len cap zs) (h1 : 256 < n) (h2 : n ≤ 2147483648) :
    Calls Try.prog 52 #[.pointer (some ⟨g, 0, none⟩), .int .i64 (n : Int)] w fun e w' => ∃ x : Nat, e = .returned (.int .i64 (x : Int)) ∧ x < n ∧ IsCur w' g a len cap ∧ w.grownBy w' (some g) := by
  have hn0 : ¬ (n : Int) ≤ 0 := by omega
  have hn1 : ¬ (n : Int) = 0 := by omega
  have hn2 : ¬ (n : Int) ≤ 256 := by omega
  go_enter Try.func52, Try.ntmps52
  go_wp2_with fail
  refine (l1Byte_any g a len cap zs w hc hr).mono ?_
  rintro e w1 ⟨x1, rfl, x10, x11, hc1, hg1⟩
  have hr1 := hr.aside hc hg1
  go_wp2_with fail
  refine (l1Byte_any g a len cap zs w1 hc1 hr1).mono ?_
  rintro e w2 ⟨x2, rfl, x20, x21, hc2, hg2⟩
  have hr2 := hr1.aside hc1 hg2
  go_wp2_with fail
  refine (l1Byte_any g a len cap zs w2 hc2 hr2).mono ?_
  rintro e w3 ⟨x3, rfl, x30, x31, hc3, hg3⟩
  have hr3 := hr2.aside hc2 hg3
  go_wp2_with fail
  refine (l1Byte_any g a len cap zs w3 hc3 hr3).mono ?_
  rintro e w4 ⟨x4, rfl, x40, x41, hc4, hg4⟩
  obtain ⟨y1, rfl⟩ := Int.eq_ofNat_of_zero_le x10
  obtain ⟨y2, rfl⟩ := Int.eq_ofNat_of_zero_le x20
  obtain ⟨y3, rfl⟩ := Int.eq_ofNat_of_zero_le x30
  obtain ⟨y4, rfl⟩ := Int.eq_ofNat_of_zero_le x40
  have hg := grown_trans hg1 (grown_trans hg2 (grown_trans hg3 hg4))
  clear hc hr hc1 hr1 hc2 hr2 hc3 hr3 hg1 hg2 hg3 hg4 x10 x20 x30 x40
  go_wp2
  go_ret
  refine ⟨(y1 * 16777216 + y2 * 65536 + y3 * 256 + y4) % n, ?_, Nat.mod_lt _ (by omega), hc4, hg⟩
  have e : ((y1 : Int) * 16777216 + y2 * 65536 + y3 * 256 + y4) % n = (((y1 * 16777216 + y2 * 65536 + y3 * 256 + y4) % n : Nat) : Int) := by
    rw [show (y1 : Int) * 16777216 + y2 * 65536 + y3 * 256 + y4 = ((y1 * 16777216 + y2 * 65536 + y3 * 256 + y4 : Nat) : Int) by omega]
    exact (Int.natCast_emod _ _).symm
  rw [← e]
  rfl
end Go.Proofs.Yteadkdllmeeocaa
/- What lies below is left: a world is grown. -/
namespace Go.Proofs.Yteadkdllmeeocaa
open Go.RowKit
set_option maxRecDepth 100000
theorem grown_of_below {w w' : World} (h : Below w.heap.size w w') (r : Option Nat := none) : w.grownBy w' r := ⟨h.os, h.tape, h.output, h.size, fun k hk _ => h.block k hk⟩
end Go.Proofs.Yteadkdllmeeocaa
/- Draws beside rows of the call's own. -/
namespace Go.Proofs.Yteadkdllmeeocaa
open Go.RowKit
set_option maxRecDepth 100000

theorem own_cur {w w' : World} {base n g : Nat} {v : Value} {xs : List Value} (h : w.ownsRow base 3 1 v n xs) (hg : g < base) (hk : w.grownBy w' (some g)) : w'.ownsRow base 3 1 v n xs := by
  refine h.kept hk ?_
  cases e : v.ownBlock with
  | none => exact .inl rfl
  | some k =>
    refine .inr fun e' => ?_
    have := (h.lt k e).1
    injection e'
    omega
theorem grown_alloc (w : World) (o : Obj) (r : Option Nat) : w.grownBy (w.alloc o) r := ⟨rfl, rfl, rfl, by simp, fun k hk _ => Below.heap_alloc w o k hk⟩
theorem grown_own {w wq w4 : World} {r : Option Nat} {g : Nat} (h : w.grownBy wq (some g)) (k : wq.grownBy w4 r) (hr : ∀ j, r = some j → w.heap.size ≤ j) : w.grownBy w4 (some g) :=
  ⟨k.os.trans h.os, k.tape.trans h.tape, k.output.trans h.output, Nat.le_trans h.size k.size, fun j hj hne => (k.block j (Nat.lt_of_lt_of_le hj h.size) (fun e => by have := hr j e.symm; omega)).trans (h.block j hj hne)⟩
/-- The cursor's own things, behind whatever leaves its block. -/
theorem IsCur.kept {w w' : World} {g : Nat} {a : Option Addr} {len cap : Nat} {r : Option Nat} (h : IsCur w g a len cap) (hk : w.grownBy w' r) (hr : r ≠ some g) : IsCur w' g a len cap := by
  have hlt := h.lt
  obtain ⟨i, y, hi, hb⟩ := h
  exact ⟨i, y, hi, (hk.block g hlt (fun e => hr e.symm)).trans hb⟩

/-- One of a few numbers, picked out of a list that was just laid. -/
theorem pickN (xs : List Int) (g : Nat) (a : Option Addr) (len cap : Nat) (zs : List Int) (w : World) (hc : IsCur w g a len cap) (hr : IsRow .u8 w a len cap zs) (h1 : 1 ≤ xs.length) (h2 : xs.length ≤ 256) :
    Calls Try.prog 48 #[.pointer (some ⟨g, 0, none⟩), .slice (some ⟨w.heap.size, 0, none⟩) xs.length xs.length] (w.alloc (.cells (xs.map (Value.int .i64)).toArray 3)) fun e w' =>
      ∃ x : Int, e = .returned (.int .i64 x) ∧ x ∈ xs ∧ IsCur w' g a len cap ∧ w.grownBy w' (some g) := by
  have hlt := hc.lt
  have hb : Below w.heap.size w (w.alloc (.cells (xs.map (Value.int .i64)).toArray 3)) := (Below.refl _ _).alloc (Nat.le_refl _) _
  refine (l1PickInt_any g a len cap zs w.heap.size xs _ (hc.alloc _) (hr.later hb) h1 h2 (by omega) (new_ints w xs 3)).mono ?_
  rintro e w' ⟨x, rfl, hx, hc', hg⟩
  exact ⟨x, rfl, hx, hc', grown_trans (grown_alloc w _ _) hg⟩
end Go.Proofs.Yteadkdllmeeocaa
/- Draws of chapter 9: a question, right or not. -/
namespace Go.Proofs.Yteadkdllmeeocaa
open Go.RowKit
set_option maxRecDepth 100000
set_option linter.unusedSimpArgs false
theorem IsCur.row9 {w : World} {g p : Nat} {a : Option Addr} {len cap : Nat} (h : IsCur w g a len cap) (cs : Array Value) (hp : g ≠ p) : IsCur (w.setRow p cs) g a len cap := by
  obtain ⟨i, y, hi, hb⟩ := h
  exact ⟨i, y, hi, (Go.setRow_other _ _ _ _ hp).trans hb⟩
theorem IsCur.cell9 {w : World} {g p : Nat} {a : Option Addr} {len cap : Nat} (h : IsCur w g a len cap) (k : Nat) (v : Value) (hp : g ≠ p) : IsCur (w.setCell ⟨p, k, none⟩ v) g a len cap := by
  obtain ⟨i, y, hi, hb⟩ := h
  exact ⟨i, y, hi, (heap_setCell_other w ⟨p, k, none⟩ g v hp).trans hb⟩
theorem fork_size : (Try.prog.info? 38).map (·.size) = some 2 := by kernel_rfl
/-- A question is stored, handed back. -/
theorem wp_fk_store {ops : Array Oper} {rest : List Oper} {o : Oper} {a : Act} {w : World} {Q : Exit → Act → World → Prop} (hgd : o.guard = none) (x y : Operand) (ho : o.op = .store 38 x y)
    (h : ∃ g, a.eval x = .pointer (some ⟨g, 0, none⟩) ∧ ∃ m n, a.eval y = .agg #[.int .i64 m, .int .i64 n] ∧ ∃ m' n', Blk 38 w g #[.int .i64 m', .int .i64 n'] ∧ wpList Try.prog ops Q rest (a.put o.dst undef) (w.setRow g #[.int .i64 m, .int .i64 n])) : wpList Try.prog ops Q (o :: rest) a w := by
  obtain ⟨g, hx, m, n, hy, m', n', hA, hk⟩ := h
  exact wpList_store_row hgd 38 x y ho g _ hx hy _ _ hA fork_size rfl (by simp [Value.oneCell']) hk
theorem res_fk {fn : Func} {p : Tmp} (h : fn.results = #[.cell p 38]) (tmps : Array Value) (w : World) (g : Nat) (m n : Int)
    (hp : tmps.getD p undef = .pointer (some ⟨g, 0, none⟩)) (hg : Blk 38 w g #[.int .i64 m, .int .i64 n]) : (results fn tmps).run Try.prog w = .ok (.agg #[.int .i64 m, .int .i64 n]) w :=
  results_cell_row h tmps w g _ _ _ _ hp hg Try.underlying38 rfl fork_size
theorem ownF_lit9 (w : World) (b : Nat) (hb : b ≤ w.heap.size) : (w.alloc (.cells #[] 38)).ownsRow b 38 2 (.slice (some ⟨w.heap.size, 0, none⟩) 0 0) 0 [] :=
  World.ownsRow_lit w #[] 0 hb (by unfold maxLen; omega) rfl
theorem own_slice9 {w : World} {b e s n : Nat} {v : Value} {xs : List Value} (h : w.ownsRow b e s v n xs) : ∃ a c, v = .slice a n c := by
  rcases h.2 with ⟨rfl, h0⟩ | ⟨g, cap, cur, hv, _⟩
  · exact ⟨none, 0, by rw [h0]⟩
  · exact ⟨_, _, hv⟩
set_option maxHeartbeats 6400000 in
theorem right9_any (g : Nat) (a : Option Addr) (len cap : Nat) (zs : List Int) (vs : Value) (s : SchemaD) (w : World) (hc : IsCur w g a len cap) (hr : IsRow .u8 w a len cap zs) (hs : SchemaAt w vs s) (hn : okSch s) (h6 : s.attrs.length ≤ 6) :
    Calls Try.prog 57 #[.pointer (some ⟨g, 0, none⟩), vs] w fun e w' => ∃ f, e = .returned (forkV f) ∧ IsCur w' g a len cap ∧ w.grownBy w' (some g) := by
  obtain ⟨i0, hi0, hz0, hz1, hz2⟩ := info_parts forkInfo
  have hgw := hc.lt
  have HS : Hid (∀ W, Below w.heap.size w W → SchemaAt W vs s) := fun W h => hs.later h
  have HR : Hid (∀ W, w.grownBy W (some g) → IsRow .u8 W a len cap zs) := fun W h => hr.aside hc h
  have HC : Hid (∀ W, Below w.heap.size w W → IsCur W g a len cap) := fun W h => hc.kept (grown_of_below h) (by intro e; cases e)
  have HOK : Hid (okSch s) := hn
  obtain ⟨va, vc, rfl, ra, -⟩ := hs
  obtain ⟨oa, ka, rfl, -, -⟩ := id ra
  clear ra hn hr hc
  obtain ⟨KS, KR, B⟩ := blk_2 33 38 w #[.slice oa s.attrs.length ka, vc] #[.int .i64 0, .int .i64 0]
  have hz : ((w.alloc (.cells #[.slice oa s.attrs.length ka, vc] 33)).alloc (.cells #[.int .i64 0, .int .i64 0] 38)).heap.size = w.heap.size + 2 := by simp
  have hown0 := ownF_lit9 ((w.alloc (.cells #[.slice oa s.attrs.length ka, vc] 33)).alloc (.cells #[.int .i64 0, .int .i64 0] 38)) (w.heap.size + 2) (by simp)
  have bL : Below ((w.alloc (.cells #[.slice oa s.attrs.length ka, vc] 33)).alloc (.cells #[.int .i64 0, .int .i64 0] 38)).heap.size ((w.alloc (.cells #[.slice oa s.attrs.length ka, vc] 33)).alloc (.cells #[.int .i64 0, .int .i64 0] 38)) (((w.alloc (.cells #[.slice oa s.attrs.length ka, vc] 33)).alloc (.cells #[.int .i64 0, .int .i64 0] 38)).alloc (.cells #[] 38)) := (Below.refl _ _).alloc (Nat.le_refl _) _
  have hown : (((w.alloc (.cells #[.slice oa s.attrs.length ka, vc] 33)).alloc (.cells #[.int .i64 0, .int .i64 0] 38)).alloc (.cells #[] 38)).ownsRow (w.heap.size + 2) 38 2 (.slice (some ⟨w.heap.size + 2, 0, none⟩) 0 0) 0 [] := by rw [hz] at hown0; exact hown0
  clear hown0
  have kS0 : (((w.alloc (.cells #[.slice oa s.attrs.length ka, vc] 33)).alloc (.cells #[.int .i64 0, .int .i64 0] 38)).alloc (.cells #[] 38)).cell? ⟨w.heap.size, 0, none⟩ = some (.slice oa s.attrs.length ka) := (KS.below bL).cell 0
  have HK : Hid (∀ W, Below (w.heap.size + 2) ((w.alloc (.cells #[.slice oa s.attrs.length ka, vc] 33)).alloc (.cells #[.int .i64 0, .int .i64 0] 38)) W → Blk 33 W w.heap.size #[.slice oa s.attrs.length ka, vc] ∧ Blk 38 W (w.heap.size + 1) #[.int .i64 0, .int .i64 0] ∧ Below w.heap.size w W) := fun W h => ⟨KS.below (by rw [hz]; exact h), KR.below (by rw [hz]; exact h), B.trans (h.mono (by omega))⟩
  have hbr : Below (w.heap.size + 2) ((w.alloc (.cells #[.slice oa s.attrs.length ka, vc] 33)).alloc (.cells #[.int .i64 0, .int .i64 0] 38)) (((w.alloc (.cells #[.slice oa s.attrs.length ka, vc] 33)).alloc (.cells #[.int .i64 0, .int .i64 0] 38)).alloc (.cells #[] 38)) := by rw [hz] at bL; exact bL
  clear KS KR B bL
  have hbz : w.heap.size + 2 ≤ ((w.alloc (.cells #[.slice oa s.attrs.length ka, vc] 33)).alloc (.cells #[.int .i64 0, .int .i64 0] 38)).heap.size := by omega
  clear hz
  go_enter Try.func57, Try.ntmps57
  go_wp2
  generalize (w.alloc (.cells #[.slice oa s.attrs.length ka, vc] 33)).alloc (.cells #[.int .i64 0, .int .i64 0] 38) = W0 at hown kS0 HK hbr hbz ⊢
  go_loopw [5, 6] (fun v i wr => ∃ (k : Nat) (fs : List ForkD), i = .int .i64 k ∧ k ≤ s.attrs.length ∧ fs.length ≤ 5 * k ∧ wr.ownsRow (w.heap.size + 2) 38 2 v fs.length (fkC fs) ∧ Below (w.heap.size + 2) W0 wr) (fun _ i _ => s.attrs.length - (intOf i).toNat)
  case atStart => exact ⟨0, [], rfl, by omega, by simp, hown, hbr⟩
  case round =>
    clear hown hbr kS0
    obtain ⟨k, fs, rfl, hk, hfl, hown, hbr⟩ := hrel
    have hws := hbr.size
    have kS0 : wr.cell? ⟨w.heap.size, 0, none⟩ = some (.slice oa s.attrs.length ka) := (HK.out _ hbr).1.cell 0
    by_cases hlt : k < s.attrs.length
    · go_wp2
      go_loopw [5, 7] (fun v i wr => ∃ (p : Nat) (fs' : List ForkD), i = .int .i64 ((p : Int) - 1) ∧ p ≤ 5 ∧ fs'.length ≤ 5 * k + p ∧ wr.ownsRow (w.heap.size + 2) 38 2 v fs'.length (fkC fs') ∧ Below (w.heap.size + 2) W0 wr) (fun _ i _ => (4 - intOf i).toNat)
      case atStart => exact ⟨0, fs, by go_num, by omega, by omega, hown, hbr⟩
      case round =>
        clear hown hbr kS0 hfl hws
        obtain ⟨p, fs', rfl, hp, hfl, hown, hbr⟩ := hrel
        have hws := hbr.size
        by_cases hplt : p < 5
        rotate_left
        · obtain rfl : p = 5 := by omega
          go_wp2
          go_roundw
          case rel => exact ⟨k + 1, fs', by go_num, by omega, by omega, hown, hbr⟩
          case measure => simp [intOf]; omega
        have hpl : (p : Int) - 1 < 4 := by omega
        have bF : Below wr.heap.size wr (wr.alloc (.cells #[.int .i64 (k : Int), .int .i64 ((p : Int) - 1)] 38)) := (Below.refl _ _).alloc (Nat.le_refl _) _
        have KF := Blk.new 38 wr #[.int .i64 (k : Int), .int .i64 ((p : Int) - 1)]
        obtain ⟨KS, KR, B⟩ := HK.out _ (hbr.trans (bF.mono (by omega)))
        have cc := specForkOk_any _ s ⟨(k : Int), (p : Int) - 1⟩ _ (HS.out _ B) HOK.out
        unfold forkV at cc
        generalize forkOk s ⟨(k : Int), (p : Int) - 1⟩ = q at cc
        have kS0 : (wr.alloc (.cells #[.int .i64 (k : Int), .int .i64 ((p : Int) - 1)] 38)).cell? ⟨w.heap.size, 0, none⟩ = some (.slice oa s.attrs.length ka) := KS.cell 0
        have kS1 : (wr.alloc (.cells #[.int .i64 (k : Int), .int .i64 ((p : Int) - 1)] 38)).cell? ⟨w.heap.size, 1, none⟩ = some vc := KS.cell 1
        have kF0 : (wr.alloc (.cells #[.int .i64 (k : Int), .int .i64 ((p : Int) - 1)] 38)).cell? ⟨wr.heap.size, 0, none⟩ = some (.int .i64 (k : Int)) := KF.cell 0
        have kF1 : (wr.alloc (.cells #[.int .i64 (k : Int), .int .i64 ((p : Int) - 1)] 38)).cell? ⟨wr.heap.size, 1, none⟩ = some (.int .i64 ((p : Int) - 1)) := KF.cell 1
        clear KS KR B
        go_wp2_with fail
        refine cc.mono ?_
        clear cc kS0 kS1 kF0 kF1
        rintro e w6 ⟨rfl, hb⟩
        replace hown := own_below (own_below hown bF) hb
        replace hbr := (hbr.trans (bF.mono (by omega))).trans (hb.mono (by simp; omega))
        replace KF := KF.below hb
        have hws := hbr.size
        clear hb bF
        cases q with
        | false =>
          clear KF
          go_wp2
          go_roundw
          case rel => exact ⟨p + 1, fs', by go_num, by omega, by omega, hown, hbr⟩
          case measure => simp [intOf]; omega
        | true =>
          have kF0 : w6.cell? ⟨wr.heap.size, 0, none⟩ = some (.int .i64 (k : Int)) := KF.cell 0
          have kF1 : w6.cell? ⟨wr.heap.size, 1, none⟩ = some (.int .i64 ((p : Int) - 1)) := KF.cell 1
          clear KF
          go_wp2_with (at_builtin; refine wpList_append_own _ rfl _ _ 53 rfl (w.heap.size + 2) 38 i0 (.agg #[.int .i64 0, .int .i64 0]) 2 16 Try.underlying53 hi0 hz0 hz1 hz2 rfl (by decide) _ _ _ rfl (hown.alloc _) ⟨w6.heap.size, 0, none⟩ 1 1 [.int .i64 (k : Int), .int .i64 ((p : Int) - 1)] rfl rfl (newcF2 _ _ _ _) (one2 _ _) (by unfold maxLen; omega) (by omega) (by simp; omega) ?_)
          intro v' w7 ho hg hnil
          have hb7 : Below (w.heap.size + 2) W0 w7 := (hbr.alloc (by omega) _).grown hg (by simp; omega) (fun j hj => (hown.lt j hj).1)
          clear hg hnil hbr hown kF0 kF1
          go_wp2
          go_roundw
          case rel =>
            refine ⟨p + 1, fs' ++ [⟨(k : Int), (p : Int) - 1⟩], by go_num, by omega, by simp; omega, ?_, hb7⟩
            rw [List.length_append, fkC_snoc]
            exact ho
          case measure => simp [intOf]; omega
    · obtain rfl : k = s.attrs.length := by omega
      obtain ⟨KS, KR, B⟩ := HK.out _ hbr
      have hfl2 : fs.length ≤ 30 := by omega
      obtain ⟨ov, kv, rfl⟩ := own_slice9 hown
      by_cases h0 : fs.length = 0
      · have hq : ((fs.length : Int) == 0) = true := by rw [h0]; rfl
        have cu := HC.out _ B
        clear hown KS
        go_wp2_with (with_reducible refine wp_fk_store rfl _ _ rfl ?_; refine ⟨w.heap.size + 1, rfl, 0, 0, rfl, 0, 0, KR, ?_⟩)
        refine bodyPost_ret (res_fk rfl _ _ (w.heap.size + 1) 0 0 rfl (KR.setRow _)) rfl ⟨⟨0, 0⟩, rfl, cu.row9 _ (by omega), grown_row (grown_of_below B _) (by omega) _⟩
      · have hq : ((fs.length : Int) == 0) = false := by rw [beq_eq_false_iff_ne]; omega
        have cu := HC.out _ B
        have gr := grown_of_below B (some g)
        have cc := l1Below_any g a len cap zs fs.length wr cu (HR.out _ gr) (by omega) (by omega)
        clear KS
        go_wp2_with fail
        refine cc.mono ?_
        clear cc
        rintro e w8 ⟨x, rfl, hx, cu2, hg2⟩
        replace KR := KR.kept hg2 (by intro e; injection e; omega)
        replace gr := grown_trans gr hg2
        have hown2 := hown.kept hg2 (by
          cases e : (Value.slice ov fs.length kv).ownBlock with
          | none => exact .inl rfl
          | some j => exact .inr fun e' => by have h1 := (hown.lt j e).1; injection e' with e2; omega)
        obtain ⟨go, rfl, hcl⟩ : ∃ go, ov = some ⟨go, 0, none⟩ ∧ ∀ j, j < fs.length * 2 → w8.cell? ⟨go, j, none⟩ = (fkC fs)[j]? := by
          rcases hown2.2 with ⟨e, h1⟩ | ⟨go, c1, c2, e, _⟩
          · exact absurd h1 h0
          · cases e
            exact ⟨go, rfl, fun j hj => hown2.cellAt j hj⟩
        obtain ⟨f0, f1⟩ := fkC_at fs x hx
        have k0 := (hcl (x * 2) (by omega)).trans f0
        have k1 := (hcl (x * 2 + 1) (by omega)).trans f1
        generalize fk fs x = f at k0 k1
        obtain ⟨m, n⟩ := f
        clear hcl f0 f1 hown hown2 hg2
        go_wp2_with (with_reducible refine wp_fk_store rfl _ _ rfl ?_; refine ⟨w.heap.size + 1, rfl, m, n, rfl, 0, 0, KR, ?_⟩)
        refine bodyPost_ret (res_fk rfl _ _ (w.heap.size + 1) m n rfl (KR.setRow _)) rfl ⟨⟨m, n⟩, rfl, cu2.row9 _ (by omega), grown_row gr (by omega) _⟩
end Go.Proofs.Yteadkdllmeeocaa
