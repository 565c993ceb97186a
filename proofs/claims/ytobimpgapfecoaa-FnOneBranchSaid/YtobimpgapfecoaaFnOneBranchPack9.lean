/- Texts of this claim, put together: part 9. -/
import Derived.Laws.AppendOwnNone
import Derived.Test.YtobimpgapfecoaaFnOneBranchPack6
import Derived.Test.YtobimpgapfecoaaFnOneBranchPack7
import Derived.Test.YtobimpgapfecoaaFnOneBranchPack8
import Derived.Test.YtobimpgapfecoaaFnOneBranchPack1
import Derived.Test.YtobimpgapfecoaaFnOneBranchPack2
import Derived.Test.YtobimpgapfecoaaFnOneBranchPack3
/- Draws of chapter 9: a question, right or not. -/
namespace Go.Proofs.Ytobimpgapfecoaa
open Go.RowKit
set_option maxRecDepth 100000
set_option linter.unusedSimpArgs false
theorem IsCur.row9 {w : World} {g p : Nat} {a : Option Addr} {len cap : Nat} (h : IsCur w g a len cap) (cs : Array Value) (hp : g ≠ p) : IsCur (w.setRow p cs) g a len cap := by
  obtain ⟨i, y, hi, hb⟩ := h
  exact ⟨i, y, hi, (Go.setRow_other _ _ _ _ hp).trans hb⟩
theorem IsCur.cell9 {w : World} {g p : Nat} {a : Option Addr} {len cap : Nat} (h : IsCur w g a len cap) (k : Nat) (v : Value) (hp : g ≠ p) : IsCur (w.setCell ⟨p, k, none⟩ v) g a len cap := by
  obtain ⟨i, y, hi, hb⟩ := h
  exact ⟨i, y, hi, (heap_setCell_other w ⟨p, k, none⟩ g v hp).trans hb⟩
theorem res_fk {fn : Func} {p : Tmp} (h : fn.results = #[.cell p 48]) (tmps : Array Value) (w : World) (g : Nat) (m n : Int)
    (hp : tmps.getD p undef = .pointer (some ⟨g, 0, none⟩)) (hg : Blk 48 w g #[.int .i64 m, .int .i64 n]) : (results fn tmps).run Try.prog w = .ok (.agg #[.int .i64 m, .int .i64 n]) w :=
  results_cell_row h tmps w g _ _ _ _ hp hg Try.underlying48 rfl fork_size
theorem ownF_lit9 (w : World) (b : Nat) (hb : b ≤ w.heap.size) : (w.alloc (.cells #[] 48)).ownsRow b 48 2 (.slice (some ⟨w.heap.size, 0, none⟩) 0 0) 0 [] :=
  World.ownsRow_lit w #[] 0 hb (by unfold maxLen; omega) rfl
theorem own_slice9 {w : World} {b e s n : Nat} {v : Value} {xs : List Value} (h : w.ownsRow b e s v n xs) : ∃ a c, v = .slice a n c := by
  rcases h.2 with ⟨rfl, h0⟩ | ⟨g, cap, cur, hv, _⟩
  · exact ⟨none, 0, by rw [h0]⟩
  · exact ⟨_, _, hv⟩
set_option maxHeartbeats 6400000 in
theorem right9_any (g : Nat) (a : Option Addr) (len cap : Nat) (zs : List Int) (vs : Value) (s : SchemaD) (w : World) (hc : IsCur w g a len cap) (hr : IsRow .u8 w a len cap zs) (hs : SchemaAt w vs s) (hn : okSch s) (h6 : s.attrs.length ≤ 6) :
    Calls Try.prog 103 #[.pointer (some ⟨g, 0, none⟩), vs] w fun e w' => ∃ f, e = .returned (forkV f) ∧ IsCur w' g a len cap ∧ w.grownBy w' (some g) := by
  obtain ⟨i0, hi0, hz0, hz1, hz2⟩ := info_parts forkInfo
  have hgw := hc.lt
  have HS : Hid (∀ W, Below w.heap.size w W → SchemaAt W vs s) := fun W h => hs.later h
  have HR : Hid (∀ W, w.grownBy W (some g) → IsRow .u8 W a len cap zs) := fun W h => hr.aside hc h
  have HC : Hid (∀ W, Below w.heap.size w W → IsCur W g a len cap) := fun W h => hc.kept (grown_of_below h) (by intro e; cases e)
  have HOK : Hid (okSch s) := hn
  obtain ⟨va, vc, rfl, ra, -⟩ := hs
  obtain ⟨oa, ka, rfl, -, -⟩ := id ra
  clear ra hn hr hc
  obtain ⟨KS, KR, B⟩ := blk_2 27 48 w #[.slice oa s.attrs.length ka, vc] #[.int .i64 0, .int .i64 0]
  have hz : ((w.alloc (.cells #[.slice oa s.attrs.length ka, vc] 27)).alloc (.cells #[.int .i64 0, .int .i64 0] 48)).heap.size = w.heap.size + 2 := by simp
  have hown0 := ownF_lit9 ((w.alloc (.cells #[.slice oa s.attrs.length ka, vc] 27)).alloc (.cells #[.int .i64 0, .int .i64 0] 48)) (w.heap.size + 2) (by simp)
  have bL : Below ((w.alloc (.cells #[.slice oa s.attrs.length ka, vc] 27)).alloc (.cells #[.int .i64 0, .int .i64 0] 48)).heap.size ((w.alloc (.cells #[.slice oa s.attrs.length ka, vc] 27)).alloc (.cells #[.int .i64 0, .int .i64 0] 48)) (((w.alloc (.cells #[.slice oa s.attrs.length ka, vc] 27)).alloc (.cells #[.int .i64 0, .int .i64 0] 48)).alloc (.cells #[] 48)) := (Below.refl _ _).alloc (Nat.le_refl _) _
  have hown : (((w.alloc (.cells #[.slice oa s.attrs.length ka, vc] 27)).alloc (.cells #[.int .i64 0, .int .i64 0] 48)).alloc (.cells #[] 48)).ownsRow (w.heap.size + 2) 48 2 (.slice (some ⟨w.heap.size + 2, 0, none⟩) 0 0) 0 [] := by rw [hz] at hown0; exact hown0
  clear hown0
  have kS0 : (((w.alloc (.cells #[.slice oa s.attrs.length ka, vc] 27)).alloc (.cells #[.int .i64 0, .int .i64 0] 48)).alloc (.cells #[] 48)).cell? ⟨w.heap.size, 0, none⟩ = some (.slice oa s.attrs.length ka) := (KS.below bL).cell 0
  have HK : Hid (∀ W, Below (w.heap.size + 2) ((w.alloc (.cells #[.slice oa s.attrs.length ka, vc] 27)).alloc (.cells #[.int .i64 0, .int .i64 0] 48)) W → Blk 27 W w.heap.size #[.slice oa s.attrs.length ka, vc] ∧ Blk 48 W (w.heap.size + 1) #[.int .i64 0, .int .i64 0] ∧ Below w.heap.size w W) := fun W h => ⟨KS.below (by rw [hz]; exact h), KR.below (by rw [hz]; exact h), B.trans (h.mono (by omega))⟩
  have hbr : Below (w.heap.size + 2) ((w.alloc (.cells #[.slice oa s.attrs.length ka, vc] 27)).alloc (.cells #[.int .i64 0, .int .i64 0] 48)) (((w.alloc (.cells #[.slice oa s.attrs.length ka, vc] 27)).alloc (.cells #[.int .i64 0, .int .i64 0] 48)).alloc (.cells #[] 48)) := by rw [hz] at bL; exact bL
  clear KS KR B bL
  have hbz : w.heap.size + 2 ≤ ((w.alloc (.cells #[.slice oa s.attrs.length ka, vc] 27)).alloc (.cells #[.int .i64 0, .int .i64 0] 48)).heap.size := by omega
  clear hz
  go_enter Try.func103, Try.ntmps103
  go_wp2
  generalize (w.alloc (.cells #[.slice oa s.attrs.length ka, vc] 27)).alloc (.cells #[.int .i64 0, .int .i64 0] 48) = W0 at hown kS0 HK hbr hbz ⊢
  go_loopw [5, 6] (fun v i wr => ∃ (k : Nat) (fs : List ForkD), i = .int .i64 k ∧ k ≤ s.attrs.length ∧ fs.length ≤ 5 * k ∧ wr.ownsRow (w.heap.size + 2) 48 2 v fs.length (fkC fs) ∧ Below (w.heap.size + 2) W0 wr) (fun _ i _ => s.attrs.length - (intOf i).toNat)
  case atStart => exact ⟨0, [], rfl, by omega, by simp, hown, hbr⟩
  case round =>
    clear hown hbr kS0
    obtain ⟨k, fs, rfl, hk, hfl, hown, hbr⟩ := hrel
    have hws := hbr.size
    have kS0 : wr.cell? ⟨w.heap.size, 0, none⟩ = some (.slice oa s.attrs.length ka) := (HK.out _ hbr).1.cell 0
    by_cases hlt : k < s.attrs.length
    · go_wp2
      go_loopw [5, 7] (fun v i wr => ∃ (p : Nat) (fs' : List ForkD), i = .int .i64 ((p : Int) - 1) ∧ p ≤ 5 ∧ fs'.length ≤ 5 * k + p ∧ wr.ownsRow (w.heap.size + 2) 48 2 v fs'.length (fkC fs') ∧ Below (w.heap.size + 2) W0 wr) (fun _ i _ => (4 - intOf i).toNat)
      case atStart => exact ⟨0, fs, by go_num, by omega, by omega, hown, hbr⟩
      case round =>
        clear hown hbr kS0 hfl hws
        obtain ⟨p, fs', rfl, hp, hfl, hown, hbr⟩ := hrel
        have hws := hbr.size
        by_cases hplt : p < 5
        rotate_left
        · obtain rfl : p = 5 := by omega
          go_wp2
          go_roundw
          case rel => exact ⟨k + 1, fs', by go_num, by omega, by omega, hown, hbr⟩
          case measure => simp [intOf]; omega
        have hpl : (p : Int) - 1 < 4 := by omega
        have bF : Below wr.heap.size wr (wr.alloc (.cells #[.int .i64 (k : Int), .int .i64 ((p : Int) - 1)] 48)) := (Below.refl _ _).alloc (Nat.le_refl _) _
        have KF := Blk.new 48 wr #[.int .i64 (k : Int), .int .i64 ((p : Int) - 1)]
        obtain ⟨KS, KR, B⟩ := HK.out _ (hbr.trans (bF.mono (by omega)))
        have cc := specForkOk_any _ s ⟨(k : Int), (p : Int) - 1⟩ _ (HS.out _ B) HOK.out
        unfold forkV at cc
        generalize forkOk s ⟨(k : Int), (p : Int) - 1⟩ = q at cc
        have kS0 : (wr.alloc (.cells #[.int .i64 (k : Int), .int .i64 ((p : Int) - 1)] 48)).cell? ⟨w.heap.size, 0, none⟩ = some (.slice oa s.attrs.length ka) := KS.cell 0
        have kS1 : (wr.alloc (.cells #[.int .i64 (k : Int), .int .i64 ((p : Int) - 1)] 48)).cell? ⟨w.heap.size, 1, none⟩ = some vc := KS.cell 1
        have kF0 : (wr.alloc (.cells #[.int .i64 (k : Int), .int .i64 ((p : Int) - 1)] 48)).cell? ⟨wr.heap.size, 0, none⟩ = some (.int .i64 (k : Int)) := KF.cell 0
        have kF1 : (wr.alloc (.cells #[.int .i64 (k : Int), .int .i64 ((p : Int) - 1)] 48)).cell? ⟨wr.heap.size, 1, none⟩ = some (.int .i64 ((p : Int) - 1)) := KF.cell 1
        clear KS KR B
        go_wp2_with fail
        refine cc.mono ?_
        clear cc kS0 kS1 kF0 kF1
        rintro e w6 ⟨rfl, hb⟩
        replace hown := own_below (own_below hown bF) hb
        replace hbr := (hbr.trans (bF.mono (by omega))).trans (hb.mono (by simp; omega))
        replace KF := KF.below hb
        have hws := hbr.size
        clear hb bF
        cases q with
        | false =>
          clear KF
          go_wp2
          go_roundw
          case rel => exact ⟨p + 1, fs', by go_num, by omega, by omega, hown, hbr⟩
          case measure => simp [intOf]; omega
        | true =>
          have kF0 : w6.cell? ⟨wr.heap.size, 0, none⟩ = some (.int .i64 (k : Int)) := KF.cell 0
          have kF1 : w6.cell? ⟨wr.heap.size, 1, none⟩ = some (.int .i64 ((p : Int) - 1)) := KF.cell 1
          clear KF
          go_wp2_with (at_builtin; refine wpList_append_own _ rfl _ _ 143 rfl (w.heap.size + 2) 48 i0 (.agg #[.int .i64 0, .int .i64 0]) 2 16 Try.underlying143 hi0 hz0 hz1 hz2 rfl (by decide) _ _ _ rfl (hown.alloc _) ⟨w6.heap.size, 0, none⟩ 1 1 [.int .i64 (k : Int), .int .i64 ((p : Int) - 1)] rfl rfl (newcF2 _ _ _ _) (one2 _ _) (by unfold maxLen; omega) (by omega) (by simp; omega) ?_)
          intro v' w7 ho hg hnil
          have hb7 : Below (w.heap.size + 2) W0 w7 := (hbr.alloc (by omega) _).grown hg (by simp; omega) (fun j hj => (hown.lt j hj).1)
          clear hg hnil hbr hown kF0 kF1
          go_wp2
          go_roundw
          case rel =>
            refine ⟨p + 1, fs' ++ [⟨(k : Int), (p : Int) - 1⟩], by go_num, by omega, by simp; omega, ?_, hb7⟩
            rw [List.length_append, fkC_snoc]
            exact ho
          case measure => simp [intOf]; omega
    · obtain rfl : k = s.attrs.length := by omega
      obtain ⟨KS, KR, B⟩ := HK.out _ hbr
      have hfl2 : fs.length ≤ 30 := by omega
      obtain ⟨ov, kv, rfl⟩ := own_slice9 hown
      by_cases h0 : fs.length = 0
      · have hq : ((fs.length : Int) == 0) = true := by rw [h0]; rfl
        have cu := HC.out _ B
        clear hown KS
        go_wp2_with (with_reducible refine wp_fk_store rfl _ _ rfl ?_; refine ⟨w.heap.size + 1, rfl, 0, 0, rfl, 0, 0, KR, ?_⟩)
        refine bodyPost_ret (res_fk rfl _ _ (w.heap.size + 1) 0 0 rfl (KR.setRow _)) rfl ⟨⟨0, 0⟩, rfl, cu.row9 _ (by omega), grown_row (grown_of_below B _) (by omega) _⟩
      · have hq : ((fs.length : Int) == 0) = false := by rw [beq_eq_false_iff_ne]; omega
        have cu := HC.out _ B
        have gr := grown_of_below B (some g)
        have cc := l1Below_any g a len cap zs fs.length wr cu (HR.out _ gr) (by omega) (by omega)
        clear KS
        go_wp2_with fail
        refine cc.mono ?_
        clear cc
        rintro e w8 ⟨x, rfl, hx, cu2, hg2⟩
        replace KR := KR.kept hg2 (by intro e; injection e; omega)
        replace gr := grown_trans gr hg2
        have hown2 := hown.kept hg2 (by
          cases e : (Value.slice ov fs.length kv).ownBlock with
          | none => exact .inl rfl
          | some j => exact .inr fun e' => by have h1 := (hown.lt j e).1; injection e' with e2; omega)
        obtain ⟨go, rfl, hcl⟩ : ∃ go, ov = some ⟨go, 0, none⟩ ∧ ∀ j, j < fs.length * 2 → w8.cell? ⟨go, j, none⟩ = (fkC fs)[j]? := by
          rcases hown2.2 with ⟨e, h1⟩ | ⟨go, c1, c2, e, _⟩
          · exact absurd h1 h0
          · cases e
            exact ⟨go, rfl, fun j hj => hown2.cellAt j hj⟩
        obtain ⟨f0, f1⟩ := fkC_at fs x hx
        have k0 := (hcl (x * 2) (by omega)).trans f0
        have k1 := (hcl (x * 2 + 1) (by omega)).trans f1
        generalize fk fs x = f at k0 k1
        obtain ⟨m, n⟩ := f
        clear hcl f0 f1 hown hown2 hg2
        go_wp2_with (with_reducible refine wp_fk_store rfl _ _ rfl ?_; refine ⟨w.heap.size + 1, rfl, m, n, rfl, 0, 0, KR, ?_⟩)
        refine bodyPost_ret (res_fk rfl _ _ (w.heap.size + 1) m n rfl (KR.setRow _)) rfl ⟨⟨m, n⟩, rfl, cu2.row9 _ (by omega), grown_row gr (by omega) _⟩
end Go.Proofs.Ytobimpgapfecoaa
/- Draws of chapter 9: a question, right or not. -/
namespace Go.Proofs.Ytobimpgapfecoaa
open Go.RowKit
set_option maxRecDepth 100000
set_option linter.unusedSimpArgs false
set_option maxHeartbeats 1600000 in
theorem draw9_any (g : Nat) (a : Option Addr) (len cap : Nat) (zs : List Int) (vs : Value) (s : SchemaD) (w : World) (hc : IsCur w g a len cap) (hr : IsRow .u8 w a len cap zs) (hs : SchemaAt w vs s) (hn : okSch s) (h6 : s.attrs.length ≤ 6) :
    Calls Try.prog 65 #[.pointer (some ⟨g, 0, none⟩), vs] w fun e w' => ∃ f, e = .returned (forkV f) ∧ IsCur w' g a len cap ∧ w.grownBy w' (some g) := by
  have hgw := hc.lt
  have HR : Hid (IsRow .u8 w a len cap zs) := hr
  have HC : Hid (IsCur w g a len cap) := hc
  have HS : Hid (∀ W, Below w.heap.size w W → SchemaAt W vs s) := fun W h => hs.later h
  obtain ⟨va, vc, rfl, -, -⟩ := hs
  obtain ⟨KS, F0, B⟩ := blk_2 27 48 w #[va, vc] #[.int .i64 0, .int .i64 0]
  have G0 := grown_of_below B (some g)
  have hc0 : IsCur _ g a len cap := hc.kept (grown_of_below B) (by intro e; cases e)
  have hr0 := hr.later B
  have cc := right9_any g a len cap zs _ s _ hc0 hr0 (HS.out _ B) hn h6
  have kS0 := KS.cell 0
  have kS1 := KS.cell 1
  simp only [List.getElem?_toArray, List.getElem?_cons_zero, List.getElem?_cons_succ] at kS0 kS1
  have hz : ((w.alloc (.cells #[va, vc] 27)).alloc (.cells #[.int .i64 0, .int .i64 0] 48)).heap.size = w.heap.size + 2 := by simp
  clear hc hr KS B HS hn hr0 hc0
  go_enter Try.func65, Try.ntmps65
  go_wp2_with fail
  refine cc.mono ?_
  clear cc kS0 kS1
  generalize (w.alloc (.cells #[va, vc] 27)).alloc (.cells #[.int .i64 0, .int .i64 0] 48) = W0 at F0 G0 hz
  rintro e w1 ⟨f, rfl, hc1, hg1⟩
  obtain ⟨m, n⟩ := f
  have F2 := (F0.kept hg1 (by intro e; injection e; omega)).alloc (.cells #[.int .i64 m, .int .i64 n] 48)
  have G2 := grown_trans (grown_trans G0 hg1) (grown_alloc w1 (.cells #[.int .i64 m, .int .i64 n] 48) (some g))
  have A2 := Blk.new 48 w1 #[.int .i64 m, .int .i64 n]
  have hc2 := hc1.alloc (.cells #[.int .i64 m, .int .i64 n] 48)
  have hs1 := hg1.size
  have hr2 := HR.out.aside HC.out G2
  unfold forkV
  clear F0 G0 hg1 hc1
  have e2 := l1Below_any g a len cap zs 10 _ hc2 hr2 (by decide) (by decide)
  go_wp2_with fail
  refine e2.mono ?_
  clear e2
  generalize w1.alloc (.cells #[.int .i64 m, .int .i64 n] 48) = w2 at F2 A2 G2 hc2 hr2
  rintro e w3 ⟨x, rfl, hx, hc3, hg3⟩
  have hr3 := hr2.aside hc2 hg3
  have F3 := F2.kept hg3 (by intro e; injection e; omega)
  have A3 := A2.kept hg3 (by intro e; injection e; omega)
  have G3 := grown_trans G2 hg3
  have hzw : w.heap.size + 2 ≤ w1.heap.size := by omega
  clear hr2 hc2 hg3 F2 G2 A2 hz
  by_cases h0 : x = 0
  · subst h0
    have e3 := pickN [-2, 1, 2, 3, 4, 9223372036854775807] g a len cap zs w3 hc3 hr3 (by decide) (by decide)
    simp only [List.map_cons, List.map_nil, List.length_cons, List.length_nil, Nat.zero_add, Nat.reduceAdd] at e3
    go_wp2_with fail
    refine e3.mono ?_
    clear e3
    rintro e w4 ⟨z, rfl, -, hc4, hg4⟩
    have F4 := F3.kept hg4 (by intro e; injection e; omega)
    have A4 := A3.kept hg4 (by intro e; injection e; omega)
    have G4 := grown_trans G3 hg4
    have hz4 := A4.frozen 1
    have F5 := F4.setCell_other ⟨w1.heap.size, 1, none⟩ (.int .i64 z) (by show w1.heap.size ≠ w.heap.size + 1; omega)
    have A5 : Blk 48 (w4.setCell ⟨w1.heap.size, 1, none⟩ (.int .i64 z)) w1.heap.size #[.int .i64 m, .int .i64 z] := A4.setCell 1 (.int .i64 z)
    have G5 := grown_cell (k := 1) G4 (show w.heap.size ≤ w1.heap.size by omega) (.int .i64 z)
    have hc5 := hc4.cell9 1 (.int .i64 z) (show g ≠ w1.heap.size by omega)
    have q0 := A4.cell 0
    have q1 := A4.cell 1
    simp only [List.getElem?_toArray, List.getElem?_cons_zero, List.getElem?_cons_succ] at q0 q1
    clear hc3 hr3 F3 A3 G3 hg4
    go_wp2_with (with_reducible refine wp_fk_store rfl _ _ rfl ?_; refine ⟨w.heap.size + 1, rfl, m, z, rfl, 0, 0, F5, ?_⟩)
    refine bodyPost_ret (res_fk rfl _ _ (w.heap.size + 1) (m) (z) rfl (F5.setRow _)) rfl ⟨⟨m, z⟩, rfl, ?_, grown_row G5 (by omega) _⟩
    exact hc5.row9 _ (by omega)
  by_cases h1 : x = 1
  · subst h1
    have e3 := pickN [-1, 5, 4, 9223372036854775807] g a len cap zs w3 hc3 hr3 (by decide) (by decide)
    simp only [List.map_cons, List.map_nil, List.length_cons, List.length_nil, Nat.zero_add, Nat.reduceAdd] at e3
    go_wp2_with fail
    refine e3.mono ?_
    clear e3
    rintro e w4 ⟨z, rfl, -, hc4, hg4⟩
    have F4 := F3.kept hg4 (by intro e; injection e; omega)
    have A4 := A3.kept hg4 (by intro e; injection e; omega)
    have G4 := grown_trans G3 hg4
    have hz4 := A4.frozen 0
    have F5 := F4.setCell_other ⟨w1.heap.size, 0, none⟩ (.int .i64 z) (by show w1.heap.size ≠ w.heap.size + 1; omega)
    have A5 : Blk 48 (w4.setCell ⟨w1.heap.size, 0, none⟩ (.int .i64 z)) w1.heap.size #[.int .i64 z, .int .i64 n] := A4.setCell 0 (.int .i64 z)
    have G5 := grown_cell (k := 0) G4 (show w.heap.size ≤ w1.heap.size by omega) (.int .i64 z)
    have hc5 := hc4.cell9 0 (.int .i64 z) (show g ≠ w1.heap.size by omega)
    have q0 := A4.cell 0
    have q1 := A4.cell 1
    simp only [List.getElem?_toArray, List.getElem?_cons_zero, List.getElem?_cons_succ] at q0 q1
    clear hc3 hr3 F3 A3 G3 hg4
    go_wp2_with (with_reducible refine wp_fk_store rfl _ _ rfl ?_; refine ⟨w.heap.size + 1, rfl, z, n, rfl, 0, 0, F5, ?_⟩)
    refine bodyPost_ret (res_fk rfl _ _ (w.heap.size + 1) (z) (n) rfl (F5.setRow _)) rfl ⟨⟨z, n⟩, rfl, ?_, grown_row G5 (by omega) _⟩
    exact hc5.row9 _ (by omega)
  · have b0 : ((x : Int) == 0) = false := by simp; omega
    have b1 : ((x : Int) == 1) = false := by simp; omega
    have q0 := A3.cell 0
    have q1 := A3.cell 1
    simp only [List.getElem?_toArray, List.getElem?_cons_zero, List.getElem?_cons_succ] at q0 q1
    go_wp2_with (with_reducible refine wp_fk_store rfl _ _ rfl ?_; refine ⟨w.heap.size + 1, rfl, m, n, rfl, 0, 0, F3, ?_⟩)
    refine bodyPost_ret (res_fk rfl _ _ (w.heap.size + 1) (m) (n) rfl (F3.setRow _)) rfl ⟨⟨m, n⟩, rfl, ?_, grown_row G3 (by omega) _⟩
    exact hc3.row9 _ (by omega)
end Go.Proofs.Ytobimpgapfecoaa
/- What the laws' own helpers do with lists of texts and of integers that came in: their sizes, copies of them, held against each other. (What is plain.) -/
namespace Go.Proofs.Ytobimpgapfecoaa
open Go.RowKit
set_option maxRecDepth 100000
theorem strInfo : (Try.prog.info? 9).map (fun i => (i.zero, i.size, i.bytes)) = some (some (.string ⟨#[]⟩), 1, 16) := by kernel_rfl
end Go.Proofs.Ytobimpgapfecoaa
/- What the laws' own helpers do with an attribute that came in: its size, a copy of it, two held against each other. (What is plain.) -/
namespace Go.Proofs.Ytobimpgapfecoaa
open Go.RowKit
set_option maxRecDepth 100000
/-- An attribute whose lists are the call's own. -/
def OwnA (base : Nat) (w : World) (v : Value) (a : AttrD) : Prop :=
  ∃ vc vv, v = .agg #[.string a.name, vc, vv] ∧ w.ownsRow base 3 1 vc a.cuts.length (a.cuts.map (Value.int .i64)) ∧ w.ownsRow base 9 1 vv a.vals.length (a.vals.map Value.string)
theorem OwnA.at {base : Nat} {w : World} {v : Value} {a : AttrD} (h : OwnA base w v a) : AttrAt w v a := by
  obtain ⟨vc, vv, rfl, h1, h2⟩ := h
  exact ⟨vc, vv, rfl, RowI.of_own h1 rfl, RowS.of_own h2 rfl⟩
theorem attr_size : (Try.prog.info? 55).map (·.size) = some 3 := by kernel_rfl
theorem wp_at_load {ops : Array Oper} {rest : List Oper} {o : Oper} {a : Act} {w : World} {Q : Exit → Act → World → Prop} (hgd : o.guard = none) (x : Operand) (ho : o.op = .load 55 x)
    (h : ∃ g, a.eval x = .pointer (some ⟨g, 0, none⟩) ∧ ∃ c0 c1 c2, Blk 55 w g #[c0, c1, c2] ∧ wpList Try.prog ops Q rest (a.put o.dst (.agg #[c0, c1, c2])) w) : wpList Try.prog ops Q (o :: rest) a w := by
  obtain ⟨g, hx, c0, c1, c2, hA, hk⟩ := h
  exact wpList_load_row hgd 55 x ho g hx _ _ _ _ hA Try.underlying55 rfl attr_size hk
theorem wp_at_store {ops : Array Oper} {rest : List Oper} {o : Oper} {a : Act} {w : World} {Q : Exit → Act → World → Prop} (hgd : o.guard = none) (x y : Operand) (ho : o.op = .store 55 x y)
    (h : ∃ g, a.eval x = .pointer (some ⟨g, 0, none⟩) ∧ ∃ n o1 l1 k1 o2 l2 k2, a.eval y = .agg #[.string n, .slice o1 l1 k1, .slice o2 l2 k2] ∧ ∃ d0 d1 d2, Blk 55 w g #[d0, d1, d2] ∧ wpList Try.prog ops Q rest (a.put o.dst undef) (w.setRow g #[.string n, .slice o1 l1 k1, .slice o2 l2 k2])) : wpList Try.prog ops Q (o :: rest) a w := by
  obtain ⟨g, hx, n, o1, l1, k1, o2, l2, k2, hy, d0, d1, d2, hA, hk⟩ := h
  exact wpList_store_row hgd 55 x y ho g _ hx hy _ _ hA attr_size rfl (by simp [Value.oneCell']) hk
theorem res_at {fn : Func} {p : Tmp} (h : fn.results = #[.cell p 55]) (tmps : Array Value) (w : World) (g : Nat) (c0 c1 c2 : Value)
    (hp : tmps.getD p undef = .pointer (some ⟨g, 0, none⟩)) (hg : Blk 55 w g #[c0, c1, c2]) : (results fn tmps).run Try.prog w = .ok (.agg #[c0, c1, c2]) w :=
  results_cell_row h tmps w g _ _ _ _ hp hg Try.underlying55 rfl attr_size
theorem own_setRow {w : World} {base e n : Nat} {v : Value} {xs : List Value} (h : w.ownsRow base e 1 v n xs) (k : Nat) (c : Array Value) (hp : k < base) : (w.setRow k c).ownsRow base e 1 v n xs := by
  refine ⟨h.1, ?_⟩
  rcases h.2 with h' | ⟨g, cap, cur, hv, hg, hc, r⟩
  · exact .inl h'
  · refine .inr ⟨g, cap, cur, hv, hg, ?_, r⟩
    rw [Go.setRow_other w k g c (by omega)]; exact hc
theorem own_setCell {w : World} {base e n : Nat} {v : Value} {xs : List Value} (h : w.ownsRow base e 1 v n xs) (p : Addr) (u : Value) (hp : p.block < base) : (w.setCell p u).ownsRow base e 1 v n xs := by
  refine ⟨h.1, ?_⟩
  rcases h.2 with h' | ⟨g, cap, cur, hv, hg, hc, r⟩
  · exact .inl h'
  · refine .inr ⟨g, cap, cur, hv, hg, ?_, r⟩
    simp only [World.setCell, Array.getElem?_modify]
    rw [if_neg (by omega)]; exact hc
theorem own_ge {w : World} {base base' e n : Nat} {v : Value} {xs : List Value} (h : w.ownsRow base e 1 v n xs) (hb : base' ≤ base) : w.ownsRow base' e 1 v n xs := own_base h hb

/-- What came in is small enough to be spoken of at all. -/
structure inA (a : AttrD) : Prop where
  name : a.name.size ≤ 9223372036854775807
  cuts : a.cuts.length ≤ 9223372036854775807
  vals : a.vals.length ≤ 9223372036854775807
  each : ∀ s ∈ a.vals, s.size ≤ 9223372036854775807
structure fitA (a : AttrD) : Prop where
  name : a.name.size ≤ 1048576
  cuts : a.cuts.length ≤ 1048576
  vals : a.vals.length ≤ 1048576
  each : ∀ s ∈ a.vals, s.size ≤ 1048576
theorem fitA.ok {a : AttrD} (h : fitA a) : okA a := ⟨by have := h.name; omega, by have := h.cuts; omega, by have := h.vals; omega, fun s hs => by have := h.each s hs; omega⟩
end Go.Proofs.Ytobimpgapfecoaa
