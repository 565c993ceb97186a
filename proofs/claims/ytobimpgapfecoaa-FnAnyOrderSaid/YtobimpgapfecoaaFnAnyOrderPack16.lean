/- Texts of this claim, put together: part 16. -/
import Derived.Test.YtobimpgapfecoaaFnAnyOrderPack15
import Derived.Test.YtobimpgapfecoaaFnAnyOrderPack3
import Derived.Deep.RegionLaw
import Derived.Test.YtobimpgapfecoaaFnAnyOrderPack13
import Derived.Test.YtobimpgapfecoaaFnAnyOrderPack11
import Derived.Test.YtobimpgapfecoaaFnAnyOrderPack14
import Derived.Test.YtobimpgapfecoaaFnAnyOrderPack9
import Derived.Test.YtobimpgapfecoaaRows
import Derived.WalkKit
import Derived.ProofKit
import Derived.OrdersHeld
/- How many bins an attribute has, by the specification. -/
namespace Go.Proofs.Ytobimpgapfecoaa
open Go.RowKit
set_option maxRecDepth 100000
set_option maxHeartbeats 400000 in
theorem specBins_any (v : Value) (a : AttrD) (w : World) (h : AttrAt w v a) (hn : okA a) :
    Calls Try.prog 27 #[v] w fun e w' => e = .returned (.int .i64 (bins a)) ∧ Below w.heap.size w w' := by
  have c := fun W (hW : Below w.heap.size w W) => specAttrOk_any v a W (h.later hW) hn
  have lc := hn.cuts
  have lv := hn.vals.1
  obtain ⟨vc, vv, rfl, hc, hv⟩ := h
  obtain ⟨oc, cc, rfl, hcc, hcr⟩ := hc
  obtain ⟨ov, cv, rfl, hvc, hvr⟩ := hv
  clear hcr hvr hn
  have HB : Hid (∀ o, Below w.heap.size w (w.alloc o)) := fun o => (Below.refl _ _).alloc (Nat.le_refl _) _
  cases hok : attrOk a with
  | false =>
    have HF : Hid (bins a = 0) := by unfold bins; rw [hok]; rfl
    rw [hok] at c
    clear hok
    go_enter Try.func27, Try.ntmps27
    go_wp2_with fail
    refine (c _ (HB.out _)).mono ?_
    rintro e w1 ⟨rfl, hb1⟩
    go_wp2
    go_ret
    exact ⟨by rw [HF.out]; rfl, (HB.out _).trans (hb1.mono (by simp))⟩
  | true =>
    rw [hok] at c
    have hkind := ok_kind hok
    by_cases h0 : 0 < a.cuts.length
    · have HF : Hid (bins a = a.cuts.length + 1) := by unfold bins; rw [hok, if_pos rfl, if_pos (by omega)]; rfl
      clear hok hkind
      go_enter Try.func27, Try.ntmps27
      go_wp2_with fail
      refine (c _ (HB.out _)).mono ?_
      rintro e w1 ⟨rfl, hb1⟩
      have K := (Blk.new _ _ _).below hb1
      have B1 := (HB.out _).trans (hb1.mono (by simp))
      have k1 : w1.cell? ⟨w.heap.size, 1, none⟩ = some (.slice oc a.cuts.length cc) := K.cell 1
      have k2 : w1.cell? ⟨w.heap.size, 2, none⟩ = some (.slice ov a.vals.length cv) := K.cell 2
      clear c hb1 K
      go_wp2
      go_ret
      exact ⟨by rw [HF.out]; first | rfl | (congr 1; go_num), B1⟩
    · have HF : Hid (bins a = a.vals.length) := by unfold bins; rw [hok, if_pos rfl, if_neg (by omega)]; rfl
      clear hok hkind
      go_enter Try.func27, Try.ntmps27
      go_wp2_with fail
      refine (c _ (HB.out _)).mono ?_
      rintro e w1 ⟨rfl, hb1⟩
      have K := (Blk.new _ _ _).below hb1
      have B1 := (HB.out _).trans (hb1.mono (by simp))
      have k1 : w1.cell? ⟨w.heap.size, 1, none⟩ = some (.slice oc a.cuts.length cc) := K.cell 1
      have k2 : w1.cell? ⟨w.heap.size, 2, none⟩ = some (.slice ov a.vals.length cv) := K.cell 2
      clear c hb1 K
      go_wp2
      go_ret
      exact ⟨by rw [HF.out]; rfl, B1⟩
end Go.Proofs.Ytobimpgapfecoaa
/- How many bins, how great the cuts. -/
namespace Go.Proofs.Ytobimpgapfecoaa
open Go.RowKit
set_option maxRecDepth 100000
theorem bins_le {a : AttrD} (hn : okA a) : 0 ≤ bins a ∧ bins a ≤ 1099511627777 := by
  unfold bins
  have := hn.cuts
  have := hn.vals.1
  split
  · split <;> omega
  · omega
theorem cuts_in {a : AttrD} (hk : attrOk a = true) : ∀ j, j < a.cuts.length → -9999 ≤ a.cuts.getD j 0 ∧ a.cuts.getD j 0 ≤ 9998 := by
  intro j hj
  unfold attrOk at hk
  rw [Bool.and_eq_true] at hk
  have h2 := hk.2
  rw [if_neg (by omega), Bool.and_eq_true, Bool.and_eq_true] at h2
  have h3 := h2.2.2
  unfold cutsRise at h3
  rw [List.all_eq_true] at h3
  exact cutAt_in (h3 j (List.mem_range.2 hj))
end Go.Proofs.Ytobimpgapfecoaa
/- Draws of chapter 7: an example of a schema. -/
namespace Go.Proofs.Ytobimpgapfecoaa
open Go.RowKit
set_option maxRecDepth 100000
set_option linter.unusedSimpArgs false
theorem OwnS.curW7 {w w' : World} {b g : Nat} {v : Value} {s : SchemaD} (h : OwnS b w v s) (hg : g < b) (hk : w.grownBy w' (some g)) : OwnS b w' v s := by
  obtain ⟨va, vc, rfl, ⟨ys, h1, h2⟩, h3⟩ := h
  exact ⟨va, vc, rfl, ⟨ys, own_curW h1 hg hk, h2.curW hg hk⟩, own_curW h3 hg hk⟩
theorem OwnS.below7 {w w' : World} {b : Nat} {v : Value} {s : SchemaD} (h : OwnS b w v s) (hb : Below w.heap.size w w') : OwnS b w' v s := by
  obtain ⟨va, vc, rfl, h1, h3⟩ := h
  exact ⟨va, vc, rfl, h1.below hb, own_below h3 hb⟩
theorem tinyA.ok7 {a : AttrD} (t : tinyA a) : okA a := ⟨by have := t.name; omega, by have := t.cuts; omega, by have := t.vals; omega, fun s hs => by have := t.each s hs; omega⟩
theorem bins_tiny {a : AttrD} (t : tinyA a) : 0 ≤ bins a ∧ bins a ≤ 5 := by
  have h1 := t.cuts
  have h2 := t.vals
  unfold bins
  split
  · split <;> omega
  · omega
theorem below0_any (g : Nat) (a : Option Addr) (len cap : Nat) (zs : List Int) (n : Nat) (w : World) (hc : IsCur w g a len cap) (hr : IsRow .u8 w a len cap zs) (h2 : n ≤ 256) :
    Calls Try.prog 91 #[.pointer (some ⟨g, 0, none⟩), .int .i64 (n : Int)] w fun e w' => ∃ x : Nat, e = .returned (.int .i64 (x : Int)) ∧ (x < n ∨ n = 0 ∧ x = 0) ∧ IsCur w' g a len cap ∧ w.grownBy w' (some g) := by
  by_cases h0 : n = 0
  · subst h0
    go_enter Try.func91, Try.ntmps91
    go_wp2
    go_ret
    exact ⟨0, rfl, by simp, hc, ⟨rfl, rfl, rfl, Nat.le_refl _, fun _ _ _ => rfl⟩⟩
  · exact (l1Below_any g a len cap zs n w hc hr (by omega) h2).mono fun e w' ⟨x, h1, h3, h4, h5⟩ => ⟨x, h1, .inl h3, h4, h5⟩
/-- How far an example is drawn. -/
def Drawn (s : SchemaD) (l : List Int) (k : Nat) : Prop := l.length = k ∧ ∀ j, j < k → -1 ≤ l.getD j 0 ∧ (l.getD j 0 ≤ bins (ad s.attrs j) - 1 ∨ bins (ad s.attrs j) = 0 ∧ l.getD j 0 = 0)
theorem Drawn.snoc {s : SchemaD} {l : List Int} {k : Nat} {x : Int} (h : Drawn s l k) (h1 : -1 ≤ x) (h2 : x ≤ bins (ad s.attrs k) - 1 ∨ bins (ad s.attrs k) = 0 ∧ x = 0) : Drawn s (l ++ [x]) (k + 1) := by
  refine ⟨by simp [h.1], fun j hj => ?_⟩
  by_cases e : j = k
  · subst e
    have hl := h.1
    have : (l ++ [x]).getD j 0 = x := by simp [List.getD_eq_getElem?_getD, List.getElem?_append_right (show l.length ≤ j by omega), hl]
    rw [this]; exact ⟨h1, h2⟩
  · have hl := h.1
    have : (l ++ [x]).getD j 0 = l.getD j 0 := by simp [List.getD_eq_getElem?_getD, List.getElem?_append_left (show j < l.length by omega)]
    rw [this]; exact h.2 j (by omega)
theorem bins_pos {a : AttrD} (h : attrOk a = true) : 1 ≤ bins a := by
  unfold bins
  rw [if_pos h]
  split
  · omega
  · omega
theorem drawn_ok {s : SchemaD} {l : List Int} {c : Int} (hs : schemaOk s = true) (h : Drawn s l s.attrs.length) (hc0 : 0 ≤ c) (hc1 : c < (s.classes.length : Int)) : exOk s ⟨l, c⟩ = true := by
  have hat : attrsOk s.attrs = true := by
    unfold schemaOk at hs
    rw [Bool.and_eq_true, Bool.and_eq_true] at hs
    exact hs.2.2
  unfold exOk
  rw [hs, decide_eq_true (p := (⟨l, c⟩ : ExD).bins.length = s.attrs.length) h.1, decide_eq_true (p := -1 ≤ (⟨l, c⟩ : ExD).cls ∧ (⟨l, c⟩ : ExD).cls ≤ (s.classes.length : Int) - 1) (by simp only; omega)]
  simp only [Bool.true_and]
  refine binsRight_yes fun j hj => decide_eq_true ?_
  have hj' : j < s.attrs.length := by have := h.1; simp only at hj; omega
  have hk : attrOk (ad s.attrs j) = true := by
    unfold attrsOk at hat
    rw [List.all_eq_true] at hat
    have := hat j (List.mem_range.2 hj')
    unfold attrAt at this
    rw [Bool.and_eq_true] at this
    exact this.1
  have hp := bins_pos hk
  have := h.2 j hj'
  simp only
  omega
set_option maxHeartbeats 6400000 in
theorem right7_any (g : Nat) (a : Option Addr) (len cap : Nat) (zs : List Int) (vs : Value) (s : SchemaD) (b : Nat) (w : World) (hc : IsCur w g a len cap) (hr : IsRow .u8 w a len cap zs) (hs : OwnS b w vs s) (hgb : g < b) (ht : tinyS s) :
    Calls Try.prog 95 #[.pointer (some ⟨g, 0, none⟩), vs] w fun e w' => ∃ v d, e = .returned v ∧ OwnE w.heap.size w' v d ∧ d.bins.length = s.attrs.length ∧ (schemaOk s = true → exOk s d = true ∧ 0 ≤ d.cls) ∧ IsCur w' g a len cap ∧ w.grownBy w' (some g) := by
  have hgw : g < w.heap.size := hc.lt
  obtain ⟨i0, hi, hi0, hi1, hi2⟩ := info_parts intInfo
  have HR : Hid (∀ w', w.grownBy w' (some g) → IsRow .u8 w' a len cap zs) := fun w' h => hr.aside hc h
  have HS : Hid (∀ w', w.grownBy w' (some g) → SchemaAt w' vs s) := fun w' h => (hs.curW7 hgb h).at
  have HTN : Hid (tinyS s) := ht
  obtain ⟨va, vc, rfl, ra, rc⟩ := id hs.at
  obtain ⟨oa, ka, rfl, -, -⟩ := id ra
  obtain ⟨oc, kc, rfl, -, -⟩ := id rc
  have la := ht.attrs
  have lc := ht.classes
  clear ra rc
  have g0 : w.grownBy (((w.alloc (.cells #[.slice oa s.attrs.length ka, .slice oc s.classes.length kc] 27)).alloc (.cells #[.slice none 0 0, .int .i64 0] 33)).alloc (.cells #[.slice none 0 0, .int .i64 0] 33)) (some g) := grown_trans (grown_trans (grown_alloc w _ _) (grown_alloc _ _ _)) (grown_alloc _ _ _)
  have c0 := ((hc.alloc (.cells #[.slice oa s.attrs.length ka, .slice oc s.classes.length kc] 27)).alloc (.cells #[.slice none 0 0, .int .i64 0] 33)).alloc (.cells #[.slice none 0 0, .int .i64 0] 33)
  obtain ⟨K1, K2, K3, B0⟩ := blk_3 27 33 33 w #[.slice oa s.attrs.length ka, .slice oc s.classes.length kc] #[.slice none 0 0, .int .i64 0] #[.slice none 0 0, .int .i64 0]
  clear hc hr hs ht B0
  go_enter Try.func95, Try.ntmps95
  go_wp2
  go_loopw [6, 7] (fun i _ wr => ∃ (k : Nat) (vb : Value) (l : List Int), i = .int .i64 k ∧ k ≤ s.attrs.length ∧ Hid (Drawn s l k) ∧ Blk 27 wr w.heap.size #[.slice oa s.attrs.length ka, .slice oc s.classes.length kc] ∧ Blk 33 wr (w.heap.size + 1) #[.slice none 0 0, .int .i64 0] ∧ Blk 33 wr (w.heap.size + 1 + 1) #[vb, .int .i64 0] ∧ wr.ownsRow (w.heap.size + 3) 3 1 vb k (l.map (Value.int .i64)) ∧ IsCur wr g a len cap ∧ w.grownBy wr (some g)) (fun i _ _ => s.attrs.length - (intOf i).toNat)
  case atStart => exact ⟨0, .slice none 0 0, [], rfl, by omega, ⟨rfl, fun j hj => by omega⟩, K1, K2, K3, ⟨by simp, .inl ⟨rfl, rfl⟩⟩, c0, g0⟩
  case round =>
    obtain ⟨k, vb, l, rfl, hk, HD, A1, A2, A3, own, cu, gr⟩ := hrel
    clear K1 K2 K3 c0 g0
    by_cases hlt : k < s.attrs.length
    · obtain ⟨va', vc', e', rA, -⟩ := HS.out wr gr
      cases e'
      obtain ⟨oa', ka', e', -, hrA⟩ := rA
      cases e'
      obtain ⟨ga, fa, rfl, hga, hjA⟩ := hrA (by omega)
      obtain ⟨x1, x2, p0, p1, p2, r1, r2⟩ := hjA k hlt
      obtain ⟨y1, z1, rfl, -, -⟩ := id r1
      obtain ⟨y2, z2, rfl, -, -⟩ := id r2
      have htA := HTN.out.each _ (ad_mem hlt)
      have q0 : wr.cell? ⟨w.heap.size, 0, none⟩ = some (.slice (some ⟨ga, fa, none⟩) s.attrs.length ka) := A1.cell 0
      have eB := specBins_any (.agg #[.string (ad s.attrs k).name, .slice y1 (ad s.attrs k).cuts.length z1, .slice y2 (ad s.attrs k).vals.length z2]) (ad s.attrs k) wr ⟨_, _, rfl, r1, r2⟩ htA.ok7
      obtain ⟨hb0, hb5⟩ := bins_tiny htA
      obtain ⟨n, hn⟩ := Int.eq_ofNat_of_zero_le hb0
      have HN : Hid (bins (ad s.attrs k) = (n : Int)) := hn
      rw [hn] at eB hb5
      obtain ⟨ov, cv, rfl⟩ := own_slice own
      clear hjA hrA r1 r2 htA hb0 hn hga
      go_wp2_with fail
      refine eB.mono ?_
      clear eB
      rintro e w1 ⟨rfl, hb1⟩
      have gb1 := grown_of_below hb1 (some g)
      have gr1 := grown_trans gr gb1
      have cu1 := cu.kept (grown_of_below hb1 none) (by intro e; cases e)
      have D1 := A1.below hb1
      have D2 := A2.below hb1
      have D3 := A3.below hb1
      have ow1 := own_below own hb1
      clear hb1 gb1 A1 A2 A3 own cu gr p0 p1 p2 q0
      have e1 := below0_any g a len cap zs n w1 cu1 (HR.out _ gr1) (by omega)
      go_wp2_with fail
      refine e1.mono ?_
      clear e1
      rintro e w2 ⟨x, rfl, hx, cu2, h2⟩
      have gr2 := grown_trans gr1 h2
      have E1 := D1.kept h2 (by intro e; injection e; omega)
      have E2 := D2.kept h2 (by intro e; injection e; omega)
      have E3 := D3.kept h2 (by intro e; injection e; omega)
      have ow2 := own_curW ow1 (by omega) h2
      clear h2 gr1 cu1 D1 D2 D3 ow1
      have e1 := once_any g a len cap zs 9 w2 cu2 (HR.out _ gr2) (by decide) (by decide)
      go_wp2_with fail
      refine e1.mono ?_
      clear e1
      rintro e w3 ⟨bb, rfl, cu3, h3⟩
      have gr3 := grown_trans gr2 h3
      have F1 := E1.kept h3 (by intro e; injection e; omega)
      have F2 := E2.kept h3 (by intro e; injection e; omega)
      have F3 := E3.kept h3 (by intro e; injection e; omega)
      have ow3 := own_curW ow2 (by omega) h3
      have q3 : w3.cell? ⟨w.heap.size + 1 + 1, 0, none⟩ = some (.slice ov k cv) := F3.cell 0
      have hl3 := F3.lt
      clear h3 gr2 cu2 E1 E2 E3 ow2
      cases bb with
      | true =>
        have HN2 : Hid (Drawn s (l ++ [(-1)]) (k + 1)) := HD.out.snoc (by omega) (.inl (by rw [HN.out]; omega))
        go_wp2_with (at_builtin; refine wpList_append_own _ rfl _ _ 28 rfl (w.heap.size + 3) 3 i0 (.int .i64 0) 1 8 Try.underlying28 hi hi0 hi1 hi2 rfl (by decide) _ _ _ rfl (ow3.alloc _) ⟨w3.heap.size, 0, none⟩ 1 1 [_] rfl rfl (newc _ _ _) ?d2 ?d3 ?d4 ?d5 ?_)
        case d2 => intro u hu; simp at hu; subst hu; rfl
        case d3 => unfold maxLen; omega
        case d4 => omega
        case d5 => simp; omega
        intro v' w5 hown' hgrow _
        obtain ⟨ov', cv', rfl⟩ := own_slice hown'
        have hne : ∀ j, (Value.slice ov k cv).ownBlock = some j → w.heap.size + 3 ≤ j := fun j hj => (ow3.lt j hj).1
        have G1 := (F1.alloc (.cells #[.int .i64 (-1)] 3)).kept hgrow (fun e => by have := hne _ e; omega)
        have G2 := (F2.alloc (.cells #[.int .i64 (-1)] 3)).kept hgrow (fun e => by have := hne _ e; omega)
        have G3 := (F3.alloc (.cells #[.int .i64 (-1)] 3)).kept hgrow (fun e => by have := hne _ e; omega)
        have cu5 := (cu3.alloc (.cells #[.int .i64 (-1)] 3)).kept hgrow (fun e => by have := hne _ e; omega)
        have gr5 := grown_own (grown_trans gr3 (grown_alloc w3 (.cells #[.int .i64 (-1)] 3) _)) hgrow (fun j e => by have := hne _ e; omega)
        have R : w5.ownsRow (w.heap.size + 3) 3 1 (.slice ov' (k + 1) cv') (k + 1) ((l ++ [(-1)]).map (Value.int .i64)) := by simpa using hown'
        have f5 := G3.frozen 0
        have q5 : w5.cell? ⟨w.heap.size + 1 + 1, 0, none⟩ = some (.slice ov k cv) := G3.cell 0
        have HFIN : Hid (Blk 27 (w5.setCell ⟨w.heap.size + 1 + 1, 0, none⟩ (.slice ov' (k + 1) cv')) w.heap.size #[.slice (some ⟨ga, fa, none⟩) s.attrs.length ka, .slice oc s.classes.length kc] ∧ Blk 33 (w5.setCell ⟨w.heap.size + 1 + 1, 0, none⟩ (.slice ov' (k + 1) cv')) (w.heap.size + 1) #[.slice none 0 0, .int .i64 0] ∧ Blk 33 (w5.setCell ⟨w.heap.size + 1 + 1, 0, none⟩ (.slice ov' (k + 1) cv')) (w.heap.size + 1 + 1) #[.slice ov' (k + 1) cv', .int .i64 0] ∧ (w5.setCell ⟨w.heap.size + 1 + 1, 0, none⟩ (.slice ov' (k + 1) cv')).ownsRow (w.heap.size + 3) 3 1 (.slice ov' (k + 1) cv') (k + 1) ((l ++ [(-1)]).map (Value.int .i64)) ∧ IsCur (w5.setCell ⟨w.heap.size + 1 + 1, 0, none⟩ (.slice ov' (k + 1) cv')) g a len cap ∧ w.grownBy (w5.setCell ⟨w.heap.size + 1 + 1, 0, none⟩ (.slice ov' (k + 1) cv')) (some g)) :=
          ⟨G1.setCell_other _ _ (by simp; omega), G2.setCell_other _ _ (by simp), G3.setCell 0 _, own_setCell R _ _ (by simp), cu5.cellW 0 _ (by omega), grown_cell gr5 (by omega) _⟩
        clear hown' hgrow ow3 F1 F2 F3 G1 G2 G3 cu3 cu5 gr3 gr5 R q3 hne
        go_wp2
        go_roundw
        case rel => exact ⟨k + 1, _, _, by go_num, by omega, HN2, HFIN.out.1, HFIN.out.2.1, HFIN.out.2.2.1, HFIN.out.2.2.2.1, HFIN.out.2.2.2.2.1, HFIN.out.2.2.2.2.2⟩
        case measure => simp [intOf]; omega
      | false =>
        have HN2 : Hid (Drawn s (l ++ [(x : Int)]) (k + 1)) := HD.out.snoc (show -1 ≤ ((x : Int) : Int) by omega) (by rw [HN.out]; omega)
        go_wp2_with (at_builtin; refine wpList_append_own _ rfl _ _ 28 rfl (w.heap.size + 3) 3 i0 (.int .i64 0) 1 8 Try.underlying28 hi hi0 hi1 hi2 rfl (by decide) _ _ _ rfl (ow3.alloc _) ⟨w3.heap.size, 0, none⟩ 1 1 [_] rfl rfl (newc _ _ _) ?d2 ?d3 ?d4 ?d5 ?_)
        case d2 => intro u hu; simp at hu; subst hu; rfl
        case d3 => unfold maxLen; omega
        case d4 => omega
        case d5 => simp; omega
        intro v' w5 hown' hgrow _
        obtain ⟨ov', cv', rfl⟩ := own_slice hown'
        have hne : ∀ j, (Value.slice ov k cv).ownBlock = some j → w.heap.size + 3 ≤ j := fun j hj => (ow3.lt j hj).1
        have G1 := (F1.alloc (.cells #[.int .i64 (x : Int)] 3)).kept hgrow (fun e => by have := hne _ e; omega)
        have G2 := (F2.alloc (.cells #[.int .i64 (x : Int)] 3)).kept hgrow (fun e => by have := hne _ e; omega)
        have G3 := (F3.alloc (.cells #[.int .i64 (x : Int)] 3)).kept hgrow (fun e => by have := hne _ e; omega)
        have cu5 := (cu3.alloc (.cells #[.int .i64 (x : Int)] 3)).kept hgrow (fun e => by have := hne _ e; omega)
        have gr5 := grown_own (grown_trans gr3 (grown_alloc w3 (.cells #[.int .i64 (x : Int)] 3) _)) hgrow (fun j e => by have := hne _ e; omega)
        have R : w5.ownsRow (w.heap.size + 3) 3 1 (.slice ov' (k + 1) cv') (k + 1) ((l ++ [(x : Int)]).map (Value.int .i64)) := by simpa using hown'
        have f5 := G3.frozen 0
        have q5 : w5.cell? ⟨w.heap.size + 1 + 1, 0, none⟩ = some (.slice ov k cv) := G3.cell 0
        have HFIN : Hid (Blk 27 (w5.setCell ⟨w.heap.size + 1 + 1, 0, none⟩ (.slice ov' (k + 1) cv')) w.heap.size #[.slice (some ⟨ga, fa, none⟩) s.attrs.length ka, .slice oc s.classes.length kc] ∧ Blk 33 (w5.setCell ⟨w.heap.size + 1 + 1, 0, none⟩ (.slice ov' (k + 1) cv')) (w.heap.size + 1) #[.slice none 0 0, .int .i64 0] ∧ Blk 33 (w5.setCell ⟨w.heap.size + 1 + 1, 0, none⟩ (.slice ov' (k + 1) cv')) (w.heap.size + 1 + 1) #[.slice ov' (k + 1) cv', .int .i64 0] ∧ (w5.setCell ⟨w.heap.size + 1 + 1, 0, none⟩ (.slice ov' (k + 1) cv')).ownsRow (w.heap.size + 3) 3 1 (.slice ov' (k + 1) cv') (k + 1) ((l ++ [(x : Int)]).map (Value.int .i64)) ∧ IsCur (w5.setCell ⟨w.heap.size + 1 + 1, 0, none⟩ (.slice ov' (k + 1) cv')) g a len cap ∧ w.grownBy (w5.setCell ⟨w.heap.size + 1 + 1, 0, none⟩ (.slice ov' (k + 1) cv')) (some g)) :=
          ⟨G1.setCell_other _ _ (by simp; omega), G2.setCell_other _ _ (by simp), G3.setCell 0 _, own_setCell R _ _ (by simp), cu5.cellW 0 _ (by omega), grown_cell gr5 (by omega) _⟩
        clear hown' hgrow ow3 F1 F2 F3 G1 G2 G3 cu3 cu5 gr3 gr5 R q3 hne
        go_wp2
        go_roundw
        case rel => exact ⟨k + 1, _, _, by go_num, by omega, HN2, HFIN.out.1, HFIN.out.2.1, HFIN.out.2.2.1, HFIN.out.2.2.2.1, HFIN.out.2.2.2.2.1, HFIN.out.2.2.2.2.2⟩
        case measure => simp [intOf]; omega
    · obtain rfl : k = s.attrs.length := by omega
      have q0 : wr.cell? ⟨w.heap.size, 0, none⟩ = some (.slice oa s.attrs.length ka) := A1.cell 0
      have q1 : wr.cell? ⟨w.heap.size, 1, none⟩ = some (.slice oc s.classes.length kc) := A1.cell 1
      have e1 := below0_any g a len cap zs s.classes.length wr cu (HR.out _ gr) (by omega)
      obtain ⟨ov, cv, rfl⟩ := own_slice own
      go_wp2_with fail
      refine e1.mono ?_
      clear e1
      rintro e w1 ⟨x, rfl, hx, cu1, h1⟩
      have gr1 := grown_trans gr h1
      have D1 := A1.kept h1 (by intro e; injection e; omega)
      have D2 := A2.kept h1 (by intro e; injection e; omega)
      have D3 := A3.kept h1 (by intro e; injection e; omega)
      have ow1 := own_curW own (by omega) h1
      clear h1 gr cu A1 A2 A3 own q0 q1
      have q1 : w1.cell? ⟨w.heap.size + 1 + 1, 1, none⟩ = some (.int .i64 0) := D3.cell 1
      have f1 := D3.frozen 1
      have E1 := D1.setCell_other ⟨w.heap.size + 1 + 1, 1, none⟩ (.int .i64 (x : Int)) (by simp; omega)
      have E2 := D2.setCell_other ⟨w.heap.size + 1 + 1, 1, none⟩ (.int .i64 (x : Int)) (by simp)
      have E3 := D3.setCell 1 (.int .i64 (x : Int))
      have ow2 := own_setCell ow1 ⟨w.heap.size + 1 + 1, 1, none⟩ (.int .i64 (x : Int)) (by simp)
      have cu2 := cu1.cellW (p := w.heap.size + 1 + 1) 1 (.int .i64 (x : Int)) (by omega)
      have gr2 := grown_cell gr1 (p := w.heap.size + 1 + 1) (k := 1) (by omega) (.int .i64 (x : Int))
      clear D1 D2 D3 ow1 cu1 gr1
      have q2 : (w1.setCell ⟨w.heap.size + 1 + 1, 1, none⟩ (.int .i64 (x : Int))).cell? ⟨w.heap.size + 1 + 1, 0, none⟩ = some (.slice ov s.attrs.length cv) := E3.cell 0
      have hDL := HD.out.1
      have HDL : Hid (l.length = s.attrs.length) := hDL
      clear hDL
      have HX : Hid (∀ y : Int, (y = x ∨ 0 ≤ y ∧ y < (s.classes.length : Int)) → schemaOk s = true → exOk s ⟨l, y⟩ = true ∧ 0 ≤ y) := fun y hy hs => by
        have h2 : 2 ≤ s.classes.length := by
          unfold schemaOk choices at hs
          rw [Bool.and_eq_true, Bool.and_eq_true, Bool.and_eq_true] at hs
          have := of_decide_eq_true hs.2.1.1
          omega
        have h1 : 0 ≤ y ∧ y < (s.classes.length : Int) := by
          rcases hy with rfl | hy
          · omega
          · exact hy
        exact ⟨drawn_ok hs HD.out h1.1 h1.2, h1.1⟩
      by_cases h0 : 0 < s.attrs.length
      rotate_left
      · have hz : ¬ (0 : Int) < (s.attrs.length : Int) := by omega
        go_wp2_with (first | (with_reducible refine wp_ex_load rfl _ rfl ?_; refine ⟨_, rfl, _, _, E3, ?_⟩) | (with_reducible refine wp_ex_store rfl _ _ rfl ?_; refine ⟨_, rfl, _, _, _, _, rfl, _, _, E2, ?_⟩))
        exact bodyPost_ret (res_ex rfl _ _ _ _ _ rfl (E2.setRow _)) rfl ⟨_, ⟨l, (x : Int)⟩, rfl, ⟨_, rfl, show (_ : World).ownsRow _ _ _ _ l.length _ by rw [HDL.out]; exact own_base (own_setRow ow2 _ _ (by omega)) (by omega)⟩, HDL.out, HX.out _ (.inl rfl), cu2.rowW _ (by omega), grown_row gr2 (by omega) _⟩
      have hz : (0 : Int) < (s.attrs.length : Int) := by omega
      have e1 := once_any g a len cap zs 5 (w1.setCell ⟨w.heap.size + 1 + 1, 1, none⟩ (.int .i64 (x : Int))) cu2 (HR.out _ gr2) (by decide) (by decide)
      go_wp2_with fail
      refine e1.mono ?_
      clear e1
      rintro e w3 ⟨bb, rfl, cu3, h3⟩
      have gr3 := grown_trans gr2 h3
      have F1 := E1.kept h3 (by intro e; injection e; omega)
      have F2 := E2.kept h3 (by intro e; injection e; omega)
      have F3 := E3.kept h3 (by intro e; injection e; omega)
      have ow3 := own_curW ow2 (by omega) h3
      clear h3 gr2 cu2 E1 E2 E3 ow2 q1 q2 f1
      cases bb with
      | true =>
        go_wp2_with (first | (with_reducible refine wp_ex_load rfl _ rfl ?_; refine ⟨_, rfl, _, _, F3, ?_⟩) | (with_reducible refine wp_ex_store rfl _ _ rfl ?_; refine ⟨_, rfl, _, _, _, _, rfl, _, _, F2, ?_⟩))
        exact bodyPost_ret (res_ex rfl _ _ _ _ _ rfl (F2.setRow _)) rfl ⟨_, ⟨l, (x : Int)⟩, rfl, ⟨_, rfl, show (_ : World).ownsRow _ _ _ _ l.length _ by rw [HDL.out]; exact own_base (own_setRow ow3 _ _ (by omega)) (by omega)⟩, HDL.out, HX.out _ (.inl rfl), cu3.rowW _ (by omega), grown_row gr3 (by omega) _⟩
      | false =>
        have q3 : w3.cell? ⟨w.heap.size, 1, none⟩ = some (.slice oc s.classes.length kc) := F1.cell 1
        by_cases hcl : 0 < s.classes.length
        rotate_left
        · have hcz : ¬ (0 : Int) < (s.classes.length : Int) := by omega
          go_wp2_with (first | (with_reducible refine wp_ex_load rfl _ rfl ?_; refine ⟨_, rfl, _, _, F3, ?_⟩) | (with_reducible refine wp_ex_store rfl _ _ rfl ?_; refine ⟨_, rfl, _, _, _, _, rfl, _, _, F2, ?_⟩))
          exact bodyPost_ret (res_ex rfl _ _ _ _ _ rfl (F2.setRow _)) rfl ⟨_, ⟨l, (x : Int)⟩, rfl, ⟨_, rfl, show (_ : World).ownsRow _ _ _ _ l.length _ by rw [HDL.out]; exact own_base (own_setRow ow3 _ _ (by omega)) (by omega)⟩, HDL.out, HX.out _ (.inl rfl), cu3.rowW _ (by omega), grown_row gr3 (by omega) _⟩
        have hcz : (0 : Int) < (s.classes.length : Int) := by omega
        have hb := HD.out.2 0 h0
        obtain ⟨m, hm⟩ : ∃ m : Nat, l.getD 0 0 = (m : Int) - 1 := ⟨(l.getD 0 0 + 1).toNat, by omega⟩
        have hm6 : m ≤ 6 := by
          have := (bins_tiny (HTN.out.each _ (ad_mem h0))).2
          omega
        obtain ⟨go, fo, hov, hcell0⟩ : ∃ go fo, ov = some ⟨go, fo, none⟩ ∧ w3.cell? ⟨go, fo, none⟩ = some (.int .i64 ((m : Int) - 1)) := by
          have hrow := RowI.of_own ow3 HDL.out
          obtain ⟨o', c', e', -, hr'⟩ := hrow
          injection e' with e1 e2 e3
          obtain ⟨go, fo, e4, -, hj⟩ := hr' (by have := HDL.out; omega)
          have := hj 0 (by have := HDL.out; omega)
          rw [hm, Nat.add_zero] at this
          exact ⟨go, fo, by rw [e1, e4], this⟩
        subst hov
        clear hb hm
        have d0 : w3.drew.cell? ⟨go, fo, none⟩ = some (.int .i64 ((m : Int) - 1)) := hcell0
        have d1 : w3.drew.cell? ⟨w.heap.size, 1, none⟩ = some (.slice oc s.classes.length kc) := q3
        have d2 : w3.drew.cell? ⟨w.heap.size + 1 + 1, 0, none⟩ = some (.slice (some ⟨go, fo, none⟩) s.attrs.length cv) := F3.cell 0
        have d3 : w3.drew.cell? ⟨w.heap.size + 1 + 1, 1, none⟩ = some (.int .i64 (x : Int)) := F3.cell 1
        have f3 : w3.drew.frozen? ⟨w.heap.size + 1 + 1, 1, none⟩ = false := F3.frozen 1
        have q4 : w3.cell? ⟨w.heap.size + 1 + 1, 0, none⟩ = some (.slice (some ⟨go, fo, none⟩) s.attrs.length cv) := F3.cell 0
        have hcn : ¬ s.classes = [] := fun e => by rw [e] at hcl; simp at hcl
        have hwm : IntKind.i64.wrap (m : Int) = (m : Int) := by rw [IntKind.wrap_i64]; omega
        have htm : (m : Int).tmod (s.classes.length : Int) = ((m % s.classes.length : Nat) : Int) := by rfl
        have hyl := Nat.mod_lt m hcl
        generalize m % s.classes.length = y at htm hyl
        have L2 : Blk 33 (w3.setCell ⟨w.heap.size + 1 + 1, 1, none⟩ (.int .i64 (y : Int))).drew (w.heap.size + 1) #[.slice none 0 0, .int .i64 0] := F2.setCell_other ⟨w.heap.size + 1 + 1, 1, none⟩ (.int .i64 (y : Int)) (by simp)
        have L3 : Blk 33 (w3.setCell ⟨w.heap.size + 1 + 1, 1, none⟩ (.int .i64 (y : Int))).drew (w.heap.size + 1 + 1) #[.slice (some ⟨go, fo, none⟩) s.attrs.length cv, .int .i64 (y : Int)] := F3.setCell 1 (.int .i64 (y : Int))
        have ow5 : (w3.setCell ⟨w.heap.size + 1 + 1, 1, none⟩ (.int .i64 (y : Int))).drew.ownsRow (w.heap.size + 3) 3 1 (.slice (some ⟨go, fo, none⟩) s.attrs.length cv) s.attrs.length (l.map (Value.int .i64)) := own_setCell ow3 ⟨w.heap.size + 1 + 1, 1, none⟩ (.int .i64 (y : Int)) (by simp)
        have cu5 : IsCur (w3.setCell ⟨w.heap.size + 1 + 1, 1, none⟩ (.int .i64 (y : Int))).drew g a len cap := cu3.cellW (p := w.heap.size + 1 + 1) 1 (.int .i64 (y : Int)) (by omega)
        have gr4 := grown_cell gr3 (p := w.heap.size + 1 + 1) (k := 1) (by omega) (.int .i64 (y : Int))
        have gr5 : w.grownBy (w3.setCell ⟨w.heap.size + 1 + 1, 1, none⟩ (.int .i64 (y : Int))).drew (some g) := ⟨gr4.os, gr4.tape, gr4.output, gr4.size, gr4.block⟩
        clear gr4 F1 F2 F3 ow3 cu3 gr3 hcell0
        go_wp2
        go_region_law (fail)
        all_goals
          clear d0 d1 d2 d3 f3 q4 q3
          go_wp2_with (first | (with_reducible refine wp_ex_load rfl _ rfl ?_; refine ⟨_, rfl, _, _, L3, ?_⟩) | (with_reducible refine wp_ex_store rfl _ _ rfl ?_; refine ⟨_, rfl, _, _, _, _, rfl, _, _, L2, ?_⟩))
          exact bodyPost_ret (res_ex rfl _ _ _ _ _ rfl (L2.setRow _)) rfl ⟨_, ⟨l, (y : Int)⟩, rfl, ⟨_, rfl, show (_ : World).ownsRow _ _ _ _ l.length _ by rw [HDL.out]; exact own_base (own_setRow ow5 _ _ (by omega)) (by omega)⟩, HDL.out, HX.out _ (.inr ⟨by omega, by omega⟩), cu5.rowW _ (by omega), grown_row gr5 (by omega) _⟩
end Go.Proofs.Ytobimpgapfecoaa
/- A region that draws its order: what may be taken first where the last operation alone turns what is read. -/
namespace Go.Proofs.Ytobimpgapfecoaa
section
variable {P : Program} {ops : Array Oper} {Q : Exit → Act → World → Prop} {md : Region.Mode} {S : World → Prop} {last : Nat}
/-- Whatever order is picked from here on, and S holds behind every operation but the last one. -/
def AnyL (P : Program) (md : Region.Mode) (ops : Array Oper) (Q : Exit → Act → World → Prop) (S : World → Prop) (last : Nat) : Nat → Array Bool → Act → World → Prop
  | 0, listed, a, w => Region.ready md ops listed = [] ∧ Q .normal a w
  | fuel + 1, listed, a, w =>
    (Region.ready md ops listed = [] → Q .normal a w) ∧
    ∀ i ∈ Region.ready md ops listed, wpOp P ops Q i (fun a' w' => (i ≠ last → listed.getD last true = false → S w') ∧ AnyL P md ops Q S last fuel (listed.setIfInBounds i true) a' w') a w
theorem wpAny_of_L : ∀ (fuel : Nat) (listed : Array Bool) (a : Act) (w : World), AnyL P md ops Q S last fuel listed a w → wpAny P md ops Q fuel listed a w
  | 0, _, _, _, h => h
  | fuel + 1, _, _, _, h => ⟨h.1, fun i hi => wpOp_mono (fun a' w' h' => wpAny_of_L fuel _ a' w' h'.2) (h.2 i hi)⟩
/-- Does operation k wait for operation i? -/
def waitsFor (md : Region.Mode) (ops : Array Oper) (k i : Nat) : Bool :=
  match ops[k]? with
  | some o => o.after.any fun e => Region.binds md e && e.on == i
  | none => false
theorem not_ready {k i : Nat} (h : waitsFor md ops k i = true) {listed : Array Bool} (hl : listed.getD i false = false) : k ∉ Region.ready md ops listed := by
  intro hk
  obtain ⟨-, o, ho, hall⟩ := mem_ready.1 hk
  unfold waitsFor at h
  rw [ho] at h
  obtain ⟨e, he, hb⟩ := Array.any_eq_true'.1 h
  rw [Bool.and_eq_true] at hb
  have := hall e he hb.1
  rw [eq_of_beq hb.2, hl] at this
  cases this
theorem unlisted {i : Nat} {listed : Array Bool} (hr : i ∈ Region.ready md ops listed) : listed.getD i false = false := by
  have h0 := (mem_ready.1 hr).1
  rcases Nat.lt_or_ge i listed.size with h' | h'
  · simp [h'] at h0 ⊢; exact h0
  · simp [Array.getElem?_eq_none h'] at h0
theorem AnyL_first {i : Nat} {oi : Oper} {v : Value} (hi : ops[i]? = some oi) (hsel : ∀ (j : Nat) (o : Oper) cs b, ops[j]? = some o → o.op ≠ .select cs b)
    (hQ : ∀ c a w, Q (.panic c) (a.put oi.dst v) w → Q (.panic c) a w) (hw : waitsFor md ops last i = true) :
    ∀ (fuel : Nat) (listed : Array Bool) (a : Act) (w : World), listed.getD last true = false →
      (∀ j oj, ops[j]? = some oj → j ≠ i → listed.getD j true = false → (∀ e ∈ oj.after, Region.binds md e = true → e.on ≠ i) → oi.apart ops oj = true) →
      i ∈ Region.ready md ops listed → YieldsIf P ops S oi v a → S w →
      AnyL P md ops Q S last fuel (listed.setIfInBounds i true) (a.put oi.dst v) w → AnyL P md ops Q S last (fuel + 1) listed a w := by
  intro fuel
  induction fuel with
  | zero =>
    intro listed a w hlu _ hr hy hS H
    refine ⟨fun h => (by rw [h] at hr; cases hr), fun j hj => ?_⟩
    by_cases hji : j = i
    · subst hji; exact hy.wpOp hi hS ⟨fun _ _ => hS, H⟩
    · have := ready_mono hj hji
      rw [H.1] at this
      cases this
  | succ fuel ih =>
    intro listed a w hlu hfree hr hy hS H
    refine ⟨fun h => (by rw [h] at hr; cases hr), fun j hj => ?_⟩
    by_cases hji : j = i
    · subst hji; exact hy.wpOp hi hS ⟨fun _ _ => hS, H⟩
    · have h1 := H.2 j (ready_mono hj hji)
      have hjl : j ≠ last := fun e => not_ready hw (unlisted hr) (e ▸ hj)
      obtain ⟨hjun, oj, hoj, hall⟩ := mem_ready.1 hj
      have hnot : ∀ e ∈ oj.after, Region.binds md e = true → e.on ≠ i := fun e he hb heq => by
        have h1 := hall e he hb
        rw [heq, unlisted hr] at h1
        cases h1
      have h2 := wpOp_putIf hoj (hfree j oj hoj hji hjun hnot) (fun cs b => hsel i oi cs b hi) (fun cs b => hsel j oj cs b hoj) hQ hy h1
      have hfree' : ∀ k ok, ops[k]? = some ok → k ≠ i → (listed.setIfInBounds j true).getD k true = false →
          (∀ e ∈ ok.after, Region.binds md e = true → e.on ≠ i) → oi.apart ops ok = true := fun k ok hk hki hun hno => by
        refine hfree k ok hk hki ?_ hno
        by_cases hjk : j = k
        · subst hjk; exact hjun
        · rw [Go.getD_set_ne true hjk] at hun; exact hun
      have hil : i ≠ last := fun e => by
        subst e
        exact not_ready hw (unlisted hr) hr
      have hl2 : (listed.setIfInBounds i true).getD last true = false := by rw [Go.getD_set_ne true hil]; exact hlu
      have hl3 : (listed.setIfInBounds j true).getD last true = false := by rw [Go.getD_set_ne true hjl]; exact hlu
      refine wpOp_mono (fun a' w' h3 => ⟨fun _ _ => h3.2.1 hjl hl2, ih (listed.setIfInBounds j true) a' w' hl3 hfree' (ready_mono hr (Ne.symm hji)) h3.1 (h3.2.1 hjl hl2) ?_⟩) h2
      rw [Array.setIfInBounds_comm _ _ hji]
      exact h3.2.2
/-- Number i may come up now and reads what S says: it is taken first. -/
theorem firstL (i : Nat) {oi : Oper} (v : Value) {fuel : Nat} {listed : Array Bool} {a : Act} {w : World} (hi : ops.toList[i]? = some oi)
    (hs : Region.noSelect ops = true) (hf : Region.free md ops listed i = true) (hr : (Region.ready md ops listed).contains i = true)
    (hQ : ∀ c a w, Q (.panic c) (a.put oi.dst v) w → Q (.panic c) a w) (hw : (waitsFor md ops last i && !listed.getD last true) = true) (hy : YieldsIf P ops S oi v a) (hS : S w)
    (h : AnyL P md ops Q S last fuel (listed.setIfInBounds i true) (a.put oi.dst v) w) : AnyL P md ops Q S last (fuel + 1) listed a w := by
  have hi' : ops[i]? = some oi := by simpa using hi
  rw [Bool.and_eq_true, Bool.not_eq_true'] at hw
  exact AnyL_first hi' (Region.noSelect_spec hs) hQ hw.1 fuel listed a w hw.2 (Region.free_spec hi' hf) (by simpa using hr) hy hS h
theorem AnyL_pure {i : Nat} {oi : Oper} {v : Value} (hi : ops[i]? = some oi) (hsel : ∀ (j : Nat) (o : Oper) cs b, ops[j]? = some o → o.op ≠ .select cs b)
    (hQ : ∀ c a w, Q (.panic c) (a.put oi.dst v) w → Q (.panic c) a w) (hil : i ≠ last) :
    ∀ (fuel : Nat) (listed : Array Bool) (a : Act) (w : World),
      (∀ j oj, ops[j]? = some oj → j ≠ i → listed.getD j true = false → (∀ e ∈ oj.after, Region.binds md e = true → e.on ≠ i) → oi.apart ops oj = true) →
      i ∈ Region.ready md ops listed → YieldsIf P ops (fun _ => True) oi v a → (listed.getD last true = false → S w) →
      AnyL P md ops Q S last fuel (listed.setIfInBounds i true) (a.put oi.dst v) w → AnyL P md ops Q S last (fuel + 1) listed a w := by
  intro fuel
  induction fuel with
  | zero =>
    intro listed a w _ hr hy hS H
    refine ⟨fun h => (by rw [h] at hr; cases hr), fun j hj => ?_⟩
    by_cases hji : j = i
    · subst hji; exact hy.wpOp hi trivial ⟨fun _ => hS, H⟩
    · have := ready_mono hj hji
      rw [H.1] at this
      cases this
  | succ fuel ih =>
    intro listed a w hfree hr hy hS H
    refine ⟨fun h => (by rw [h] at hr; cases hr), fun j hj => ?_⟩
    by_cases hji : j = i
    · subst hji; exact hy.wpOp hi trivial ⟨fun _ => hS, H⟩
    · have h1 := H.2 j (ready_mono hj hji)
      obtain ⟨hjun, oj, hoj, hall⟩ := mem_ready.1 hj
      have hnot : ∀ e ∈ oj.after, Region.binds md e = true → e.on ≠ i := fun e he hb heq => by
        have h1 := hall e he hb
        rw [heq, unlisted hr] at h1
        cases h1
      have h2 := wpOp_putIf hoj (hfree j oj hoj hji hjun hnot) (fun cs b => hsel i oi cs b hi) (fun cs b => hsel j oj cs b hoj) hQ hy h1
      have hfree' : ∀ k ok, ops[k]? = some ok → k ≠ i → (listed.setIfInBounds j true).getD k true = false →
          (∀ e ∈ ok.after, Region.binds md e = true → e.on ≠ i) → oi.apart ops ok = true := fun k ok hk hki hun hno => by
        refine hfree k ok hk hki ?_ hno
        by_cases hjk : j = k
        · subst hjk; exact hjun
        · rw [Go.getD_set_ne true hjk] at hun; exact hun
      have hl2 : (listed.setIfInBounds i true).getD last true = listed.getD last true := Go.getD_set_ne true hil
      refine wpOp_mono (fun a' w' h3 => ⟨fun e1 e2 => h3.2.1 e1 (by rw [hl2]; exact e2), ih (listed.setIfInBounds j true) a' w' hfree' (ready_mono hr (Ne.symm hji)) h3.1 (fun e3 => ?_) ?_⟩) h2
      · by_cases hjl : j = last
        · subst hjl
          have := (mem_ready.1 hj).1
          exfalso
          rcases Nat.lt_or_ge j listed.size with h' | h'
          · simp [h'] at e3
          · simp [Array.getElem?_eq_none h'] at hjun
        · rw [Go.getD_set_ne true hjl] at e3
          exact h3.2.1 hjl (by rw [hl2]; exact e3)
      · rw [Array.setIfInBounds_comm _ _ hji]
        exact h3.2.2
/-- Number i may come up now and reads no world: it is taken first, whether the last one waits for it or not. -/
theorem pureL (i : Nat) {oi : Oper} (v : Value) {fuel : Nat} {listed : Array Bool} {a : Act} {w : World} (hi : ops.toList[i]? = some oi)
    (hs : Region.noSelect ops = true) (hf : Region.free md ops listed i = true) (hr : (Region.ready md ops listed).contains i = true)
    (hQ : ∀ c a w, Q (.panic c) (a.put oi.dst v) w → Q (.panic c) a w) (hil : i ≠ last) (hy : YieldsIf P ops (fun _ => True) oi v a) (hS : S w)
    (h : AnyL P md ops Q S last fuel (listed.setIfInBounds i true) (a.put oi.dst v) w) : AnyL P md ops Q S last (fuel + 1) listed a w := by
  have hi' : ops[i]? = some oi := by simpa using hi
  exact AnyL_pure hi' (Region.noSelect_spec hs) hQ hil fuel listed a w (Region.free_spec hi' hf) (by simpa using hr) hy (fun _ => hS) h
/-- The one operation that may come up now; S is shown anew behind it. -/
theorem stepL (i : Nat) {oi : Oper} {fuel : Nat} {listed : Array Bool} {a : Act} {w : World} (hi : ops.toList[i]? = some oi) (hr : Region.ready md ops listed = [i])
    (hw : Region.wanted oi (yielded ops a.tmps) = true)
    (h : ∀ K' : Act → World → Prop, (∀ a w, S w → AnyL P md ops Q S last fuel (listed.setIfInBounds i true) a w → K' a w) → Oper.wp P oi a w K' Q) : AnyL P md ops Q S last (fuel + 1) listed a w := by
  have hi' : ops[i]? = some oi := by simpa using hi
  refine ⟨fun h0 => (by rw [hr] at h0; cases h0), fun j hj => ?_⟩
  rw [hr, List.mem_singleton] at hj
  subst hj
  refine wpOp_step hi' fun K' hK => ?_
  rw [if_pos hw]
  exact h K' fun a w hS hA => hK a w ⟨fun _ _ => hS, hA⟩
/-- The last operation: nothing is asked of S behind it. -/
theorem lastL {oi : Oper} {fuel : Nat} {listed : Array Bool} {a : Act} {w : World} (hi : ops.toList[last]? = some oi) (hr : Region.ready md ops listed = [last])
    (hd : Region.ready md ops (listed.setIfInBounds last true) = []) (hw : Region.wanted oi (yielded ops a.tmps) = true)
    (h : Oper.wp P oi a w (fun a' w' => Q .normal a' w') Q) : AnyL P md ops Q S last (fuel + 1) listed a w := by
  have hi' : ops[last]? = some oi := by simpa using hi
  refine ⟨fun h0 => (by rw [hr] at h0; cases h0), fun j hj => ?_⟩
  rw [hr, List.mem_singleton] at hj
  subst hj
  refine wpOp_step hi' fun K' hK => ?_
  rw [if_pos hw]
  refine Oper.wp_mono (fun a' w' hq => hK a' w' ⟨fun h _ => absurd rfl h, ?_⟩) h
  cases fuel with
  | zero => exact ⟨hd, hq⟩
  | succ n => exact ⟨fun _ => hq, by rw [hd]; simp⟩
theorem region_L {id : Nat} {a : Act} {w : World} (S : World → Prop) (last : Nat) (hm : P.follows .mixedOrders = true)
    (h : AnyL P .any ops Q S last ops.size (Array.replicate ops.size false) a w.drew) : (Code.region id ops true).wp P Q a w :=
  wp_region_any hm (wpAny_of_L _ _ _ _ h)
end
end Go.Proofs.Ytobimpgapfecoaa
