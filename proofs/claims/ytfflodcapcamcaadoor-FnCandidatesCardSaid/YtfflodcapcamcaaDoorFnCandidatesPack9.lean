/- Texts of this claim, put together: part 9. -/
import Derived.Deep.RegionLaw
import Derived.Test.YtfflodcapcamcaaDoorFnCandidatesPack8
import Derived.Test.YtfflodcapcamcaaDoorRows
import Derived.WalkKit
import Derived.ProofKit
import Derived.OpenShut
import Derived.Deep.RegionHeld3
import Derived.Test.YtfflodcapcamcaaDoorFnCandidatesPack4
/- Draws of chapter 5: a schema, right or not. -/
namespace Go.Proofs.YtfflodcapcamcaaDoor
open Go.RowKit
set_option maxRecDepth 100000
theorem small_of_okS {d : SchemaD} (h : schemaOk d = true) : d.attrs.length ≤ 5 ∧ 2 ≤ d.classes.length ∧ d.classes.length ≤ 3 := by
  unfold schemaOk at h
  rw [Bool.and_eq_true, Bool.and_eq_true] at h
  have h1 := of_decide_eq_true h.1
  have h2 := h.2.1
  unfold choices at h2
  rw [Bool.and_eq_true] at h2
  have h3 := of_decide_eq_true h2.1
  omega
theorem own_low {w w' : World} {b e s n : Nat} {v : Value} {xs : List Value} {r : Option Nat} (h : w.ownsRow b e s v n xs) (hg : w.grownBy w' r) (hr : ∀ j, r = some j → j < b) : w'.ownsRow b e s v n xs := by
  refine h.kept hg ?_
  cases e : v.ownBlock with
  | none => exact .inl rfl
  | some k =>
    refine .inr fun e' => ?_
    have u1 := (h.lt k e).1
    have u2 := hr k e'.symm
    omega
theorem OwnL.low {w w' : World} {b : Nat} {v : Value} {ls : List AttrD} {r : Option Nat} (h : OwnL b w v ls) (hg : w.grownBy w' r) (hr : ∀ j, r = some j → j < b) : OwnL b w' v ls := by
  obtain ⟨ys, h1, h2⟩ := h
  refine ⟨ys, own_low h1 hg hr, fun j hj => ?_⟩
  obtain ⟨vc, vv, a0, a1, a2, a3, a4⟩ := h2 j hj
  exact ⟨vc, vv, a0, a1, a2, own_low a3 hg hr, own_low a4 hg hr⟩
theorem OwnL.cellB {w : World} {b : Nat} {v : Value} {ls : List AttrD} {cs : Array Value} (h : OwnL b w v ls) (p k : Nat) (u : Value) (hp : Blk 27 w p cs) : OwnL b (w.setCell ⟨p, k, none⟩ u) v ls := by
  obtain ⟨ys, h1, h2⟩ := h
  refine ⟨ys, own_setCellN h1 p k u (own_ne_blk h1 hp (by decide)), fun j hj => ?_⟩
  obtain ⟨vc, vv, a0, a1, a2, a3, a4⟩ := h2 j hj
  exact ⟨vc, vv, a0, a1, a2, own_setCellN a3 p k u (own_ne_blk a3 hp (by decide)), own_setCellN a4 p k u (own_ne_blk a4 hp (by decide))⟩
theorem own_cutD {w : World} {b e n m c : Nat} {o : Option Addr} {xs : List Value} (h : w.ownsRow b e 1 (.slice o n c) n xs) (hm : m ≤ n) (hn : 0 < n) : w.ownsRow b e 1 (.slice o m c) m (xs.take m) := by
  refine ⟨by rw [List.length_take, h.1]; omega, ?_⟩
  rcases h.2 with ⟨h', h0⟩ | ⟨g, cap, cur, hv, hg, hc, hle, hmx, hs, ht⟩
  · omega
  · cases hv
    refine .inr ⟨g, c, cur, rfl, hg, hc, by omega, hmx, hs, ?_⟩
    rw [← ht, List.take_take]; congr 1; omega
theorem ownA_lit0D (w : World) (b : Nat) (hb : b ≤ w.heap.size) : (w.alloc (.cells #[] 46)).ownsRow b 46 3 (.slice (some ⟨w.heap.size, 0, none⟩) 0 0) 0 [] :=
  World.ownsRow_lit (base := b) (e := 46) (size := 3) w #[] 0 hb (by decide) rfl
set_option maxHeartbeats 6400000 in
theorem draw5_any (g : Nat) (a : Option Addr) (len cap : Nat) (zs : List Int) (w : World) (hc : IsCur w g a len cap) (hr : IsRow .u8 w a len cap zs) :
    Calls Tryd.prog 25 #[.pointer (some ⟨g, 0, none⟩)] w fun e w' => ∃ v d, e = .returned v ∧ OwnS w.heap.size w' v d ∧ tinyS d ∧ IsCur w' g a len cap ∧ w.grownBy w' (some g) := by
  have hgw : g < w.heap.size := hc.lt
  have HR : Hid (∀ w', w.grownBy w' (some g) → IsRow .u8 w' a len cap zs) := fun w' h => hr.aside hc h
  obtain ⟨i0, hi, hi0, hi1, hi2⟩ := info_parts strInfo
  obtain ⟨j0, hj, hj0, hj1, hj2⟩ := info_parts atInfo
  have c1 := hc.alloc (.cells #[.slice none 0 0, .slice none 0 0] 27)
  have g1 : w.grownBy (w.alloc (.cells #[.slice none 0 0, .slice none 0 0] 27)) (some g) := grown_alloc w _ _
  have R1 := Blk.new 27 w #[.slice none 0 0, .slice none 0 0]
  have hs1 : w.heap.size + 1 ≤ (w.alloc (.cells #[.slice none 0 0, .slice none 0 0] 27)).heap.size := by simp
  clear hc hr
  have e1 := right5_any g a len cap zs _ c1 (HR.out _ g1)
  go_enter Tryd.func25, Tryd.ntmps25
  go_wp2_with fail
  refine e1.mono ?_
  clear e1
  rintro e w3 ⟨va, vc, d, mid, rfl, hm0, hm1, hL, hO, hvm, hok, htn, c3, h3⟩
  have hm2 : w.heap.size + 1 ≤ mid := Nat.le_trans hs1 hm0
  have hO := own_base hO hs1
  have HSM : Hid (d.attrs.length ≤ 5 ∧ 2 ≤ d.classes.length ∧ d.classes.length ≤ 3) := small_of_okS hok
  have g3 := grown_trans g1 h3
  have R3 := R1.kept h3 (by intro e; cases e; omega)
  clear h3 g1 c1 R1 hs1 hm0 hok
  obtain ⟨ys, hrow, hdone⟩ := hL
  obtain ⟨ova, cva, rfl⟩ := own_slice hrow
  obtain ⟨ovc, cvc, rfl⟩ := own_slice hO
  have Az : Blk 27 (w3.alloc (.cells #[.slice none 0 0, .slice none 0 0] 27)) w3.heap.size #[.slice none 0 0, .slice none 0 0] := Blk.new _ _ _
  have A4 := Az.setRow #[.slice ova d.attrs.length cva, .slice ovc d.classes.length cvc]
  have R4 := (R3.alloc (.cells #[.slice none 0 0, .slice none 0 0] 27)).setRow_other #[.slice ova d.attrs.length cva, .slice ovc d.classes.length cvc] (show w.heap.size ≠ w3.heap.size by omega)
  have c4 := (c3.alloc (.cells #[.slice none 0 0, .slice none 0 0] 27)).rowW #[.slice ova d.attrs.length cva, .slice ovc d.classes.length cvc] (show g ≠ w3.heap.size by omega)
  have g4 := grown_row (grown_trans g3 (grown_alloc w3 (.cells #[.slice none 0 0, .slice none 0 0] 27) _)) (show w.heap.size ≤ w3.heap.size by omega) #[.slice ova d.attrs.length cva, .slice ovc d.classes.length cvc]
  have o4 := own_setRowN (hO.alloc (.cells #[.slice none 0 0, .slice none 0 0] 27)) w3.heap.size #[.slice ova d.attrs.length cva, .slice ovc d.classes.length cvc] (fun e => by have := (hO.lt _ e).2; omega)
  have r4 := own_setRowN (hrow.alloc (.cells #[.slice none 0 0, .slice none 0 0] 27)) w3.heap.size #[.slice ova d.attrs.length cva, .slice ovc d.classes.length cvc] (fun e => by have := (hrow.lt _ e).2; omega)
  have n4 : DoneA ((w3.alloc (.cells #[.slice none 0 0, .slice none 0 0] 27)).setRow w3.heap.size #[.slice ova d.attrs.length cva, .slice ovc d.classes.length cvc]) mid ys d.attrs d.attrs.length := fun j hj => by
    obtain ⟨x1, x2, b0, b1, b2, b3, b4⟩ := hdone j hj
    exact ⟨x1, x2, b0, b1, b2, own_setRowN (b3.alloc _) _ _ (fun e => by have := (b3.lt _ e).2; omega), own_setRowN (b4.alloc _) _ _ (fun e => by have := (b4.lt _ e).2; omega)⟩
  clear hO hrow hdone R3 c3 g3
  have hz4 : ((w3.alloc (.cells #[.slice none 0 0, .slice none 0 0] 27)).setRow w3.heap.size #[.slice ova d.attrs.length cva, .slice ovc d.classes.length cvc]).heap.size = w3.heap.size + 1 := by simp [World.setRow]
  go_wp2_with (with_reducible refine wp_sc_store rfl _ _ rfl ?_; refine ⟨w3.heap.size, rfl, _, _, _, _, _, _, rfl, _, _, Az, ?_⟩; clear Az; generalize (w3.alloc (.cells #[.slice none 0 0, .slice none 0 0] 27)).setRow w3.heap.size #[.slice ova d.attrs.length cva, .slice ovc d.classes.length cvc] = W at A4 R4 c4 g4 o4 r4 n4 hz4 ⊢)
  obtain ⟨p, hp, hp1⟩ : ∃ p, w3.heap.size = p ∧ mid ≤ p := ⟨_, rfl, hm1⟩
  rw [hp] at A4 ⊢
  clear hp hm1 hz4
  have e1 := l1Below_any g a len cap zs 12 W c4 (HR.out _ g4) (by decide) (by decide)
  go_wp2_with fail
  refine e1.mono ?_
  clear e1
  rintro e w5 ⟨t, rfl, ht, c5, h5⟩
  have hA := A4.lt
  have g5 := grown_trans g4 h5
  have R5 := R4.kept h5 (by intro e; cases e; omega)
  have A5 := A4.kept h5 (by intro e; cases e; omega)
  have o5 := own_curW o4 (by omega) h5
  have r5 := own_curW r4 (by omega) h5
  have n5 := n4.curW (by omega) h5
  clear h5 g4 c4 R4 A4 o4 r4 n4 hA
  have hA := A5.lt
  by_cases t0 : t = 0
  · subst t0
    have hvo : ∀ j, (Value.slice ova d.attrs.length cva).ownBlock = some j → mid ≤ j := fun j hj => (r5.lt j hj).1
    have Ad : Blk 27 w5.drew p #[.slice ova d.attrs.length cva, .slice ovc d.classes.length cvc] := A5
    have Rd : Blk 27 w5.drew w.heap.size #[.slice none 0 0, .slice none 0 0] := R5
    have cd : IsCur w5.drew g a len cap := c5
    have od : w5.drew.ownsRow (w.heap.size + 1) 9 1 (.slice ovc d.classes.length cvc) d.classes.length (d.classes.map Value.string) := o5
    have rd : w5.drew.ownsRow mid 46 3 (.slice ova d.attrs.length cva) d.attrs.length ys := r5
    have dd : DoneA w5.drew mid ys d.attrs d.attrs.length := n5
    have gd : w.grownBy w5.drew (some g) := ⟨g5.os, g5.tape, g5.output, g5.size, g5.block⟩
    have sd : mid ≤ w5.drew.heap.size := by have := Ad.lt; omega
    have d0 : w5.drew.cell? ⟨p, 0, none⟩ = some (.slice ova d.attrs.length cva) := Ad.cell 0
    have d3 : w5.cell? ⟨p, 0, none⟩ = some (.slice ova d.attrs.length cva) := A5.cell 0
    have e1 := drawAttr_any g a len cap zs w5.drew cd (HR.out _ gd)
    have hal := htn.attrs
    have hpd := own_ne_blk rd Ad (by decide)
    clear R5 A5 c5 g5 o5 r5 n5
    go_wp2
    go_region_law (first
      | (refine step_wp rfl ?_; unfold Oper.wp; go_simp; go_at_call 36; refine e1.mono ?_; clear e1; rintro e w1 ⟨v1, d1, rfl, ⟨c1, c2, rfl, q1, q2⟩, htd, cc1, h1⟩; obtain ⟨oc1, k1, rfl⟩ := own_slice q1; obtain ⟨oc2, k2, rfl⟩ := own_slice q2; have A1 := Ad.kept h1 (by intro e; cases e; omega); have a1 : w1.cell? ⟨p, 0, none⟩ = some (.slice ova d.attrs.length cva) := A1.cell 0; have a1' : (w1.alloc (.cells #[.string d1.name, .slice oc1 d1.cuts.length k1, .slice oc2 d1.vals.length k2] 46)).cell? ⟨p, 0, none⟩ = some (.slice ova d.attrs.length cva) := (A1.alloc _).cell 0; have r1 := own_curW rd (by omega) h1; have s1 : mid ≤ w1.heap.size := Nat.le_trans sd h1.size)
      | (refine step_wp rfl (wp_append_own _ _ _ 24 rfl mid 46 j0 (.agg #[.string ⟨#[]⟩, .slice none 0 0, .slice none 0 0]) 3 64 Tryd.underlying24 hj hj0 hj1 hj2 rfl (by decide) _ _ _ rfl (r1.alloc (.cells #[.string d1.name, .slice oc1 d1.cuts.length k1, .slice oc2 d1.vals.length k2] 46)) ⟨w1.heap.size, 0, none⟩ 1 1 [.string d1.name, .slice oc1 d1.cuts.length k1, .slice oc2 d1.vals.length k2] rfl rfl (newc3D _ _ _ _ _) (by simp [Value.oneCell']) (by unfold maxLen; omega) (by omega) (by simp; omega) ?_); intro v' w2 ho hg2 hnil; obtain ⟨ov, cv, rfl⟩ := own_slice ho; have A2 := (A1.alloc (.cells #[.string d1.name, .slice oc1 d1.cuts.length k1, .slice oc2 d1.vals.length k2] 46)).kept hg2 hpd; have a2 : w2.cell? ⟨p, 0, none⟩ = some (.slice ova d.attrs.length cva) := A2.cell 0; have f2 := A2.frozen 0))
    all_goals
      have R1 := Rd.kept h1 (by intro e; cases e; omega)
      have own1 := own_curW od (by omega) h1
      have dn1 := dd.curW (by omega) h1
      have R2 := (R1.alloc (.cells #[.string d1.name, .slice oc1 d1.cuts.length k1, .slice oc2 d1.vals.length k2] 46)).kept hg2 (fun e => by have := hvo _ e; omega)
      have c2 := (cc1.alloc (.cells #[.string d1.name, .slice oc1 d1.cuts.length k1, .slice oc2 d1.vals.length k2] 46)).kept hg2 (fun e => by have := hvo _ e; omega)
      have g2 := grown_own (grown_trans (grown_trans gd h1) (grown_alloc w1 (.cells #[.string d1.name, .slice oc1 d1.cuts.length k1, .slice oc2 d1.vals.length k2] 46) _)) hg2 (fun j e => by have := hvo _ e; omega)
      have own2 := (own1.alloc (.cells #[.string d1.name, .slice oc1 d1.cuts.length k1, .slice oc2 d1.vals.length k2] 46)).kept hg2 (apart_d (own1.alloc (.cells #[.string d1.name, .slice oc1 d1.cuts.length k1, .slice oc2 d1.vals.length k2] 46)) (r1.alloc (.cells #[.string d1.name, .slice oc1 d1.cuts.length k1, .slice oc2 d1.vals.length k2] 46)) (by decide))
      have L2 := OwnL.snoc (x := d1) (r1.alloc (.cells #[.string d1.name, .slice oc1 d1.cuts.length k1, .slice oc2 d1.vals.length k2] 46)) (dn1.below ((Below.refl _ _).alloc (Nat.le_refl _) _)) ((own_base q1 sd).alloc _) ((own_base q2 sd).alloc _) hg2 ho
      have A3 : Blk 27 (w2.setCell ⟨p, 0, none⟩ (.slice ov (d.attrs.length + 1) cv)) p #[.slice ov (d.attrs.length + 1) cv, .slice ovc d.classes.length cvc] := A2.setCell 0 (.slice ov (d.attrs.length + 1) cv)
      have R3 := R2.setCell_other ⟨p, 0, none⟩ (.slice ov (d.attrs.length + 1) cv) (show p ≠ w.heap.size by omega)
      have own3 := own_setCellN own2 p 0 (.slice ov (d.attrs.length + 1) cv) (own_ne_blk own2 A2 (by decide))
      have L3 := L2.cellB p 0 (.slice ov (d.attrs.length + 1) cv) A2
      have c3 := c2.cellW 0 (.slice ov (d.attrs.length + 1) cv) (show g ≠ p by omega)
      have g3 := grown_cell g2 (p := p) (k := 0) (by omega) (.slice ov (d.attrs.length + 1) cv)
      have HT : Hid (tinyS ⟨d.attrs ++ [d1], d.classes⟩) := ⟨by show (d.attrs ++ [d1]).length ≤ 6; rw [List.length_append, List.length_singleton]; have := HSM.out.1; omega, fun x hx => by
        rcases List.mem_append.1 hx with hx | hx
        · exact htn.each x hx
        · rw [List.mem_singleton] at hx; rw [hx]; exact htd, htn.classes, htn.sizes⟩
      clear hg2 hnil A1 A2 R1 R2 c2 g2 ho a2 f2 a1 a1' Ad Rd cd od gd rd dd sd d0 d3 hvo r1 dn1 own1 own2 L2 q1 q2 h1 cc1 s1 htd hpd
      go_wp2_with (first | (with_reducible refine wp_sc_load rfl _ rfl ?_; refine ⟨p, rfl, _, _, A3, ?_⟩) | (with_reducible refine wp_sc_store rfl _ _ rfl ?_; refine ⟨w.heap.size, rfl, _, _, _, _, _, _, rfl, _, _, R3, ?_⟩))
      exact bodyPost_ret (res_sc rfl _ _ _ _ _ rfl (Blk.setRow R3 _)) rfl ⟨_, ⟨d.attrs ++ [d1], d.classes⟩, rfl, ⟨_, _, rfl, OwnL.base (OwnL.setRow L3 _ _ (by omega)) (by omega), own_base (own_setRow own3 _ _ (by omega)) (by omega)⟩, HT.out, IsCur.rowW c3 _ (by omega), grown_row g3 (Nat.le_refl _) _⟩
  have b0 : ((t : Int) == 0) = false := by rw [beq_eq_false_iff_ne]; omega
  by_cases t1 : t = 1
  · subst t1
    have Ad : Blk 27 w5.drew p #[.slice ova d.attrs.length cva, .slice ovc d.classes.length cvc] := A5
    have Rd : Blk 27 w5.drew w.heap.size #[.slice none 0 0, .slice none 0 0] := R5
    have cd : IsCur w5.drew g a len cap := c5
    have od : w5.drew.ownsRow (w.heap.size + 1) 9 1 (.slice ovc d.classes.length cvc) d.classes.length (d.classes.map Value.string) := o5
    have Ld : OwnL mid w5.drew (.slice ova d.attrs.length cva) d.attrs := ⟨ys, r5, n5⟩
    have gd : w.grownBy w5.drew (some g) := ⟨g5.os, g5.tape, g5.output, g5.size, g5.block⟩
    have hsd : w.heap.size + 1 ≤ w5.drew.heap.size := by have := Ad.lt; omega
    have e1 := pickS [⟨#[110, 111]⟩, ⟨#[111, 116, 104, 101, 114]⟩, ⟨#[]⟩] g a len cap zs w5.drew cd (HR.out _ gd) (by simp) (by simp)
    simp only [List.map_cons, List.map_nil, List.length_cons, List.length_nil, Nat.zero_add, Nat.reduceAdd] at e1
    have d0 : w5.drew.cell? ⟨p, 1, none⟩ = some (.slice ovc d.classes.length cvc) := Ad.cell 1
    have d1' : (w5.drew.alloc (.cells #[.string ⟨#[110, 111]⟩, .string ⟨#[111, 116, 104, 101, 114]⟩, .string ⟨#[]⟩] 9)).cell? ⟨p, 1, none⟩ = some (.slice ovc d.classes.length cvc) := (Ad.alloc _).cell 1
    have d3 : w5.cell? ⟨p, 1, none⟩ = some (.slice ovc d.classes.length cvc) := A5.cell 1
    have d4 : (w5.alloc (.cells #[.string ⟨#[110, 111]⟩, .string ⟨#[111, 116, 104, 101, 114]⟩, .string ⟨#[]⟩] 9)).cell? ⟨p, 1, none⟩ = some (.slice ovc d.classes.length cvc) := (A5.alloc _).cell 1
    have htl := htn.classes
    have hpd := own_ne_blk od Ad (by decide)
    clear R5 A5 c5 g5 o5 r5 n5
    go_wp2
    go_region_law (first
      | (refine step_wp rfl ?_; unfold Oper.wp; go_simp; go_at_call 37; refine e1.mono ?_; clear e1; rintro e w1 ⟨y, rfl, hy, cc1, h1⟩; have A1 := Ad.kept h1 (by intro e; cases e; omega); have a1 : w1.cell? ⟨p, 1, none⟩ = some (.slice ovc d.classes.length cvc) := A1.cell 1; have a1' : (w1.alloc (.cells #[.string y] 9)).cell? ⟨p, 1, none⟩ = some (.slice ovc d.classes.length cvc) := (A1.alloc _).cell 1; have r1 := own_curW od (by omega) h1; have s1 : w.heap.size + 1 ≤ w1.heap.size := Nat.le_trans hsd h1.size)
      | (refine step_wp rfl (wp_append_own _ _ _ 25 rfl (w.heap.size + 1) 9 i0 (.string ⟨#[]⟩) 1 16 Tryd.underlying25 hi hi0 hi1 hi2 rfl (by decide) _ _ _ rfl (r1.alloc (.cells #[.string y] 9)) ⟨w1.heap.size, 0, none⟩ 1 1 [.string y] rfl rfl (newc _ _ _) (by simp [Value.oneCell']) (by unfold maxLen; omega) (by omega) (by simp; omega) ?_); intro v' w2 ho hg2 hnil; obtain ⟨ov, cv, rfl⟩ := own_slice ho; have A2 := (A1.alloc (.cells #[.string y] 9)).kept hg2 hpd; have a2 : w2.cell? ⟨p, 1, none⟩ = some (.slice ovc d.classes.length cvc) := A2.cell 1; have f2 := A2.frozen 1))
    all_goals
      have R1 := Rd.kept h1 (by intro e; cases e; omega)
      have L1 := Ld.curW (by omega) h1
      have hro : ∀ j, (Value.slice ovc d.classes.length cvc).ownBlock = some j → w.heap.size + 1 ≤ j := fun j e => (r1.lt j e).1
      have R2 := (R1.alloc (.cells #[.string y] 9)).kept hg2 (fun e => by have := hro _ e; omega)
      have c2 := (cc1.alloc (.cells #[.string y] 9)).kept hg2 (fun e => by have := hro _ e; omega)
      have g2 := grown_own (grown_trans (grown_trans gd h1) (grown_alloc w1 (.cells #[.string y] 9) _)) hg2 (fun j e => by have := hro _ e; omega)
      have L2 := (L1.below ((Below.refl _ _).alloc (Nat.le_refl _) (.cells #[.string y] 9))).low hg2 hvm
      have A3 : Blk 27 (w2.setCell ⟨p, 1, none⟩ (.slice ov (d.classes.length + 1) cv)) p #[.slice ova d.attrs.length cva, .slice ov (d.classes.length + 1) cv] := A2.setCell 1 (.slice ov (d.classes.length + 1) cv)
      have R3 := R2.setCell_other ⟨p, 1, none⟩ (.slice ov (d.classes.length + 1) cv) (show p ≠ w.heap.size by omega)
      have L3 := L2.cellB p 1 (.slice ov (d.classes.length + 1) cv) A2
      have ho3 := own_castD (own_setCellN ho p 1 (.slice ov (d.classes.length + 1) cv) (own_ne_blk ho A2 (by decide))) (show d.classes.length + 1 = (d.classes ++ [y]).length by simp) (show _ = (d.classes ++ [y]).map Value.string by simp)
      have c3 := c2.cellW 1 (.slice ov (d.classes.length + 1) cv) (show g ≠ p by omega)
      have g3 := grown_cell g2 (p := p) (k := 1) (by omega) (.slice ov (d.classes.length + 1) cv)
      have HT : Hid (tinyS ⟨d.attrs, d.classes ++ [y]⟩) := ⟨htn.attrs, htn.each, by show (d.classes ++ [y]).length ≤ 4; rw [List.length_append, List.length_singleton]; have := HSM.out.2.2; omega, fun x hx => by
        rcases List.mem_append.1 hx with hx | hx
        · exact htn.sizes x hx
        · rw [List.mem_singleton] at hx; rw [hx]; exact (by decide +kernel : ∀ y ∈ ([⟨#[110, 111]⟩, ⟨#[111, 116, 104, 101, 114]⟩, ⟨#[]⟩] : List ByteArray), y.size ≤ 16) y hy⟩
      clear hg2 hnil A1 A2 R1 R2 c2 g2 ho a2 f2 a1 a1' Ad Rd cd od Ld gd d0 d1' d3 d4 r1 L1 L2 h1 cc1 s1 hy htl hpd hsd hro
      go_wp2_with (first | (with_reducible refine wp_sc_load rfl _ rfl ?_; refine ⟨p, rfl, _, _, A3, ?_⟩) | (with_reducible refine wp_sc_store rfl _ _ rfl ?_; refine ⟨w.heap.size, rfl, _, _, _, _, _, _, rfl, _, _, R3, ?_⟩))
      exact bodyPost_ret (res_sc rfl _ _ _ _ _ rfl (Blk.setRow R3 _)) rfl ⟨_, ⟨d.attrs, d.classes ++ [y]⟩, rfl, ⟨_, _, rfl, OwnL.base (OwnL.setRow L3 _ _ (by omega)) (by omega), own_base (own_setRow ho3 _ _ (by omega)) (by omega)⟩, HT.out, IsCur.rowW c3 _ (by omega), grown_row g3 (Nat.le_refl _) _⟩
  have b1 : ((t : Int) == 1) = false := by rw [beq_eq_false_iff_ne]; omega
  have L5 : OwnL mid w5 (.slice ova d.attrs.length cva) d.attrs := ⟨ys, r5, n5⟩
  by_cases t2 : t = 2
  · subst t2
    have a6 : w5.cell? ⟨p, 0, none⟩ = some (.slice ova d.attrs.length cva) := A5.cell 0
    have f6 := A5.frozen 0
    have A6 : Blk 27 (w5.setCell ⟨p, 0, none⟩ (.slice (some ⟨w5.heap.size, 0, none⟩) 0 0)) p #[(.slice (some ⟨w5.heap.size, 0, none⟩) 0 0), .slice ovc d.classes.length cvc] := A5.setCell 0 (.slice (some ⟨w5.heap.size, 0, none⟩) 0 0)
    have R6 := R5.setCell_other ⟨p, 0, none⟩ (.slice (some ⟨w5.heap.size, 0, none⟩) 0 0) (show p ≠ w.heap.size by omega)
    have o6 := own_setCellN o5 p 0 (.slice (some ⟨w5.heap.size, 0, none⟩) 0 0) (own_ne_blk o5 A5 (by decide))
    have c6 := c5.cellW 0 (.slice (some ⟨w5.heap.size, 0, none⟩) 0 0) (show g ≠ p by omega)
    have g6 := grown_cell g5 (p := p) (k := 0) (by omega) (.slice (some ⟨w5.heap.size, 0, none⟩) 0 0)
    have A7 := A6.alloc (.cells #[] 46)
    have R7 := R6.alloc (.cells #[] 46)
    have c7 := c6.alloc (.cells #[] 46)
    have g7 := grown_trans g6 (grown_alloc _ (.cells #[] 46) _)
    have o7 := o6.alloc (.cells #[] 46)
    have L7 : OwnL (w.heap.size + 1) ((w5.setCell ⟨p, 0, none⟩ (.slice (some ⟨w5.heap.size, 0, none⟩) 0 0)).alloc (.cells #[] 46)) (.slice (some ⟨w5.heap.size, 0, none⟩) 0 0) [] := by
      refine ⟨[], ?_, fun j hj => by simp at hj⟩
      have := ownA_lit0D (w5.setCell ⟨p, 0, none⟩ (.slice (some ⟨w5.heap.size, 0, none⟩) 0 0)) (w.heap.size + 1) (by simp [World.setCell]; omega)
      rwa [show (w5.setCell ⟨p, 0, none⟩ (.slice (some ⟨w5.heap.size, 0, none⟩) 0 0)).heap.size = w5.heap.size by simp [World.setCell]] at this
    have HT : Hid (tinyS ⟨[], d.classes⟩) := ⟨by show ([] : List AttrD).length ≤ 6; simp, fun x hx => by simp at hx, htn.classes, htn.sizes⟩
    clear A6 R6 o6 c6 g6
    go_wp2_with (first | (with_reducible refine wp_sc_load rfl _ rfl ?_; refine ⟨p, rfl, _, _, A7, ?_⟩) | (with_reducible refine wp_sc_store rfl _ _ rfl ?_; refine ⟨w.heap.size, rfl, _, _, _, _, _, _, rfl, _, _, R7, ?_⟩))
    exact bodyPost_ret (res_sc rfl _ _ _ _ _ rfl (Blk.setRow R7 _)) rfl ⟨_, ⟨([] : List AttrD), d.classes⟩, rfl, ⟨_, _, rfl, OwnL.base (OwnL.setRow L7 _ _ (by omega)) (by omega), own_base (own_setRow o7 _ _ (by omega)) (by omega)⟩, HT.out, IsCur.rowW c7 _ (by omega), grown_row g7 (Nat.le_refl _) _⟩
  have b2 : ((t : Int) == 2) = false := by rw [beq_eq_false_iff_ne]; omega
  by_cases t3 : t = 3
  · subst t3
    have a6 : w5.cell? ⟨p, 1, none⟩ = some (.slice ovc d.classes.length cvc) := A5.cell 1
    have f6 := A5.frozen 1
    have hcl := HSM.out.2.1
    obtain ⟨gq, rfl, hcap⟩ : ∃ gq, ovc = some ⟨gq, 0, none⟩ ∧ d.classes.length ≤ cvc := by
      rcases o5.2 with ⟨e, h0⟩ | ⟨gq, cq, cur, e, _, _, hle, _⟩
      · omega
      · cases e; exact ⟨gq, rfl, hle⟩
    have h1c : (1 : Int) ≤ (cvc : Int) := by omega
    have A7 : Blk 27 (w5.setCell ⟨p, 1, none⟩ (.slice (some ⟨gq, 0, none⟩) 1 cvc)) p #[.slice ova d.attrs.length cva, .slice (some ⟨gq, 0, none⟩) 1 cvc] := A5.setCell 1 (.slice (some ⟨gq, 0, none⟩) 1 cvc)
    have R7 := R5.setCell_other ⟨p, 1, none⟩ (.slice (some ⟨gq, 0, none⟩) 1 cvc) (show p ≠ w.heap.size by omega)
    have o7 : World.ownsRow (w5.setCell ⟨p, 1, none⟩ (.slice (some ⟨gq, 0, none⟩) 1 cvc)) (w.heap.size + 1) 9 1 (.slice (some ⟨gq, 0, none⟩) 1 cvc) (d.classes.take 1).length ((d.classes.take 1).map Value.string) := by
      have h1 := own_setCellN (own_cutD o5 (m := 1) (by omega) (by omega)) p 1 (.slice (some ⟨gq, 0, none⟩) 1 cvc) (own_ne_blk (own_cutD o5 (m := 1) (by omega) (by omega)) A5 (by decide))
      exact own_castD h1 (by rw [List.length_take]; omega) (by rw [List.map_take])
    have c7 := c5.cellW 1 (.slice (some ⟨gq, 0, none⟩) 1 cvc) (show g ≠ p by omega)
    have g7 := grown_cell g5 (p := p) (k := 1) (by omega) (.slice (some ⟨gq, 0, none⟩) 1 cvc)
    have L7 := L5.cellB p 1 (.slice (some ⟨gq, 0, none⟩) 1 cvc) A5
    have HT : Hid (tinyS ⟨d.attrs, d.classes.take 1⟩) := ⟨htn.attrs, htn.each, by show (d.classes.take 1).length ≤ 4; rw [List.length_take]; omega, fun x hx => htn.sizes x (List.mem_of_mem_take hx)⟩
    have hsl : ¬ ((cvc : Int) < 1) := by omega
    go_wp2_with (first | (with_reducible refine wp_sc_load rfl _ rfl ?_; refine ⟨p, rfl, _, _, A7, ?_⟩) | (with_reducible refine wp_sc_store rfl _ _ rfl ?_; refine ⟨w.heap.size, rfl, _, _, _, _, _, _, rfl, _, _, R7, ?_⟩))
    exact bodyPost_ret (res_sc rfl _ _ _ _ _ rfl (Blk.setRow R7 _)) rfl ⟨_, ⟨d.attrs, d.classes.take 1⟩, rfl, ⟨_, _, rfl, OwnL.base (OwnL.setRow L7 _ _ (by omega)) (by omega), own_base (own_setRow o7 _ _ (by omega)) (by omega)⟩, HT.out, IsCur.rowW c7 _ (by omega), grown_row g7 (Nat.le_refl _) _⟩
  have b3 : ((t : Int) == 3) = false := by rw [beq_eq_false_iff_ne]; omega
  clear t0 t1 t2 t3
  go_wp2_with (first | (with_reducible refine wp_sc_load rfl _ rfl ?_; refine ⟨p, rfl, _, _, A5, ?_⟩) | (with_reducible refine wp_sc_store rfl _ _ rfl ?_; refine ⟨w.heap.size, rfl, _, _, _, _, _, _, rfl, _, _, R5, ?_⟩))
  exact bodyPost_ret (res_sc rfl _ _ _ _ _ rfl (Blk.setRow R5 _)) rfl ⟨_, ⟨d.attrs, d.classes⟩, rfl, ⟨_, _, rfl, OwnL.base (OwnL.setRow L5 _ _ (by omega)) (by omega), own_base (own_setRow o5 _ _ (by omega)) (by omega)⟩, htn, IsCur.rowW c5 _ (by omega), grown_row g5 (Nat.le_refl _) _⟩
end Go.Proofs.YtfflodcapcamcaaDoor
/- A schema of the call's own beside a draw and a store into another block. -/
namespace Go.Proofs.YtfflodcapcamcaaDoor
open Go.RowKit
set_option maxRecDepth 100000
theorem OwnS.curW9 {w w' : World} {b g : Nat} {v : Value} {s : SchemaD} (h : OwnS b w v s) (hg : g < b) (hk : w.grownBy w' (some g)) : OwnS b w' v s := by
  obtain ⟨va, vc, rfl, ⟨ys, h1, h2⟩, h3⟩ := h
  exact ⟨va, vc, rfl, ⟨ys, own_curW h1 hg hk, h2.curW hg hk⟩, own_curW h3 hg hk⟩
theorem OwnS.below9 {w w' : World} {b : Nat} {v : Value} {s : SchemaD} (h : OwnS b w v s) (hb : Below w.heap.size w w') : OwnS b w' v s := by
  obtain ⟨va, vc, rfl, h1, h3⟩ := h
  exact ⟨va, vc, rfl, h1.below hb, own_below h3 hb⟩
theorem OwnS.rowS9 {w : World} {b k : Nat} {v : Value} {s : SchemaD} (c : Array Value) (h : OwnS b w v s) (hk : k < b) : OwnS b (w.setRow k c) v s := by
  obtain ⟨va, vc, rfl, h1, h2⟩ := h
  exact ⟨va, vc, rfl, h1.setRow k c hk, own_setRow h2 k c hk⟩
theorem OwnS.baseS9 {w : World} {b b' : Nat} {v : Value} {s : SchemaD} (h : OwnS b w v s) (hb : b' ≤ b) : OwnS b' w v s := by
  obtain ⟨va, vc, rfl, h1, h2⟩ := h
  exact ⟨va, vc, rfl, h1.base hb, own_base h2 hb⟩
theorem tinyA.ok9 {a : AttrD} (t : tinyA a) : okA a := ⟨by have := t.name; omega, by have := t.cuts; omega, by have := t.vals; omega, fun s hs => by have := t.each s hs; omega⟩
theorem tinyS.ok9 {d : SchemaD} (h : tinyS d) : okSch d :=
  ⟨by have := h.attrs; omega, fun a ha => (h.each a ha).ok9, by have := h.classes; omega, fun s hs => by have := h.sizes s hs; omega⟩
end Go.Proofs.YtfflodcapcamcaaDoor
/- In a region that draws its order: what may be taken first, what comes next. -/
namespace Go.Proofs.YtfflodcapcamcaaDoor
open Go.RowKit
set_option maxRecDepth 100000

section
variable {Pr : Program} {ops : Array Oper} {Q : Exit → Act → World → Prop} {md : Region.Mode} {S : World → Prop}
/-- An operation that may come up now is taken first; it is read off the list, so that it stands written out. -/
theorem takeL (i : Nat) {oi : Oper} (v : Value) {fuel : Nat} {listed : Array Bool} {a : Act} {w : World} (hi : ops.toList[i]? = some oi)
    (hs : Region.noSelect ops = true) (hf : Region.free md ops listed i = true) (hr : (Region.ready md ops listed).contains i = true)
    (hQ : ∀ c a w, Q (.panic c) (a.put oi.dst v) w → Q (.panic c) a w) (hy : YieldsIf Pr ops S oi v a) (hS : S w)
    (h : wpAnyH Pr md ops Q S fuel (listed.setIfInBounds i true) (a.put oi.dst v) w) : wpAnyH Pr md ops Q S (fuel + 1) listed a w :=
  wpAnyH_take (by simpa using hi) hs hf hr hQ hy hS h
/-- The one operation that may come up now. -/
theorem nextL (i : Nat) {oi : Oper} {fuel : Nat} {listed : Array Bool} {a : Act} {w : World} (hi : ops.toList[i]? = some oi) (hr : Region.ready md ops listed = [i])
    (hw : Region.wanted oi (yielded ops a.tmps) = true)
    (h : ∀ K' : Act → World → Prop, (∀ a w, S w → (S w → wpAnyH Pr md ops Q S fuel (listed.setIfInBounds i true) a w) → K' a w) → Oper.wp Pr oi a w K' Q) : wpAnyH Pr md ops Q S (fuel + 1) listed a w := by
  refine wpAnyH_ready hr (by simp) (AllReadyH.cons (o := oi) (by simpa using hi) (fun K hK => ?_) AllReadyH.nil)
  rw [if_pos hw]
  exact h K hK.out
/-- Two may come up now, in either order. -/
theorem next2L (i j : Nat) {oi oj : Oper} {fuel : Nat} {listed : Array Bool} {a : Act} {w : World} (hi : ops.toList[i]? = some oi) (hj : ops.toList[j]? = some oj) (hr : Region.ready md ops listed = [i, j])
    (hw : Region.wanted oi (yielded ops a.tmps) = true) (hw2 : Region.wanted oj (yielded ops a.tmps) = true)
    (h : ∀ K' : Act → World → Prop, (∀ a w, S w → (S w → wpAnyH Pr md ops Q S fuel (listed.setIfInBounds i true) a w) → K' a w) → Oper.wp Pr oi a w K' Q)
    (h2 : ∀ K' : Act → World → Prop, (∀ a w, S w → (S w → wpAnyH Pr md ops Q S fuel (listed.setIfInBounds j true) a w) → K' a w) → Oper.wp Pr oj a w K' Q) : wpAnyH Pr md ops Q S (fuel + 1) listed a w := by
  refine wpAnyH_ready hr (by simp) (AllReadyH.cons (o := oi) (by simpa using hi) (fun K hK => ?_) (AllReadyH.cons (o := oj) (by simpa using hj) (fun K hK => ?_) AllReadyH.nil))
  · rw [if_pos hw]
    exact h K hK.out
  · rw [if_pos hw2]
    exact h2 K hK.out
end

section
variable {ops : Array Oper} {S : World → Prop} {op : Oper} {a : Act}
/-- The load of one integer. -/
theorem yields_int (hw : Region.wanted op (yielded ops a.tmps) = true) (x : Operand) (ho : op.op = .load 3 x) (p : Addr) (hx : a.eval x = .pointer (some p)) (n : Int)
    (hS : ∀ w, S w → w.cell? p = some (.int .i64 n)) : YieldsIf Tryd.prog ops S op (.int .i64 n) a :=
  .inl ⟨hw, fun w hw' => by
    have h := hS w hw'
    unfold execOp
    simp only [ho, hx]
    go_simp⟩
/-- A quotient. -/
theorem yields_quo (hw : Region.wanted op (yielded ops a.tmps) = true) (x y : Operand) (ho : op.op = .binOp .quo 3 x y 3) (m n : Int) (hx : a.eval x = .int .i64 m) (hy : a.eval y = .int .i64 n)
    (h0 : 0 ≤ m) (h1 : m ≤ 9223372036854775807) (h2 : 0 < n) : YieldsIf Tryd.prog ops S op (.int .i64 (m / n)) a :=
  .inl ⟨hw, fun w hw' => by
    have hle : m / n ≤ m := Int.ediv_le_self _ h0
    have hge : 0 ≤ m / n := Int.ediv_nonneg h0 (by omega)
    unfold execOp
    simp only [ho, hx, hy]
    go_simp
    have e : IntKind.i64.wrap (m.tdiv n) = m / n := by rw [IntKind.wrap_i64, Int.tdiv_eq_ediv_of_nonneg h0]; omega
    rw [if_neg (by omega), e]⟩
/-- Two texts, one behind the other. -/
theorem yields_cat (hw : Region.wanted op (yielded ops a.tmps) = true) (x y : Operand) (ho : op.op = .binOp .add 9 x y 9) (s t : ByteArray) (hx : a.eval x = .string s) (hy : a.eval y = .string t)
    (h : s.size + t.size ≤ 1000000) : YieldsIf Tryd.prog ops S op (.string (s ++ t)) a :=
  .inl ⟨hw, fun w hw' => by
    unfold execOp
    simp only [ho, hx, hy]
    go_simp
    omega⟩
end
end Go.Proofs.YtfflodcapcamcaaDoor
/- In a region that draws its order: the load of a whole struct. -/
namespace Go.Proofs.YtfflodcapcamcaaDoor
open Go.RowKit
set_option maxRecDepth 100000

theorem yields_row {ops : Array Oper} {S : World → Prop} {op : Oper} {a : Act} {T : TypeId} {d : Array Field} {cs : Array Value} (hu : Tryd.prog.underlying T = some (.struct d))
    (hi : (Tryd.prog.info? T).map (·.size) = some cs.size) (hw : Region.wanted op (yielded ops a.tmps) = true) (x : Operand) (ho : op.op = .load T x)
    (g : Nat) (hx : a.eval x = .pointer (some ⟨g, 0, none⟩)) (hS : ∀ w, S w → Blk T w g cs) : YieldsIf Tryd.prog ops S op (.agg cs) a :=
  .inl ⟨hw, fun w hw' => by
    unfold execOp
    simp only [ho, hx, Instr.loadAt, Instr.sureAddr, Sem.run_bind, Sem.run_pure, Result.andThen_ok, run_loadVar_row w g _ T _ _ _ (hS w hw') hu rfl hi]⟩
end Go.Proofs.YtfflodcapcamcaaDoor
