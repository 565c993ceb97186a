/- Texts of this claim, put together: part 7. -/
import Derived.Test.YteadkdllmeeocabMeritPack6
import Derived.Test.YteadkdllmeeocabMeritPack5
import Derived.Test.YteadkdllmeeocabMeritPack3
import Derived.Test.YteadkdllmeeocabMeritPack4
import Derived.Test.YteadkdllmeeocabMeritPack2
import Derived.ChangeSame
/- A copy of a schema that came in, by the laws' own helpers: no two of its lists share memory. -/
namespace Go.Proofs.Yteadkdllmeeocab
open Go.RowKit
set_option maxRecDepth 100000
/-- The first k attributes of a row of the call's own are these; their lists lie behind the row, one behind the other. -/
structure DoneL (w : World) (b : Nat) (ys : List Value) (L : Nat → Value × Value) (ls : List AttrD) (k : Nat) : Prop where
  cells : ∀ j, j < k → ys[j * 3]? = some (.string (ad ls j).name) ∧ ys[j * 3 + 1]? = some (L j).1 ∧ ys[j * 3 + 2]? = some (L j).2
  ints : ∀ j, j < k → w.ownsRow b 3 1 (L j).1 (ad ls j).cuts.length ((ad ls j).cuts.map (Value.int .i64))
  strs : ∀ j, j < k → w.ownsRow b 9 1 (L j).2 (ad ls j).vals.length ((ad ls j).vals.map Value.string)
  ord1 : ∀ i j a b, i < j → j < k → (L i).1.ownBlock = some a → (L j).1.ownBlock = some b → a < b
  ord2 : ∀ i j a b, i < j → j < k → (L i).2.ownBlock = some a → (L j).2.ownBlock = some b → a < b
theorem DoneL.start (w : World) (b : Nat) (ys : List Value) (L : Nat → Value × Value) (ls : List AttrD) : DoneL w b ys L ls 0 :=
  ⟨fun j hj => by omega, fun j hj => by omega, fun j hj => by omega, fun _ _ _ _ _ h => by omega, fun _ _ _ _ _ h => by omega⟩
theorem DoneL.below {w w' : World} {b : Nat} {ys : List Value} {L : Nat → Value × Value} {ls : List AttrD} {k : Nat} (h : DoneL w b ys L ls k) (hb : Below w.heap.size w w') : DoneL w' b ys L ls k :=
  ⟨h.cells, fun j hj => own_below (h.ints j hj) hb, fun j hj => own_below (h.strs j hj) hb, h.ord1, h.ord2⟩
theorem DoneL.lt {w : World} {b : Nat} {ys : List Value} {L : Nat → Value × Value} {ls : List AttrD} {k : Nat} (h : DoneL w b ys L ls k) : ∀ j, j < k → (∀ a, (L j).1.ownBlock = some a → a < w.heap.size) ∧ ∀ a, (L j).2.ownBlock = some a → a < w.heap.size :=
  fun j hj => ⟨fun a ha => ((h.ints j hj).lt a ha).2, fun a ha => ((h.strs j hj).lt a ha).2⟩
theorem DoneL.sep {w : World} {g n : Nat} {ys : List Value} {L : Nat → Value × Value} {ls : List AttrD} {v : Value} (h : DoneL w (g + 1) ys L ls n) (ho : w.ownsRow g 79 3 v n ys) : SepL g w v L ys ls n :=
  ⟨ho, h.cells, fun j hj => own_base (h.ints j hj) (by omega), fun j hj => own_base (h.strs j hj) (by omega), h.ord1, h.ord2⟩
theorem DoneL.stored {w : World} {g k B : Nat} {ys : List Value} {L : Nat → Value × Value} {ls : List AttrD} {x y z : Value} (h : DoneL w (g + 1) ys L ls k) (hl : k * 3 + 2 < ys.length) (hx : x = .string (ad ls k).name)
    (hlt : ∀ j, j < k → (∀ a, (L j).1.ownBlock = some a → a < B) ∧ ∀ a, (L j).2.ownBlock = some a → a < B)
    (hy : w.ownsRow B 3 1 y (ad ls k).cuts.length ((ad ls k).cuts.map (Value.int .i64))) (hz : w.ownsRow B 9 1 z (ad ls k).vals.length ((ad ls k).vals.map Value.string)) (hB : g + 1 ≤ B) :
    DoneL (((w.setCell ⟨g, k * 3, none⟩ x).setCell ⟨g, k * 3 + 1, none⟩ y).setCell ⟨g, k * 3 + 2, none⟩ z) (g + 1) (((ys.set (k * 3) x).set (k * 3 + 1) y).set (k * 3 + 2) z) (fun j => if j = k then (y, z) else L j) ls (k + 1) := by
  have key : ∀ {e n : Nat} {v : Value} {xs : List Value}, w.ownsRow (g + 1) e 1 v n xs → (((w.setCell ⟨g, k * 3, none⟩ x).setCell ⟨g, k * 3 + 1, none⟩ y).setCell ⟨g, k * 3 + 2, none⟩ z).ownsRow (g + 1) e 1 v n xs := fun h =>
    own_setCell (own_setCell (own_setCell h _ _ (by simp)) _ _ (by simp)) _ _ (by simp)
  refine ⟨fun j hj => ?_, fun j hj => ?_, fun j hj => ?_, fun i j a b hij hj ha hb => ?_, fun i j a b hij hj ha hb => ?_⟩
  · by_cases e : j = k
    · subst e
      refine ⟨?_, ?_, ?_⟩
      · rw [List.getElem?_set_ne (by omega), List.getElem?_set_ne (by omega), List.getElem?_set_self (by omega), hx]
      · rw [List.getElem?_set_ne (by omega), List.getElem?_set_self (by simp; omega), if_pos rfl]
      · rw [List.getElem?_set_self (by simp; omega), if_pos rfl]
    · obtain ⟨h0, h1, h2⟩ := h.cells j (by omega)
      rw [if_neg e]
      refine ⟨?_, ?_, ?_⟩
      · rw [List.getElem?_set_ne (by omega), List.getElem?_set_ne (by omega), List.getElem?_set_ne (by omega), h0]
      · rw [List.getElem?_set_ne (by omega), List.getElem?_set_ne (by omega), List.getElem?_set_ne (by omega), h1]
      · rw [List.getElem?_set_ne (by omega), List.getElem?_set_ne (by omega), List.getElem?_set_ne (by omega), h2]
  · by_cases e : j = k
    · subst e; rw [if_pos rfl]; exact key (own_base hy hB)
    · rw [if_neg e]; exact key (h.ints j (by omega))
  · by_cases e : j = k
    · subst e; rw [if_pos rfl]; exact key (own_base hz hB)
    · rw [if_neg e]; exact key (h.strs j (by omega))
  · rw [if_neg (by omega)] at ha
    by_cases e : j = k
    · rw [if_pos e] at hb
      have h1 := (hlt i (by omega)).1 a ha
      have h2 := (hy.lt b hb).1
      omega
    · rw [if_neg e] at hb
      exact h.ord1 i j a b hij (by omega) ha hb
  · rw [if_neg (by omega)] at ha
    by_cases e : j = k
    · rw [if_pos e] at hb
      have h1 := (hlt i (by omega)).2 a ha
      have h2 := (hz.lt b hb).1
      omega
    · rw [if_neg e] at hb
      exact h.ord2 i j a b hij (by omega) ha hb
/-- A schema of the call's own, no two lists of one kind in one block. -/
def OwnSp (base : Nat) (w : World) (v : Value) (s : SchemaD) : Prop :=
  ∃ va vc L ys, v = .agg #[va, vc] ∧ SepL base w va L ys s.attrs s.attrs.length ∧ w.ownsRow base 9 1 vc s.classes.length (s.classes.map Value.string) ∧
    ∀ j c b, j < s.attrs.length → vc.ownBlock = some c → (L j).2.ownBlock = some b → c ≠ b
theorem OwnSp.own {base : Nat} {w : World} {v : Value} {s : SchemaD} (h : OwnSp base w v s) : OwnS base w v s := by
  obtain ⟨va, vc, L, ys, rfl, h1, h2, _⟩ := h
  exact ⟨va, vc, rfl, h1.own, h2⟩
set_option maxHeartbeats 1600000 in
theorem toAttrS_sep (v : Value) (ls : List AttrD) (w : World) (h : RowA w v ls) (hn : ls.length ≤ 1048576) (hf : ∀ a ∈ ls, fitA a) :
    Calls Try.prog 35 #[v] w fun e w' => ∃ g, e = .returned (.slice (some ⟨g, 0, none⟩) ls.length ls.length) ∧ (∃ L ys, SepL w.heap.size w' (.slice (some ⟨g, 0, none⟩) ls.length ls.length) L ys ls ls.length) ∧ Below w.heap.size w w' := by
  obtain ⟨i0, hi, hz0, hz1, hz2⟩ := info_parts atInfo
  obtain ⟨oa, cap, rfl, hc, hr⟩ := h
  have HR : Hid (0 < ls.length → ∃ g o, oa = some ⟨g, o, none⟩ ∧ g < w.heap.size ∧ ∀ j, j < ls.length → CellsA w g (o + j * 3) (ad ls j)) := hr
  have HF : Hid (∀ a ∈ ls, fitA a) := hf
  clear hr hf
  go_enter Try.func35, Try.ntmps35
  go_wp2_with (at_make; refine wpList_make_full _ rfl _ _ 43 rfl w.heap.size 79 i0 (.agg #[.string ⟨#[]⟩, .slice none 0 0, .slice none 0 0]) 3 Try.underlying43 hi hz0 hz1 .i64 .i64 _ _ ls.length rfl rfl rfl rfl ?c1 ?c2 ?c3 ?_)
  case c1 => rw [hz2]; omega
  case c2 => unfold maxLen; omega
  case c3 => omega
  intro w1 ho1 hg1
  have hb1 : Below w.heap.size w w1 := (Below.refl _ _).grown hg1 (Nat.le_refl _) (by intro k hk; cases hk)
  clear hg1
  go_wp2
  go_loopw [4] (fun i wr => ∃ (k : Nat) (ys : List Value) (L : Nat → Value × Value), i = .int .i64 k ∧ k ≤ ls.length ∧ wr.ownsRow w.heap.size 79 3 (.slice (some ⟨w.heap.size, 0, none⟩) ls.length ls.length) ls.length ys ∧ DoneL wr (w.heap.size + 1) ys L ls k ∧ Below w.heap.size w wr) (fun i _ => ls.length - (intOf i).toNat)
  case atStart => exact ⟨0, _, fun _ => (.slice none 0 0, .slice none 0 0), rfl, by omega, ho1, DoneL.start _ _ _ _ _, hb1⟩
  case round =>
    obtain ⟨k, ys, L, rfl, hk, hown, hys, hbr⟩ := hrel
    clear ho1 hb1
    have HOW : Hid (wr.ownsRow w.heap.size 79 3 (.slice (some ⟨w.heap.size, 0, none⟩) ls.length ls.length) ls.length ys) := hown
    have HD : Hid (DoneL wr (w.heap.size + 1) ys L ls k) := hys
    clear hown hys
    by_cases hlt : k < ls.length
    · obtain ⟨b, o, rfl, hb, hj⟩ := HR.out (by omega)
      obtain ⟨vc, vv, q0, q1, q2, r1, r2⟩ := (hj k hlt).later hbr hb
      obtain ⟨o1, c1, rfl, -, -⟩ := id r1
      obtain ⟨o2, c2, rfl, -, -⟩ := id r2
      have hfk := HF.out _ (ad_mem hlt)
      have c := toAttr_row _ (ad ls k) wr ⟨_, _, rfl, r1, r2⟩ hfk.cuts hfk.vals
      clear hj r1 r2 hfk
      go_wp2_with fail
      refine c.mono ?_
      rintro e w2 ⟨v', rfl, hoa, hb2⟩
      clear c q0 q1 q2
      have hgl : w.heap.size < wr.heap.size := (HOW.out.lt w.heap.size rfl).2
      obtain ⟨yc, yv, rfl, hyc, hyv⟩ := hoa
      obtain ⟨o3, c3, rfl, -, -⟩ := RowI.of_own hyc rfl
      obtain ⟨o4, c4, rfl, -, -⟩ := RowS.of_own hyv rfl
      have hown := own_below HOW.out hb2
      have hdone := HD.out.below hb2
      have hbw := hbr.trans (hb2.mono hbr.size)
      have hlen : ys.length = ls.length * 3 := hown.1
      have hc0 : ∃ u, w2.cell? ⟨w.heap.size, k * 3, none⟩ = some u := ⟨ys[k * 3]'(by omega), by rw [hown.cellAt (k * 3) (by omega)]; exact List.getElem?_eq_getElem _⟩
      have hc1 : ∃ u, w2.cell? ⟨w.heap.size, k * 3 + 1, none⟩ = some u := ⟨ys[k * 3 + 1]'(by omega), by rw [hown.cellAt (k * 3 + 1) (by omega)]; exact List.getElem?_eq_getElem _⟩
      have hc2 : ∃ u, w2.cell? ⟨w.heap.size, k * 3 + 2, none⟩ = some u := ⟨ys[k * 3 + 2]'(by omega), by rw [hown.cellAt (k * 3 + 2) (by omega)]; exact List.getElem?_eq_getElem _⟩
      obtain ⟨u0, hc0⟩ := hc0
      obtain ⟨u1, hc1⟩ := hc1
      obtain ⟨u2, hc2⟩ := hc2
      have hf0 : w2.frozen? ⟨w.heap.size, k * 3, none⟩ = false := hown.frozenAt _
      have hf1 : w2.frozen? ⟨w.heap.size, k * 3 + 1, none⟩ = false := hown.frozenAt _
      have hf2 : w2.frozen? ⟨w.heap.size, k * 3 + 2, none⟩ = false := hown.frozenAt _
      have DS := hdone.stored (x := .string (ad ls k).name) (by omega) rfl HD.out.lt hyc hyv (by omega)
      have OS := (((hown.stored (k * 3) (.string (ad ls k).name)).1.stored (k * 3 + 1) (.slice o3 (ad ls k).cuts.length c3)).1.stored (k * 3 + 2) (.slice o4 (ad ls k).vals.length c4)).1
      have BS : Below w.heap.size w (((w2.setCell ⟨w.heap.size, k * 3, none⟩ (.string (ad ls k).name)).setCell ⟨w.heap.size, k * 3 + 1, none⟩ (.slice o3 (ad ls k).cuts.length c3)).setCell ⟨w.heap.size, k * 3 + 2, none⟩ (.slice o4 (ad ls k).vals.length c4)) :=
        ((hbw.setCell (p := ⟨w.heap.size, k * 3, none⟩) (Nat.le_refl _) _).setCell (p := ⟨w.heap.size, k * 3 + 1, none⟩) (Nat.le_refl _) _).setCell (p := ⟨w.heap.size, k * 3 + 2, none⟩) (Nat.le_refl _) _
      have HX : Hid ((((w2.setCell ⟨w.heap.size, k * 3, none⟩ (.string (ad ls k).name)).setCell ⟨w.heap.size, k * 3 + 1, none⟩ (.slice o3 (ad ls k).cuts.length c3)).setCell ⟨w.heap.size, k * 3 + 2, none⟩ (.slice o4 (ad ls k).vals.length c4)).ownsRow w.heap.size 79 3 (.slice (some ⟨w.heap.size, 0, none⟩) ls.length ls.length) ls.length (((ys.set (k * 3) (.string (ad ls k).name)).set (k * 3 + 1) (.slice o3 (ad ls k).cuts.length c3)).set (k * 3 + 2) (.slice o4 (ad ls k).vals.length c4)) ∧
        DoneL (((w2.setCell ⟨w.heap.size, k * 3, none⟩ (.string (ad ls k).name)).setCell ⟨w.heap.size, k * 3 + 1, none⟩ (.slice o3 (ad ls k).cuts.length c3)).setCell ⟨w.heap.size, k * 3 + 2, none⟩ (.slice o4 (ad ls k).vals.length c4)) (w.heap.size + 1) (((ys.set (k * 3) (.string (ad ls k).name)).set (k * 3 + 1) (.slice o3 (ad ls k).cuts.length c3)).set (k * 3 + 2) (.slice o4 (ad ls k).vals.length c4)) (fun j => if j = k then (.slice o3 (ad ls k).cuts.length c3, .slice o4 (ad ls k).vals.length c4) else L j) ls (k + 1) ∧
        Below w.heap.size w (((w2.setCell ⟨w.heap.size, k * 3, none⟩ (.string (ad ls k).name)).setCell ⟨w.heap.size, k * 3 + 1, none⟩ (.slice o3 (ad ls k).cuts.length c3)).setCell ⟨w.heap.size, k * 3 + 2, none⟩ (.slice o4 (ad ls k).vals.length c4))) := ⟨OS, DS, BS⟩
      clear DS OS BS hown hdone hbw hyc hyv hb2 hbr HOW HD
      go_wp2
      go_roundw
      case rel => exact ⟨k + 1, _, _, by go_num, by omega, HX.out.1, HX.out.2.1, HX.out.2.2⟩
      case measure => simp [intOf]; omega
    · obtain rfl : k = ls.length := by omega
      go_wp2
      go_ret
      exact ⟨_, rfl, ⟨L, ys, HD.out.sep HOW.out⟩, hbr⟩

set_option maxHeartbeats 800000 in
theorem toSchema_sep (v : Value) (a : SchemaD) (w : World) (h : SchemaAt w v a) (hf : fitS a) :
    Calls Try.prog 16 #[v] w fun e w' => ∃ v', e = .returned v' ∧ OwnSp w.heap.size w' v' a ∧ Below w.heap.size w w' := by
  obtain ⟨vc, vv, rfl, hc, hv⟩ := h
  have HC : Hid (RowA w vc a.attrs) := hc
  have HV : Hid (RowS w vv a.classes) := hv
  clear hc hv
  go_enter Try.func16, Try.ntmps16
  go_wp2_with fail
  obtain ⟨K1, K2, K3, B0⟩ := blk_3 34 45 45 w #[vc, vv] #[.slice none 0 0, .slice none 0 0] #[.slice none 0 0, .slice none 0 0]
  refine (toAttrS_sep vc a.attrs _ (HC.out.later B0) hf.attrs hf.each).mono ?_
  rintro e w1 ⟨g1, rfl, ⟨L, ys, ho1⟩, hb1⟩
  have HLB : Hid (∀ j, j < a.attrs.length → ∀ b, (L j).2.ownBlock = some b → b < w1.heap.size) := fun j hj b hb => ((ho1.strs j hj).lt b hb).2
  replace K1 := K1.below hb1
  replace K2 := K2.below hb1
  replace K3 := K3.below hb1
  have hsz := hb1.size
  simp at hsz
  have ho1 := ho1.base (b' := w.heap.size + 3) (by simp)
  have B1 : Below w.heap.size w w1 := B0.trans (hb1.mono (by simp; omega))
  clear hb1 B0
  generalize hV1 : Value.slice (some ⟨g1, 0, none⟩) a.attrs.length a.attrs.length = V1 at ho1
  have HV1 : Hid (Value.slice (some ⟨g1, 0, none⟩) a.attrs.length a.attrs.length = V1) := hV1
  have c3 : w1.cell? ⟨w.heap.size + 1 + 1, 0, none⟩ = some (.slice none 0 0) := K3.cell 0
  have f3 := K3.frozen 0
  have S1 := K1.setCell_other ⟨w.heap.size + 1 + 1, 0, none⟩ V1 (by simp; omega)
  have S2 := K2.setCell_other ⟨w.heap.size + 1 + 1, 0, none⟩ V1 (by simp)
  have S3 := K3.setCell 0 V1
  have B2 : Below w.heap.size w (w1.setCell ⟨w.heap.size + 1 + 1, 0, none⟩ V1) := B1.setCell (p := ⟨w.heap.size + 1 + 1, 0, none⟩) (by simp; omega) _
  have hsz2 : (w1.setCell ⟨w.heap.size + 1 + 1, 0, none⟩ V1).heap.size = w1.heap.size := by simp [World.setCell]
  have O1 := ho1.setCell ⟨w.heap.size + 1 + 1, 0, none⟩ V1 (by simp)
  have cS : (w1.setCell ⟨w.heap.size + 1 + 1, 0, none⟩ V1).cell? ⟨w.heap.size, 1, none⟩ = some vv := S1.cell 1
  subst hV1
  have HO1 : Hid (SepL (w.heap.size + 3) (w1.setCell ⟨w.heap.size + 1 + 1, 0, none⟩ (.slice (some ⟨g1, 0, none⟩) a.attrs.length a.attrs.length)) (.slice (some ⟨g1, 0, none⟩) a.attrs.length a.attrs.length) L ys a.attrs a.attrs.length) := O1
  have HS : Hid (Blk 45 (w1.setCell ⟨w.heap.size + 1 + 1, 0, none⟩ (.slice (some ⟨g1, 0, none⟩) a.attrs.length a.attrs.length)) (w.heap.size + 1) #[.slice none 0 0, .slice none 0 0] ∧ Blk 45 (w1.setCell ⟨w.heap.size + 1 + 1, 0, none⟩ (.slice (some ⟨g1, 0, none⟩) a.attrs.length a.attrs.length)) (w.heap.size + 1 + 1) #[(.slice (some ⟨g1, 0, none⟩) a.attrs.length a.attrs.length), .slice none 0 0] ∧ Below w.heap.size w (w1.setCell ⟨w.heap.size + 1 + 1, 0, none⟩ (.slice (some ⟨g1, 0, none⟩) a.attrs.length a.attrs.length))) := ⟨S2, S3, B2⟩
  clear K1 K2 K3 S1 S2 S3 B2 O1 ho1 B1 HV1
  go_wp2_with fail
  clear c3 f3
  refine (toS_row vv a.classes _ (HV.out.later HS.out.2.2) hf.classes).mono ?_
  rintro e w2 ⟨g2, rfl, ho2, hb2⟩
  have O1 := HO1.out.below hb2
  obtain ⟨S2, S3, B2⟩ := HS.out
  replace S2 := S2.below hb2
  replace S3 := S3.below hb2
  have B3 := B2.trans (hb2.mono B2.size)
  have hsz3 := hb2.size
  have HO2B : Hid (∀ b, (Value.slice (some ⟨g2, 0, none⟩) a.classes.length a.classes.length).ownBlock = some b → w1.heap.size ≤ b) := fun b hb => by have := (ho2.lt b hb).1; rw [hsz2] at this; exact this
  have ho2 := own_base ho2 (b' := w.heap.size + 3) (by omega)
  clear HS HO1 HC HV hb2 B2
  have c3 : w2.cell? ⟨w.heap.size + 1 + 1, 1, none⟩ = some (.slice none 0 0) := S3.cell 1
  have f3 := S3.frozen 1
  have T2 := S2.setCell_other ⟨w.heap.size + 1 + 1, 1, none⟩ (.slice (some ⟨g2, 0, none⟩) a.classes.length a.classes.length) (by simp)
  have T3 := S3.setCell 1 (.slice (some ⟨g2, 0, none⟩) a.classes.length a.classes.length)
  have B4 : Below w.heap.size w (w2.setCell ⟨w.heap.size + 1 + 1, 1, none⟩ (.slice (some ⟨g2, 0, none⟩) a.classes.length a.classes.length)) := B3.setCell (p := ⟨w.heap.size + 1 + 1, 1, none⟩) (by simp; omega) _
  have O1 := O1.setCell ⟨w.heap.size + 1 + 1, 1, none⟩ (.slice (some ⟨g2, 0, none⟩) a.classes.length a.classes.length) (by simp)
  have O2 := own_setCell ho2 ⟨w.heap.size + 1 + 1, 1, none⟩ (.slice (some ⟨g2, 0, none⟩) a.classes.length a.classes.length) (by simp)
  have HT : Hid (Below w.heap.size w (w2.setCell ⟨w.heap.size + 1 + 1, 1, none⟩ (.slice (some ⟨g2, 0, none⟩) a.classes.length a.classes.length)) ∧ SepL (w.heap.size + 3) (w2.setCell ⟨w.heap.size + 1 + 1, 1, none⟩ (.slice (some ⟨g2, 0, none⟩) a.classes.length a.classes.length)) (.slice (some ⟨g1, 0, none⟩) a.attrs.length a.attrs.length) L ys a.attrs a.attrs.length ∧ (w2.setCell ⟨w.heap.size + 1 + 1, 1, none⟩ (.slice (some ⟨g2, 0, none⟩) a.classes.length a.classes.length)).ownsRow (w.heap.size + 3) 9 1 (.slice (some ⟨g2, 0, none⟩) a.classes.length a.classes.length) a.classes.length (a.classes.map Value.string)) := ⟨B4, O1, O2⟩
  have HT2 : Hid (Blk 45 (w2.setCell ⟨w.heap.size + 1 + 1, 1, none⟩ (.slice (some ⟨g2, 0, none⟩) a.classes.length a.classes.length)) (w.heap.size + 1) #[.slice none 0 0, .slice none 0 0] ∧ Blk 45 (w2.setCell ⟨w.heap.size + 1 + 1, 1, none⟩ (.slice (some ⟨g2, 0, none⟩) a.classes.length a.classes.length)) (w.heap.size + 1 + 1) #[(.slice (some ⟨g1, 0, none⟩) a.attrs.length a.attrs.length), (.slice (some ⟨g2, 0, none⟩) a.classes.length a.classes.length)]) := ⟨T2, T3⟩
  clear S2 S3 T2 T3 B4 O1 O2 ho2 B3
  go_wp2_with (first | (with_reducible refine wp_sc_load rfl _ rfl ?_; refine ⟨_, rfl, _, _, HT2.out.2, ?_⟩) | (with_reducible refine wp_sc_store rfl _ _ rfl ?_; refine ⟨_, rfl, _, _, _, _, _, _, rfl, _, _, HT2.out.1, ?_⟩))
  refine bodyPost_ret (res_sc Try.results16 _ _ _ _ _ rfl (HT2.out.1.setRow _)) rfl ⟨_, rfl, ⟨_, _, L, ys, rfl, ?_, ?_, fun j c b hj hc hb => ?_⟩, ?_⟩
  · exact (HT.out.2.1.setRow _ _ (by omega)).base (by omega)
  · exact own_base (own_setRow HT.out.2.2 _ _ (by omega)) (by omega)
  · have h1 := HO2B.out c hc
    have h2 := HLB.out j hj b hb
    omega
  · exact below_row HT.out.1 (by omega) _
end Go.Proofs.Yteadkdllmeeocab
/- How many bins an attribute has, in plain words. -/
namespace Go.Proofs.Yteadkdllmeeocab
def bins (a : AttrD) : Int := if attrOk a = true then (if a.vals.length = 0 then (a.cuts.length : Int) + 1 else a.vals.length) else 0
theorem ok_kind {a : AttrD} (h : attrOk a = true) : (a.vals.length = 0 ↔ a.cuts.length ≠ 0) := by
  unfold attrOk at h
  rw [Bool.and_eq_true] at h
  have h2 := h.2
  by_cases h0 : a.cuts.length = 0
  · rw [if_pos h0] at h2
    unfold choices at h2
    rw [Bool.and_eq_true] at h2
    have := of_decide_eq_true h2.1
    omega
  · rw [if_neg h0, Bool.and_eq_true] at h2
    have := of_decide_eq_true h2.1
    omega

end Go.Proofs.Yteadkdllmeeocab
/- Chapter 9 in plain words: questions. -/
namespace Go.Proofs.Yteadkdllmeeocab
open Go.RowKit
set_option maxRecDepth 100000
structure ForkD where
  attr : Int
  pos : Int
def forkV (f : ForkD) : Value := .agg #[.int .i64 f.attr, .int .i64 f.pos]
def forkAttr (s : SchemaD) (f : ForkD) : AttrD := ad s.attrs f.attr.toNat
def forkTop (s : SchemaD) (f : ForkD) : Int := if 0 < (forkAttr s f).cuts.length then bins (forkAttr s f) - 2 else bins (forkAttr s f) - 1
def forkOk (s : SchemaD) (f : ForkD) : Bool := schemaOk s && (decide (0 ≤ f.attr ∧ f.attr ≤ (s.attrs.length : Int) - 1) && decide (-1 ≤ f.pos ∧ f.pos ≤ forkTop s f))
def branches (s : SchemaD) (f : ForkD) : Int := if forkOk s f = true then (if f.pos = -1 then bins (forkAttr s f) else 2) else 0
def branchOf (s : SchemaD) (f : ForkD) (b : Int) : Int :=
  if forkOk s f = true ∧ 0 ≤ b ∧ b ≤ bins (forkAttr s f) - 1 then
    (if f.pos = -1 then b else if 0 < (forkAttr s f).cuts.length then (if f.pos < b then 1 else 0) else (if b = f.pos then 0 else 1))
  else -1
theorem fork_parts {s : SchemaD} {f : ForkD} (h : forkOk s f = true) : schemaOk s = true ∧ (∃ k : Nat, f.attr = (k : Int) ∧ k < s.attrs.length ∧ forkAttr s f = ad s.attrs k) ∧ -1 ≤ f.pos ∧ f.pos ≤ forkTop s f := by
  unfold forkOk at h
  rw [Bool.and_eq_true, Bool.and_eq_true, decide_eq_true_eq, decide_eq_true_eq] at h
  obtain ⟨h1, h2, h3⟩ := h
  obtain ⟨k, hk⟩ := Int.eq_ofNat_of_zero_le h2.1
  exact ⟨h1, ⟨k, hk, by omega, by unfold forkAttr; rw [hk]; rfl⟩, h3.1, h3.2⟩
/-- The cells of one attribute of a schema that came in, in every later world. -/
theorem attr_at {w : World} {oa : Option Addr} {ka : Nat} {vc : Value} {s : SchemaD} (h : SchemaAt w (.agg #[.slice oa s.attrs.length ka, vc]) s) {k : Nat} (hk : k < s.attrs.length) :
    ∃ ga fa y1 z1 y2 z2, oa = some ⟨ga, fa, none⟩ ∧ ∀ W, Below w.heap.size w W → W.cell? ⟨ga, fa + k * 3, none⟩ = some (.string (ad s.attrs k).name) ∧ W.cell? ⟨ga, fa + k * 3 + 1, none⟩ = some (.slice y1 (ad s.attrs k).cuts.length z1) ∧
      W.cell? ⟨ga, fa + k * 3 + 2, none⟩ = some (.slice y2 (ad s.attrs k).vals.length z2) ∧ AttrAt W (.agg #[.string (ad s.attrs k).name, .slice y1 (ad s.attrs k).cuts.length z1, .slice y2 (ad s.attrs k).vals.length z2]) (ad s.attrs k) := by
  obtain ⟨va', vc', e', rA, -⟩ := h
  cases e'
  obtain ⟨oa', ka', e', -, hrA⟩ := rA
  cases e'
  obtain ⟨ga, fa, rfl, hga, hjA⟩ := hrA (by omega)
  obtain ⟨x1, x2, c0, c1, c2, r1, r2⟩ := hjA k hk
  obtain ⟨y1, z1, rfl, -, -⟩ := id r1
  obtain ⟨y2, z2, rfl, -, -⟩ := id r2
  exact ⟨ga, fa, y1, z1, y2, z2, rfl, fun W hb => ⟨(hb.cell (p := ⟨ga, fa + k * 3, none⟩) hga).trans c0, (hb.cell (p := ⟨ga, fa + k * 3 + 1, none⟩) hga).trans c1, (hb.cell (p := ⟨ga, fa + k * 3 + 2, none⟩) hga).trans c2, _, _, rfl, r1.later hb, r2.later hb⟩⟩
end Go.Proofs.Yteadkdllmeeocab
/- A question that comes in to a law; a list of integers that comes in or is copied. -/
namespace Go.Proofs.Yteadkdllmeeocab
open Go.ChangeShapes Go.WideShapes Go.ChangeAt Go.RowKit
set_option maxRecDepth 100000
theorem fork_cells : Try.prog.cellsOf 39 = 2 := by kernel_rfl
theorem int_cells9 : Try.prog.cellsOf 3 = 1 := by kernel_rfl
theorem open_fork {H : Type} {enc : TypeId × Value → H} {W : World} {r : Reach} {b0 base : Nat} {sp : Nat → Bool} {hd : Bool} {v : Value} {d : DataW H} {ps : List MemPlace}
    (hval : Value.okWide Try.prog W r b0 39 v) (h : DataW.Trod enc Try.prog W base sp hd 39 v d ps) :
    ∃ a b : Int, v = forkV ⟨a, b⟩ ∧ (Lit.int .i64 a).wf = true ∧ (Lit.int .i64 b).wf = true := by
  obtain ⟨cs, rfl, hs⟩ := okWide_struct Try.underlying39 hval
  obtain ⟨fuel, hf⟩ := h
  obtain ⟨y0, y1, n, -, hl, t0, t1⟩ := trod_struct2 Try.underlying39 hf
  obtain ⟨a, ha, -, wa⟩ := DataW.trod_int Try.underlying3 t0
  obtain ⟨b, hb, -, wb⟩ := DataW.trod_int Try.underlying3 t1
  rw [fork_cells] at hs
  refine ⟨a, b, ?_, wa, wb⟩
  obtain ⟨l⟩ := cs
  match l, hs with
  | [x, y], _ =>
    simp [Value.cells, int_cells9] at ha hb
    rw [ha, hb]; rfl
theorem toFork_any (f : ForkD) (w : World) : Calls Try.prog 18 #[forkV f] w fun e w' => e = .returned (forkV f) ∧ Below w.heap.size w w' := by
  obtain ⟨a, b⟩ := f
  have B : Below w.heap.size w (((w.alloc (.cells #[.int .i64 a, .int .i64 b] 39)).alloc (.cells #[.int .i64 a, .int .i64 b] 49)).alloc (.cells #[.int .i64 a, .int .i64 b] 49)) := (((Below.refl _ _).alloc (Nat.le_refl _) _).alloc (by simp) _).alloc (by simp; omega) _
  unfold forkV
  go_enter Try.func18, Try.ntmps18
  go_wp2
  exact bodyPost_ret (v := .agg #[.int .i64 a, .int .i64 b]) (by simp [results, Try.results18, go_sem]) rfl ⟨rfl, B⟩
theorem eqI_rows {w : World} {va vb : Value} {zs : List Int} (hn : zs.length ≤ 140737488351232) (ha : RowI w va zs) (hb : RowI w vb zs) :
    Calls Try.prog 9 #[va, vb] w fun e w' => e = .returned (.bool true) ∧ Below w.heap.size w w' := by
  obtain ⟨oa, ka, rfl, -, ra⟩ := ha
  obtain ⟨ob, kb, rfl, -, rb⟩ := hb
  by_cases h0 : zs.length = 0
  · rw [h0]
    exact (eqI_zero oa ob ka kb w).mono fun e w' ⟨h1, h2⟩ => ⟨h1, by rw [h2]; exact Below.refl _ _⟩
  · obtain ⟨ga, o, rfl, -, ja⟩ := ra (by omega)
    obtain ⟨gb, o', rfl, -, jb⟩ := rb (by omega)
    exact eqI_pos ga o gb o' zs.length ka kb zs w hn rfl ja jb
theorem toI_rows (a : Option Addr) (len cap : Nat) (zs : List Int) (w : World) (h : IsRow .i64 w a len cap zs) (hn : len ≤ 1048576) :
    Calls Try.prog 7 #[.slice a len cap] w fun e w' => ∃ v, e = .returned v ∧ RowI w' v (zs.take len) ∧ Below w.heap.size w w' := by
  have hl : (zs.take len).length = len := h.len
  refine (toI_any a len cap zs w h hn).mono ?_
  rintro e w' ⟨g, rfl, ho, hb⟩
  exact ⟨_, rfl, RowI.of_own ho hl, hb⟩
theorem toI_own9 (a : Option Addr) (len cap : Nat) (zs : List Int) (w : World) (h : IsRow .i64 w a len cap zs) (hn : len ≤ 1048576) :
    Calls Try.prog 7 #[.slice a len cap] w fun e w' => ∃ v, e = .returned v ∧ w'.ownsRow w.heap.size 3 1 v (zs.take len).length ((zs.take len).map (Value.int .i64)) ∧ Below w.heap.size w w' := by
  have hl : (zs.take len).length = len := h.len
  refine (toI_any a len cap zs w h hn).mono ?_
  rintro e w' ⟨g, rfl, ho, hb⟩
  exact ⟨_, rfl, by rw [hl]; exact ho, hb⟩
end Go.Proofs.Yteadkdllmeeocab
