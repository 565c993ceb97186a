/- Texts of this claim, put together: part 7. -/
import Derived.Test.YteadkdllmeeocabGreatBestOfPack6
import Derived.Test.YteadkdllmeeocabGreatBestOfPack5
import Derived.Test.YteadkdllmeeocabGreatBestOfPack3
import Derived.Test.YteadkdllmeeocabGreatBestOfPack4
import Derived.Test.YteadkdllmeeocabGreatBestOfPack2
/- A copy of a schema that came in, by the laws' own helpers: no two of its lists share memory. -/
namespace Go.Proofs.YteadkdllmeeocabGreat
open Go.RowKit
set_option maxRecDepth 100000
/-- The first k attributes of a row of the call's own are these; their lists lie behind the row, one behind the other. -/
structure DoneL (w : World) (b : Nat) (ys : List Value) (L : Nat → Value × Value) (ls : List AttrD) (k : Nat) : Prop where
  cells : ∀ j, j < k → ys[j * 3]? = some (.string (ad ls j).name) ∧ ys[j * 3 + 1]? = some (L j).1 ∧ ys[j * 3 + 2]? = some (L j).2
  ints : ∀ j, j < k → w.ownsRow b 3 1 (L j).1 (ad ls j).cuts.length ((ad ls j).cuts.map (Value.int .i64))
  strs : ∀ j, j < k → w.ownsRow b 9 1 (L j).2 (ad ls j).vals.length ((ad ls j).vals.map Value.string)
  ord1 : ∀ i j a b, i < j → j < k → (L i).1.ownBlock = some a → (L j).1.ownBlock = some b → a < b
  ord2 : ∀ i j a b, i < j → j < k → (L i).2.ownBlock = some a → (L j).2.ownBlock = some b → a < b
theorem DoneL.start (w : World) (b : Nat) (ys : List Value) (L : Nat → Value × Value) (ls : List AttrD) : DoneL w b ys L ls 0 :=
  ⟨fun j hj => by omega, fun j hj => by omega, fun j hj => by omega, fun _ _ _ _ _ h => by omega, fun _ _ _ _ _ h => by omega⟩
theorem DoneL.below {w w' : World} {b : Nat} {ys : List Value} {L : Nat → Value × Value} {ls : List AttrD} {k : Nat} (h : DoneL w b ys L ls k) (hb : Below w.heap.size w w') : DoneL w' b ys L ls k :=
  ⟨h.cells, fun j hj => own_below (h.ints j hj) hb, fun j hj => own_below (h.strs j hj) hb, h.ord1, h.ord2⟩
theorem DoneL.lt {w : World} {b : Nat} {ys : List Value} {L : Nat → Value × Value} {ls : List AttrD} {k : Nat} (h : DoneL w b ys L ls k) : ∀ j, j < k → (∀ a, (L j).1.ownBlock = some a → a < w.heap.size) ∧ ∀ a, (L j).2.ownBlock = some a → a < w.heap.size :=
  fun j hj => ⟨fun a ha => ((h.ints j hj).lt a ha).2, fun a ha => ((h.strs j hj).lt a ha).2⟩
theorem DoneL.sep {w : World} {g n : Nat} {ys : List Value} {L : Nat → Value × Value} {ls : List AttrD} {v : Value} (h : DoneL w (g + 1) ys L ls n) (ho : w.ownsRow g 72 3 v n ys) : SepL g w v L ys ls n :=
  ⟨ho, h.cells, fun j hj => own_base (h.ints j hj) (by omega), fun j hj => own_base (h.strs j hj) (by omega), h.ord1, h.ord2⟩
theorem DoneL.stored {w : World} {g k B : Nat} {ys : List Value} {L : Nat → Value × Value} {ls : List AttrD} {x y z : Value} (h : DoneL w (g + 1) ys L ls k) (hl : k * 3 + 2 < ys.length) (hx : x = .string (ad ls k).name)
    (hlt : ∀ j, j < k → (∀ a, (L j).1.ownBlock = some a → a < B) ∧ ∀ a, (L j).2.ownBlock = some a → a < B)
    (hy : w.ownsRow B 3 1 y (ad ls k).cuts.length ((ad ls k).cuts.map (Value.int .i64))) (hz : w.ownsRow B 9 1 z (ad ls k).vals.length ((ad ls k).vals.map Value.string)) (hB : g + 1 ≤ B) :
    DoneL (((w.setCell ⟨g, k * 3, none⟩ x).setCell ⟨g, k * 3 + 1, none⟩ y).setCell ⟨g, k * 3 + 2, none⟩ z) (g + 1) (((ys.set (k * 3) x).set (k * 3 + 1) y).set (k * 3 + 2) z) (fun j => if j = k then (y, z) else L j) ls (k + 1) := by
  have key : ∀ {e n : Nat} {v : Value} {xs : List Value}, w.ownsRow (g + 1) e 1 v n xs → (((w.setCell ⟨g, k * 3, none⟩ x).setCell ⟨g, k * 3 + 1, none⟩ y).setCell ⟨g, k * 3 + 2, none⟩ z).ownsRow (g + 1) e 1 v n xs := fun h =>
    own_setCell (own_setCell (own_setCell h _ _ (by simp)) _ _ (by simp)) _ _ (by simp)
  refine ⟨fun j hj => ?_, fun j hj => ?_, fun j hj => ?_, fun i j a b hij hj ha hb => ?_, fun i j a b hij hj ha hb => ?_⟩
  · by_cases e : j = k
    · subst e
      refine ⟨?_, ?_, ?_⟩
      · rw [List.getElem?_set_ne (by omega), List.getElem?_set_ne (by omega), List.getElem?_set_self (by omega), hx]
      · rw [List.getElem?_set_ne (by omega), List.getElem?_set_self (by simp; omega), if_pos rfl]
      · rw [List.getElem?_set_self (by simp; omega), if_pos rfl]
    · obtain ⟨h0, h1, h2⟩ := h.cells j (by omega)
      rw [if_neg e]
      refine ⟨?_, ?_, ?_⟩
      · rw [List.getElem?_set_ne (by omega), List.getElem?_set_ne (by omega), List.getElem?_set_ne (by omega), h0]
      · rw [List.getElem?_set_ne (by omega), List.getElem?_set_ne (by omega), List.getElem?_set_ne (by omega), h1]
      · rw [List.getElem?_set_ne (by omega), List.getElem?_set_ne (by omega), List.getElem?_set_ne (by omega), h2]
  · by_cases e : j = k
    · subst e; rw [if_pos rfl]; exact key (own_base hy hB)
    · rw [if_neg e]; exact key (h.ints j (by omega))
  · by_cases e : j = k
    · subst e; rw [if_pos rfl]; exact key (own_base hz hB)
    · rw [if_neg e]; exact key (h.strs j (by omega))
  · rw [if_neg (by omega)] at ha
    by_cases e : j = k
    · rw [if_pos e] at hb
      have h1 := (hlt i (by omega)).1 a ha
      have h2 := (hy.lt b hb).1
      omega
    · rw [if_neg e] at hb
      exact h.ord1 i j a b hij (by omega) ha hb
  · rw [if_neg (by omega)] at ha
    by_cases e : j = k
    · rw [if_pos e] at hb
      have h1 := (hlt i (by omega)).2 a ha
      have h2 := (hz.lt b hb).1
      omega
    · rw [if_neg e] at hb
      exact h.ord2 i j a b hij (by omega) ha hb
/-- A schema of the call's own, no two lists of one kind in one block. -/
def OwnSp (base : Nat) (w : World) (v : Value) (s : SchemaD) : Prop :=
  ∃ va vc L ys, v = .agg #[va, vc] ∧ SepL base w va L ys s.attrs s.attrs.length ∧ w.ownsRow base 9 1 vc s.classes.length (s.classes.map Value.string) ∧
    ∀ j c b, j < s.attrs.length → vc.ownBlock = some c → (L j).2.ownBlock = some b → c ≠ b
theorem OwnSp.own {base : Nat} {w : World} {v : Value} {s : SchemaD} (h : OwnSp base w v s) : OwnS base w v s := by
  obtain ⟨va, vc, L, ys, rfl, h1, h2, _⟩ := h
  exact ⟨va, vc, rfl, h1.own, h2⟩
set_option maxHeartbeats 1600000 in
theorem toAttrS_sep (v : Value) (ls : List AttrD) (w : World) (h : RowA w v ls) (hn : ls.length ≤ 1048576) (hf : ∀ a ∈ ls, fitA a) :
    Calls Tryz.prog 23 #[v] w fun e w' => ∃ g, e = .returned (.slice (some ⟨g, 0, none⟩) ls.length ls.length) ∧ (∃ L ys, SepL w.heap.size w' (.slice (some ⟨g, 0, none⟩) ls.length ls.length) L ys ls ls.length) ∧ Below w.heap.size w w' := by
  obtain ⟨i0, hi, hz0, hz1, hz2⟩ := info_parts atInfo
  obtain ⟨oa, cap, rfl, hc, hr⟩ := h
  have HR : Hid (0 < ls.length → ∃ g o, oa = some ⟨g, o, none⟩ ∧ g < w.heap.size ∧ ∀ j, j < ls.length → CellsA w g (o + j * 3) (ad ls j)) := hr
  have HF : Hid (∀ a ∈ ls, fitA a) := hf
  clear hr hf
  go_enter Tryz.func23, Tryz.ntmps23
  go_wp2_with (at_make; refine wpList_make_full _ rfl _ _ 38 rfl w.heap.size 72 i0 (.agg #[.string ⟨#[]⟩, .slice none 0 0, .slice none 0 0]) 3 Tryz.underlying38 hi hz0 hz1 .i64 .i64 _ _ ls.length rfl rfl rfl rfl ?c1 ?c2 ?c3 ?_)
  case c1 => rw [hz2]; omega
  case c2 => unfold maxLen; omega
  case c3 => omega
  intro w1 ho1 hg1
  have hb1 : Below w.heap.size w w1 := (Below.refl _ _).grown hg1 (Nat.le_refl _) (by intro k hk; cases hk)
  clear hg1
  go_wp2
  go_loopw [4] (fun i wr => ∃ (k : Nat) (ys : List Value) (L : Nat → Value × Value), i = .int .i64 k ∧ k ≤ ls.length ∧ wr.ownsRow w.heap.size 72 3 (.slice (some ⟨w.heap.size, 0, none⟩) ls.length ls.length) ls.length ys ∧ DoneL wr (w.heap.size + 1) ys L ls k ∧ Below w.heap.size w wr) (fun i _ => ls.length - (intOf i).toNat)
  case atStart => exact ⟨0, _, fun _ => (.slice none 0 0, .slice none 0 0), rfl, by omega, ho1, DoneL.start _ _ _ _ _, hb1⟩
  case round =>
    obtain ⟨k, ys, L, rfl, hk, hown, hys, hbr⟩ := hrel
    clear ho1 hb1
    have HOW : Hid (wr.ownsRow w.heap.size 72 3 (.slice (some ⟨w.heap.size, 0, none⟩) ls.length ls.length) ls.length ys) := hown
    have HD : Hid (DoneL wr (w.heap.size + 1) ys L ls k) := hys
    clear hown hys
    by_cases hlt : k < ls.length
    · obtain ⟨b, o, rfl, hb, hj⟩ := HR.out (by omega)
      obtain ⟨vc, vv, q0, q1, q2, r1, r2⟩ := (hj k hlt).later hbr hb
      obtain ⟨o1, c1, rfl, -, -⟩ := id r1
      obtain ⟨o2, c2, rfl, -, -⟩ := id r2
      have hfk := HF.out _ (ad_mem hlt)
      have c := toAttr_row _ (ad ls k) wr ⟨_, _, rfl, r1, r2⟩ hfk.cuts hfk.vals
      clear hj r1 r2 hfk
      go_wp2_with fail
      refine c.mono ?_
      rintro e w2 ⟨v', rfl, hoa, hb2⟩
      clear c q0 q1 q2
      have hgl : w.heap.size < wr.heap.size := (HOW.out.lt w.heap.size rfl).2
      obtain ⟨yc, yv, rfl, hyc, hyv⟩ := hoa
      obtain ⟨o3, c3, rfl, -, -⟩ := RowI.of_own hyc rfl
      obtain ⟨o4, c4, rfl, -, -⟩ := RowS.of_own hyv rfl
      have hown := own_below HOW.out hb2
      have hdone := HD.out.below hb2
      have hbw := hbr.trans (hb2.mono hbr.size)
      have hlen : ys.length = ls.length * 3 := hown.1
      have hc0 : ∃ u, w2.cell? ⟨w.heap.size, k * 3, none⟩ = some u := ⟨ys[k * 3]'(by omega), by rw [hown.cellAt (k * 3) (by omega)]; exact List.getElem?_eq_getElem _⟩
      have hc1 : ∃ u, w2.cell? ⟨w.heap.size, k * 3 + 1, none⟩ = some u := ⟨ys[k * 3 + 1]'(by omega), by rw [hown.cellAt (k * 3 + 1) (by omega)]; exact List.getElem?_eq_getElem _⟩
      have hc2 : ∃ u, w2.cell? ⟨w.heap.size, k * 3 + 2, none⟩ = some u := ⟨ys[k * 3 + 2]'(by omega), by rw [hown.cellAt (k * 3 + 2) (by omega)]; exact List.getElem?_eq_getElem _⟩
      obtain ⟨u0, hc0⟩ := hc0
      obtain ⟨u1, hc1⟩ := hc1
      obtain ⟨u2, hc2⟩ := hc2
      have hf0 : w2.frozen? ⟨w.heap.size, k * 3, none⟩ = false := hown.frozenAt _
      have hf1 : w2.frozen? ⟨w.heap.size, k * 3 + 1, none⟩ = false := hown.frozenAt _
      have hf2 : w2.frozen? ⟨w.heap.size, k * 3 + 2, none⟩ = false := hown.frozenAt _
      have DS := hdone.stored (x := .string (ad ls k).name) (by omega) rfl HD.out.lt hyc hyv (by omega)
      have OS := (((hown.stored (k * 3) (.string (ad ls k).name)).1.stored (k * 3 + 1) (.slice o3 (ad ls k).cuts.length c3)).1.stored (k * 3 + 2) (.slice o4 (ad ls k).vals.length c4)).1
      have BS : Below w.heap.size w (((w2.setCell ⟨w.heap.size, k * 3, none⟩ (.string (ad ls k).name)).setCell ⟨w.heap.size, k * 3 + 1, none⟩ (.slice o3 (ad ls k).cuts.length c3)).setCell ⟨w.heap.size, k * 3 + 2, none⟩ (.slice o4 (ad ls k).vals.length c4)) :=
        ((hbw.setCell (p := ⟨w.heap.size, k * 3, none⟩) (Nat.le_refl _) _).setCell (p := ⟨w.heap.size, k * 3 + 1, none⟩) (Nat.le_refl _) _).setCell (p := ⟨w.heap.size, k * 3 + 2, none⟩) (Nat.le_refl _) _
      have HX : Hid ((((w2.setCell ⟨w.heap.size, k * 3, none⟩ (.string (ad ls k).name)).setCell ⟨w.heap.size, k * 3 + 1, none⟩ (.slice o3 (ad ls k).cuts.length c3)).setCell ⟨w.heap.size, k * 3 + 2, none⟩ (.slice o4 (ad ls k).vals.length c4)).ownsRow w.heap.size 72 3 (.slice (some ⟨w.heap.size, 0, none⟩) ls.length ls.length) ls.length (((ys.set (k * 3) (.string (ad ls k).name)).set (k * 3 + 1) (.slice o3 (ad ls k).cuts.length c3)).set (k * 3 + 2) (.slice o4 (ad ls k).vals.length c4)) ∧
        DoneL (((w2.setCell ⟨w.heap.size, k * 3, none⟩ (.string (ad ls k).name)).setCell ⟨w.heap.size, k * 3 + 1, none⟩ (.slice o3 (ad ls k).cuts.length c3)).setCell ⟨w.heap.size, k * 3 + 2, none⟩ (.slice o4 (ad ls k).vals.length c4)) (w.heap.size + 1) (((ys.set (k * 3) (.string (ad ls k).name)).set (k * 3 + 1) (.slice o3 (ad ls k).cuts.length c3)).set (k * 3 + 2) (.slice o4 (ad ls k).vals.length c4)) (fun j => if j = k then (.slice o3 (ad ls k).cuts.length c3, .slice o4 (ad ls k).vals.length c4) else L j) ls (k + 1) ∧
        Below w.heap.size w (((w2.setCell ⟨w.heap.size, k * 3, none⟩ (.string (ad ls k).name)).setCell ⟨w.heap.size, k * 3 + 1, none⟩ (.slice o3 (ad ls k).cuts.length c3)).setCell ⟨w.heap.size, k * 3 + 2, none⟩ (.slice o4 (ad ls k).vals.length c4))) := ⟨OS, DS, BS⟩
      clear DS OS BS hown hdone hbw hyc hyv hb2 hbr HOW HD
      go_wp2
      go_roundw
      case rel => exact ⟨k + 1, _, _, by go_num, by omega, HX.out.1, HX.out.2.1, HX.out.2.2⟩
      case measure => simp [intOf]; omega
    · obtain rfl : k = ls.length := by omega
      go_wp2
      go_ret
      exact ⟨_, rfl, ⟨L, ys, HD.out.sep HOW.out⟩, hbr⟩

set_option maxHeartbeats 800000 in
theorem toSchema_sep (v : Value) (a : SchemaD) (w : World) (h : SchemaAt w v a) (hf : fitS a) :
    Calls Tryz.prog 7 #[v] w fun e w' => ∃ v', e = .returned v' ∧ OwnSp w.heap.size w' v' a ∧ Below w.heap.size w w' := by
  obtain ⟨vc, vv, rfl, hc, hv⟩ := h
  have HC : Hid (RowA w vc a.attrs) := hc
  have HV : Hid (RowS w vv a.classes) := hv
  clear hc hv
  go_enter Tryz.func7, Tryz.ntmps7
  go_wp2_with fail
  obtain ⟨K1, K2, K3, B0⟩ := blk_3 25 40 40 w #[vc, vv] #[.slice none 0 0, .slice none 0 0] #[.slice none 0 0, .slice none 0 0]
  refine (toAttrS_sep vc a.attrs _ (HC.out.later B0) hf.attrs hf.each).mono ?_
  rintro e w1 ⟨g1, rfl, ⟨L, ys, ho1⟩, hb1⟩
  have HLB : Hid (∀ j, j < a.attrs.length → ∀ b, (L j).2.ownBlock = some b → b < w1.heap.size) := fun j hj b hb => ((ho1.strs j hj).lt b hb).2
  replace K1 := K1.below hb1
  replace K2 := K2.below hb1
  replace K3 := K3.below hb1
  have hsz := hb1.size
  simp at hsz
  have ho1 := ho1.base (b' := w.heap.size + 3) (by simp)
  have B1 : Below w.heap.size w w1 := B0.trans (hb1.mono (by simp; omega))
  clear hb1 B0
  generalize hV1 : Value.slice (some ⟨g1, 0, none⟩) a.attrs.length a.attrs.length = V1 at ho1
  have HV1 : Hid (Value.slice (some ⟨g1, 0, none⟩) a.attrs.length a.attrs.length = V1) := hV1
  have c3 : w1.cell? ⟨w.heap.size + 1 + 1, 0, none⟩ = some (.slice none 0 0) := K3.cell 0
  have f3 := K3.frozen 0
  have S1 := K1.setCell_other ⟨w.heap.size + 1 + 1, 0, none⟩ V1 (by simp; omega)
  have S2 := K2.setCell_other ⟨w.heap.size + 1 + 1, 0, none⟩ V1 (by simp)
  have S3 := K3.setCell 0 V1
  have B2 : Below w.heap.size w (w1.setCell ⟨w.heap.size + 1 + 1, 0, none⟩ V1) := B1.setCell (p := ⟨w.heap.size + 1 + 1, 0, none⟩) (by simp; omega) _
  have hsz2 : (w1.setCell ⟨w.heap.size + 1 + 1, 0, none⟩ V1).heap.size = w1.heap.size := by simp [World.setCell]
  have O1 := ho1.setCell ⟨w.heap.size + 1 + 1, 0, none⟩ V1 (by simp)
  have cS : (w1.setCell ⟨w.heap.size + 1 + 1, 0, none⟩ V1).cell? ⟨w.heap.size, 1, none⟩ = some vv := S1.cell 1
  subst hV1
  have HO1 : Hid (SepL (w.heap.size + 3) (w1.setCell ⟨w.heap.size + 1 + 1, 0, none⟩ (.slice (some ⟨g1, 0, none⟩) a.attrs.length a.attrs.length)) (.slice (some ⟨g1, 0, none⟩) a.attrs.length a.attrs.length) L ys a.attrs a.attrs.length) := O1
  have HS : Hid (Blk 40 (w1.setCell ⟨w.heap.size + 1 + 1, 0, none⟩ (.slice (some ⟨g1, 0, none⟩) a.attrs.length a.attrs.length)) (w.heap.size + 1) #[.slice none 0 0, .slice none 0 0] ∧ Blk 40 (w1.setCell ⟨w.heap.size + 1 + 1, 0, none⟩ (.slice (some ⟨g1, 0, none⟩) a.attrs.length a.attrs.length)) (w.heap.size + 1 + 1) #[(.slice (some ⟨g1, 0, none⟩) a.attrs.length a.attrs.length), .slice none 0 0] ∧ Below w.heap.size w (w1.setCell ⟨w.heap.size + 1 + 1, 0, none⟩ (.slice (some ⟨g1, 0, none⟩) a.attrs.length a.attrs.length))) := ⟨S2, S3, B2⟩
  clear K1 K2 K3 S1 S2 S3 B2 O1 ho1 B1 HV1
  go_wp2_with fail
  clear c3 f3
  refine (toS_row vv a.classes _ (HV.out.later HS.out.2.2) hf.classes).mono ?_
  rintro e w2 ⟨g2, rfl, ho2, hb2⟩
  have O1 := HO1.out.below hb2
  obtain ⟨S2, S3, B2⟩ := HS.out
  replace S2 := S2.below hb2
  replace S3 := S3.below hb2
  have B3 := B2.trans (hb2.mono B2.size)
  have hsz3 := hb2.size
  have HO2B : Hid (∀ b, (Value.slice (some ⟨g2, 0, none⟩) a.classes.length a.classes.length).ownBlock = some b → w1.heap.size ≤ b) := fun b hb => by have := (ho2.lt b hb).1; rw [hsz2] at this; exact this
  have ho2 := own_base ho2 (b' := w.heap.size + 3) (by omega)
  clear HS HO1 HC HV hb2 B2
  have c3 : w2.cell? ⟨w.heap.size + 1 + 1, 1, none⟩ = some (.slice none 0 0) := S3.cell 1
  have f3 := S3.frozen 1
  have T2 := S2.setCell_other ⟨w.heap.size + 1 + 1, 1, none⟩ (.slice (some ⟨g2, 0, none⟩) a.classes.length a.classes.length) (by simp)
  have T3 := S3.setCell 1 (.slice (some ⟨g2, 0, none⟩) a.classes.length a.classes.length)
  have B4 : Below w.heap.size w (w2.setCell ⟨w.heap.size + 1 + 1, 1, none⟩ (.slice (some ⟨g2, 0, none⟩) a.classes.length a.classes.length)) := B3.setCell (p := ⟨w.heap.size + 1 + 1, 1, none⟩) (by simp; omega) _
  have O1 := O1.setCell ⟨w.heap.size + 1 + 1, 1, none⟩ (.slice (some ⟨g2, 0, none⟩) a.classes.length a.classes.length) (by simp)
  have O2 := own_setCell ho2 ⟨w.heap.size + 1 + 1, 1, none⟩ (.slice (some ⟨g2, 0, none⟩) a.classes.length a.classes.length) (by simp)
  have HT : Hid (Below w.heap.size w (w2.setCell ⟨w.heap.size + 1 + 1, 1, none⟩ (.slice (some ⟨g2, 0, none⟩) a.classes.length a.classes.length)) ∧ SepL (w.heap.size + 3) (w2.setCell ⟨w.heap.size + 1 + 1, 1, none⟩ (.slice (some ⟨g2, 0, none⟩) a.classes.length a.classes.length)) (.slice (some ⟨g1, 0, none⟩) a.attrs.length a.attrs.length) L ys a.attrs a.attrs.length ∧ (w2.setCell ⟨w.heap.size + 1 + 1, 1, none⟩ (.slice (some ⟨g2, 0, none⟩) a.classes.length a.classes.length)).ownsRow (w.heap.size + 3) 9 1 (.slice (some ⟨g2, 0, none⟩) a.classes.length a.classes.length) a.classes.length (a.classes.map Value.string)) := ⟨B4, O1, O2⟩
  have HT2 : Hid (Blk 40 (w2.setCell ⟨w.heap.size + 1 + 1, 1, none⟩ (.slice (some ⟨g2, 0, none⟩) a.classes.length a.classes.length)) (w.heap.size + 1) #[.slice none 0 0, .slice none 0 0] ∧ Blk 40 (w2.setCell ⟨w.heap.size + 1 + 1, 1, none⟩ (.slice (some ⟨g2, 0, none⟩) a.classes.length a.classes.length)) (w.heap.size + 1 + 1) #[(.slice (some ⟨g1, 0, none⟩) a.attrs.length a.attrs.length), (.slice (some ⟨g2, 0, none⟩) a.classes.length a.classes.length)]) := ⟨T2, T3⟩
  clear S2 S3 T2 T3 B4 O1 O2 ho2 B3
  go_wp2_with (first | (with_reducible refine wp_sc_load rfl _ rfl ?_; refine ⟨_, rfl, _, _, HT2.out.2, ?_⟩) | (with_reducible refine wp_sc_store rfl _ _ rfl ?_; refine ⟨_, rfl, _, _, _, _, _, _, rfl, _, _, HT2.out.1, ?_⟩))
  refine bodyPost_ret (res_sc Tryz.results7 _ _ _ _ _ rfl (HT2.out.1.setRow _)) rfl ⟨_, rfl, ⟨_, _, L, ys, rfl, ?_, ?_, fun j c b hj hc hb => ?_⟩, ?_⟩
  · exact (HT.out.2.1.setRow _ _ (by omega)).base (by omega)
  · exact own_base (own_setRow HT.out.2.2 _ _ (by omega)) (by omega)
  · have h1 := HO2B.out c hc
    have h2 := HLB.out j hj b hb
    omega
  · exact below_row HT.out.1 (by omega) _
end Go.Proofs.YteadkdllmeeocabGreat
/- How many bins an attribute has, in plain words. -/
namespace Go.Proofs.YteadkdllmeeocabGreat
def bins (a : AttrD) : Int := if attrOk a = true then (if a.vals.length = 0 then (a.cuts.length : Int) + 1 else a.vals.length) else 0
theorem ok_kind {a : AttrD} (h : attrOk a = true) : (a.vals.length = 0 ↔ a.cuts.length ≠ 0) := by
  unfold attrOk at h
  rw [Bool.and_eq_true] at h
  have h2 := h.2
  by_cases h0 : a.cuts.length = 0
  · rw [if_pos h0] at h2
    unfold choices at h2
    rw [Bool.and_eq_true] at h2
    have := of_decide_eq_true h2.1
    omega
  · rw [if_neg h0, Bool.and_eq_true] at h2
    have := of_decide_eq_true h2.1
    omega

end Go.Proofs.YteadkdllmeeocabGreat
/- Chapter 8 in plain words: what a leaf has counted. -/
namespace Go.Proofs.YteadkdllmeeocabGreat
open Go.RowKit
set_option maxRecDepth 100000
structure StatsD where
  totals : List Int
  cells : List (List Int)
def il (cs : List (List Int)) (j : Nat) : List Int := cs.getD j []
theorem il_eq {cs : List (List Int)} {j : Nat} (h : j < cs.length) : il cs j = cs[j] := by simp [il, h]
theorem il_mem {cs : List (List Int)} {j : Nat} (h : j < cs.length) : il cs j ∈ cs := by rw [il_eq h]; exact List.getElem_mem h
/-- What a function knows of a list of lists of numbers that it is handed. -/
def RowII (w : World) (v : Value) (cs : List (List Int)) : Prop :=
  ∃ oa cap, v = .slice oa cs.length cap ∧ cs.length ≤ cap ∧ (0 < cs.length → ∃ g o, oa = some ⟨g, o, none⟩ ∧ g < w.heap.size ∧ ∀ j, j < cs.length → ∃ u, w.cell? ⟨g, o + j, none⟩ = some u ∧ RowI w u (il cs j))
theorem RowII.later {w w' : World} {v : Value} {cs : List (List Int)} (h : RowII w v cs) (hb : Below w.heap.size w w') : RowII w' v cs := by
  obtain ⟨oa, cap, rfl, hc, hr⟩ := h
  refine ⟨oa, cap, rfl, hc, fun h0 => ?_⟩
  obtain ⟨g, o, rfl, hg, hj⟩ := hr h0
  exact ⟨g, o, rfl, Nat.lt_of_lt_of_le hg hb.size, fun j hlt => by
    obtain ⟨u, h1, h2⟩ := hj j hlt
    exact ⟨u, (hb.cell (p := ⟨g, o + j, none⟩) hg).trans h1, h2.later hb⟩⟩
/-- What a function knows of the counts that it is handed. -/
def StatsAt (w : World) (v : Value) (t : StatsD) : Prop := ∃ vt vc, v = .agg #[vt, vc] ∧ RowI w vt t.totals ∧ RowII w vc t.cells
theorem StatsAt.later {w w' : World} {v : Value} {t : StatsD} (h : StatsAt w v t) (hb : Below w.heap.size w w') : StatsAt w' v t := by
  obtain ⟨vt, vc, rfl, h1, h2⟩ := h
  exact ⟨vt, vc, rfl, h1.later hb, h2.later hb⟩
structure okSt (t : StatsD) : Prop where
  totals : t.totals.length ≤ 1099511627776
  cells : t.cells.length ≤ 1099511627776
  each : ∀ c ∈ t.cells, c.length ≤ 1099511627776
/-- The place of the greatest number, the first of such. -/
def topFrom (l : List Int) (at' : Int) (k : Nat) : Nat → Int
  | 0 => at'
  | n + 1 => if at' < 0 ∨ l.getD at'.toNat 0 < l.getD k 0 then topFrom l k (k + 1) n else topFrom l at' (k + 1) n
def topOf (l : List Int) : Int := topFrom l (-1) 0 l.length
theorem topFrom_step {l : List Int} {at' : Int} {k n : Nat} (h : k < n) : topFrom l at' k (n - k) = if at' < 0 ∨ l.getD at'.toNat 0 < l.getD k 0 then topFrom l k (k + 1) (n - (k + 1)) else topFrom l at' (k + 1) (n - (k + 1)) := by
  rw [show n - k = (n - (k + 1)) + 1 by omega]; rfl
def sumL (l : List Int) : Int := l.foldl (· + ·) 0
theorem sumL_snoc (l : List Int) (x : Int) : sumL (l ++ [x]) = sumL l + x := by simp [sumL]
def inW (x : Int) : Bool := decide (0 ≤ x ∧ x ≤ 999)
/-- The cells of one attribute and class: place b * classes + k. -/
def colAt (c : List Int) (m k b : Nat) : Int := c.getD (b * m + k) 0
def colL (c : List Int) (m k n : Nat) : List Int := (List.range n).map (colAt c m k)
def colOk (t : StatsD) (c : List Int) (m n k : Nat) : Bool := (colL c m k n).all inW && decide (sumL (colL c m k n) ≤ t.totals.getD k 0)
def cellOk (s : SchemaD) (t : StatsD) (i : Nat) : Bool :=
  decide (((il t.cells i).length : Int) = bins (ad s.attrs i) * s.classes.length) && (List.range s.classes.length).all (colOk t (il t.cells i) s.classes.length (bins (ad s.attrs i)).toNat)
def statsOk (s : SchemaD) (t : StatsD) : Bool :=
  schemaOk s && (decide (t.totals.length = s.classes.length) && (t.totals.all inW && (decide (sumL t.totals ≤ 999) && (decide (t.cells.length = 0) || (decide (t.cells.length = s.attrs.length) && (List.range t.cells.length).all (cellOk s t))))))
def statsSame (a b : StatsD) : Bool := decide (a.totals = b.totals) && decide (a.cells = b.cells)
end Go.Proofs.YteadkdllmeeocabGreat
/- Lists of lists of numbers of the call's own: no two of them share memory. -/
namespace Go.Proofs.YteadkdllmeeocabGreat
open Go.RowKit
set_option maxRecDepth 100000
/-- The lists that a row leads to, each in a block of its own. -/
structure SepII (base : Nat) (w : World) (v : Value) (L : Nat → Value) (ys : List Value) (cs : List (List Int)) (n : Nat) : Prop where
  row : w.ownsRow base 26 1 v n ys
  cells : ∀ j, j < n → ys[j]? = some (L j)
  ints : ∀ j, j < n → w.ownsRow base 3 1 (L j) (il cs j).length ((il cs j).map (Value.int .i64))
  ord : ∀ i j a b, i < j → j < n → (L i).ownBlock = some a → (L j).ownBlock = some b → a ≠ b
theorem SepII.below {base : Nat} {w w' : World} {v : Value} {L : Nat → Value} {ys : List Value} {cs : List (List Int)} {n : Nat} (h : SepII base w v L ys cs n) (hb : Below w.heap.size w w') : SepII base w' v L ys cs n :=
  ⟨own_below h.row hb, h.cells, fun j hj => own_below (h.ints j hj) hb, h.ord⟩
theorem SepII.base {b b' : Nat} {w : World} {v : Value} {L : Nat → Value} {ys : List Value} {cs : List (List Int)} {n : Nat} (h : SepII b w v L ys cs n) (hb : b' ≤ b) : SepII b' w v L ys cs n :=
  ⟨own_base h.row hb, h.cells, fun j hj => own_base (h.ints j hj) hb, h.ord⟩
theorem SepII.setCell {base : Nat} {w : World} {v : Value} {L : Nat → Value} {ys : List Value} {cs : List (List Int)} {n : Nat} (h : SepII base w v L ys cs n) (p : Addr) (u : Value) (hp : p.block < base) : SepII base (w.setCell p u) v L ys cs n :=
  ⟨own_setCell h.row p u hp, h.cells, fun j hj => own_setCell (h.ints j hj) p u hp, h.ord⟩
theorem SepII.setRow {base : Nat} {w : World} {v : Value} {L : Nat → Value} {ys : List Value} {cs : List (List Int)} {n : Nat} (h : SepII base w v L ys cs n) (k : Nat) (c : Array Value) (hp : k < base) : SepII base (w.setRow k c) v L ys cs n :=
  ⟨own_setRow h.row k c hp, h.cells, fun j hj => own_setRow (h.ints j hj) k c hp, h.ord⟩
theorem SepII.at {base : Nat} {w : World} {v : Value} {L : Nat → Value} {ys : List Value} {cs : List (List Int)} (h : SepII base w v L ys cs cs.length) : RowII w v cs := by
  rcases id h.row.2 with ⟨rfl, h0⟩ | ⟨g, cap, cur, rfl, hg, hcur, hcap, r⟩
  · exact ⟨none, 0, by rw [h0], by omega, fun h1 => by omega⟩
  · refine ⟨_, _, rfl, hcap, fun h0 => ⟨g, 0, rfl, (h.row.lt g rfl).2, fun j hj => ⟨L j, ?_, RowI.of_own (h.ints j hj) rfl⟩⟩⟩
    rw [Nat.zero_add, h.row.cellAt j (by omega)]; exact h.cells j hj
/-- Counts of the call's own, no two lists in one block. -/
def OwnSt (base : Nat) (w : World) (v : Value) (t : StatsD) : Prop :=
  ∃ vt vc L ys, v = .agg #[vt, vc] ∧ w.ownsRow base 3 1 vt t.totals.length (t.totals.map (Value.int .i64)) ∧ SepII base w vc L ys t.cells t.cells.length ∧ ∀ j a b, j < t.cells.length → vt.ownBlock = some a → (L j).ownBlock = some b → a ≠ b
theorem OwnSt.at {base : Nat} {w : World} {v : Value} {t : StatsD} (h : OwnSt base w v t) : StatsAt w v t := by
  obtain ⟨vt, vc, L, ys, rfl, h1, h2, -⟩ := h
  exact ⟨vt, vc, rfl, RowI.of_own h1 rfl, h2.at⟩
theorem OwnSt.below {base : Nat} {w w' : World} {v : Value} {t : StatsD} (h : OwnSt base w v t) (hb : Below w.heap.size w w') : OwnSt base w' v t := by
  obtain ⟨vt, vc, L, ys, rfl, h1, h2, h3⟩ := h
  exact ⟨vt, vc, L, ys, rfl, own_below h1 hb, h2.below hb, h3⟩
theorem OwnSt.base {b b' : Nat} {w : World} {v : Value} {t : StatsD} (h : OwnSt b w v t) (hb : b' ≤ b) : OwnSt b' w v t := by
  obtain ⟨vt, vc, L, ys, rfl, h1, h2, h3⟩ := h
  exact ⟨vt, vc, L, ys, rfl, own_base h1 hb, h2.base hb, h3⟩
/-- The first k lists of a row of the call's own are these; they lie behind the row, one behind the other. -/
structure DoneII (w : World) (b : Nat) (ys : List Value) (L : Nat → Value) (cs : List (List Int)) (k : Nat) : Prop where
  cells : ∀ j, j < k → ys[j]? = some (L j)
  ints : ∀ j, j < k → w.ownsRow b 3 1 (L j) (il cs j).length ((il cs j).map (Value.int .i64))
  ord : ∀ i j a b, i < j → j < k → (L i).ownBlock = some a → (L j).ownBlock = some b → a ≠ b
theorem DoneII.start (w : World) (b : Nat) (ys : List Value) (L : Nat → Value) (cs : List (List Int)) : DoneII w b ys L cs 0 :=
  ⟨fun j hj => by omega, fun j hj => by omega, fun _ _ _ _ _ h => by omega⟩
theorem DoneII.below {w w' : World} {b : Nat} {ys : List Value} {L : Nat → Value} {cs : List (List Int)} {k : Nat} (h : DoneII w b ys L cs k) (hb : Below w.heap.size w w') : DoneII w' b ys L cs k :=
  ⟨h.cells, fun j hj => own_below (h.ints j hj) hb, h.ord⟩
theorem DoneII.lt {w : World} {b : Nat} {ys : List Value} {L : Nat → Value} {cs : List (List Int)} {k : Nat} (h : DoneII w b ys L cs k) : ∀ j, j < k → ∀ a, (L j).ownBlock = some a → a < w.heap.size :=
  fun j hj a ha => ((h.ints j hj).lt a ha).2
theorem DoneII.sep {w : World} {g n : Nat} {ys : List Value} {L : Nat → Value} {cs : List (List Int)} {v : Value} (h : DoneII w (g + 1) ys L cs n) (ho : w.ownsRow g 26 1 v n ys) : SepII g w v L ys cs n :=
  ⟨ho, h.cells, fun j hj => own_base (h.ints j hj) (by omega), h.ord⟩
theorem DoneII.stored {w : World} {g k B : Nat} {ys : List Value} {L : Nat → Value} {cs : List (List Int)} {y : Value} (h : DoneII w (g + 1) ys L cs k) (hl : k < ys.length)
    (hlt : ∀ j, j < k → ∀ a, (L j).ownBlock = some a → a < B) (hy : w.ownsRow B 3 1 y (il cs k).length ((il cs k).map (Value.int .i64))) (hB : g + 1 ≤ B) :
    DoneII (w.setCell ⟨g, k, none⟩ y) (g + 1) (ys.set k y) (fun j => if j = k then y else L j) cs (k + 1) := by
  have key : ∀ {e n : Nat} {v : Value} {xs : List Value}, w.ownsRow (g + 1) e 1 v n xs → (w.setCell ⟨g, k, none⟩ y).ownsRow (g + 1) e 1 v n xs := fun h => own_setCell h _ _ (by simp)
  refine ⟨fun j hj => ?_, fun j hj => ?_, fun i j a b hij hj ha hb => ?_⟩
  · by_cases e : j = k
    · subst e; rw [List.getElem?_set_self (by omega), if_pos rfl]
    · rw [List.getElem?_set_ne (by omega), if_neg e]; exact h.cells j (by omega)
  · by_cases e : j = k
    · subst e; rw [if_pos rfl]; exact key (own_base hy hB)
    · rw [if_neg e]; exact key (h.ints j (by omega))
  · rw [if_neg (by omega)] at ha
    by_cases e : j = k
    · rw [if_pos e] at hb
      have h1 := hlt i (by omega) a ha
      have h2 := (hy.lt b hb).1
      omega
    · rw [if_neg e] at hb
      exact h.ord i j a b hij (by omega) ha hb
/-- The blocks that the marks may turn. -/
def InII (L : Nat → Value) (n : Nat) (k : Nat) : Prop := ∃ j, j < n ∧ (L j).ownBlock = some k
end Go.Proofs.YteadkdllmeeocabGreat
