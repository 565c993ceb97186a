/- Texts of this claim, put together: part 7. -/
import Derived.Test.YtobimpgapfecoaaStatsNewPack6
import Derived.Test.YtobimpgapfecoaaStatsNewPack5
import Derived.Test.YtobimpgapfecoaaStatsNewPack4
import Derived.Test.YtobimpgapfecoaaRows
import Derived.WalkKit
import Derived.ProofKit
import Derived.OpenShut
import Derived.Laws.BytesArg
import Derived.Lib.ItoaNum
import Derived.Test.YtobimpgapfecoaaStatsNewPack1
import Derived.Deep.QuietTactic
import Derived.BigQuiet
import Derived.WalkSmall
import Derived.Lib.QuietBelow
/- A copy of a schema that came in, by the laws' own helpers: no two of its lists share memory. -/
namespace Go.Proofs.Ytobimpgapfecoaa
open Go.RowKit
set_option maxRecDepth 100000
/-- The first k attributes of a row of the call's own are these; their lists lie behind the row, one behind the other. -/
structure DoneL (w : World) (b : Nat) (ys : List Value) (L : Nat → Value × Value) (ls : List AttrD) (k : Nat) : Prop where
  cells : ∀ j, j < k → ys[j * 3]? = some (.string (ad ls j).name) ∧ ys[j * 3 + 1]? = some (L j).1 ∧ ys[j * 3 + 2]? = some (L j).2
  ints : ∀ j, j < k → w.ownsRow b 3 1 (L j).1 (ad ls j).cuts.length ((ad ls j).cuts.map (Value.int .i64))
  strs : ∀ j, j < k → w.ownsRow b 9 1 (L j).2 (ad ls j).vals.length ((ad ls j).vals.map Value.string)
  ord1 : ∀ i j a b, i < j → j < k → (L i).1.ownBlock = some a → (L j).1.ownBlock = some b → a < b
  ord2 : ∀ i j a b, i < j → j < k → (L i).2.ownBlock = some a → (L j).2.ownBlock = some b → a < b
theorem DoneL.start (w : World) (b : Nat) (ys : List Value) (L : Nat → Value × Value) (ls : List AttrD) : DoneL w b ys L ls 0 :=
  ⟨fun j hj => by omega, fun j hj => by omega, fun j hj => by omega, fun _ _ _ _ _ h => by omega, fun _ _ _ _ _ h => by omega⟩
theorem DoneL.below {w w' : World} {b : Nat} {ys : List Value} {L : Nat → Value × Value} {ls : List AttrD} {k : Nat} (h : DoneL w b ys L ls k) (hb : Below w.heap.size w w') : DoneL w' b ys L ls k :=
  ⟨h.cells, fun j hj => own_below (h.ints j hj) hb, fun j hj => own_below (h.strs j hj) hb, h.ord1, h.ord2⟩
theorem DoneL.lt {w : World} {b : Nat} {ys : List Value} {L : Nat → Value × Value} {ls : List AttrD} {k : Nat} (h : DoneL w b ys L ls k) : ∀ j, j < k → (∀ a, (L j).1.ownBlock = some a → a < w.heap.size) ∧ ∀ a, (L j).2.ownBlock = some a → a < w.heap.size :=
  fun j hj => ⟨fun a ha => ((h.ints j hj).lt a ha).2, fun a ha => ((h.strs j hj).lt a ha).2⟩
theorem DoneL.sep {w : World} {g n : Nat} {ys : List Value} {L : Nat → Value × Value} {ls : List AttrD} {v : Value} (h : DoneL w (g + 1) ys L ls n) (ho : w.ownsRow g 55 3 v n ys) : SepL g w v L ys ls n :=
  ⟨ho, h.cells, fun j hj => own_base (h.ints j hj) (by omega), fun j hj => own_base (h.strs j hj) (by omega), h.ord1, h.ord2⟩
theorem DoneL.stored {w : World} {g k B : Nat} {ys : List Value} {L : Nat → Value × Value} {ls : List AttrD} {x y z : Value} (h : DoneL w (g + 1) ys L ls k) (hl : k * 3 + 2 < ys.length) (hx : x = .string (ad ls k).name)
    (hlt : ∀ j, j < k → (∀ a, (L j).1.ownBlock = some a → a < B) ∧ ∀ a, (L j).2.ownBlock = some a → a < B)
    (hy : w.ownsRow B 3 1 y (ad ls k).cuts.length ((ad ls k).cuts.map (Value.int .i64))) (hz : w.ownsRow B 9 1 z (ad ls k).vals.length ((ad ls k).vals.map Value.string)) (hB : g + 1 ≤ B) :
    DoneL (((w.setCell ⟨g, k * 3, none⟩ x).setCell ⟨g, k * 3 + 1, none⟩ y).setCell ⟨g, k * 3 + 2, none⟩ z) (g + 1) (((ys.set (k * 3) x).set (k * 3 + 1) y).set (k * 3 + 2) z) (fun j => if j = k then (y, z) else L j) ls (k + 1) := by
  have key : ∀ {e n : Nat} {v : Value} {xs : List Value}, w.ownsRow (g + 1) e 1 v n xs → (((w.setCell ⟨g, k * 3, none⟩ x).setCell ⟨g, k * 3 + 1, none⟩ y).setCell ⟨g, k * 3 + 2, none⟩ z).ownsRow (g + 1) e 1 v n xs := fun h =>
    own_setCell (own_setCell (own_setCell h _ _ (by simp)) _ _ (by simp)) _ _ (by simp)
  refine ⟨fun j hj => ?_, fun j hj => ?_, fun j hj => ?_, fun i j a b hij hj ha hb => ?_, fun i j a b hij hj ha hb => ?_⟩
  · by_cases e : j = k
    · subst e
      refine ⟨?_, ?_, ?_⟩
      · rw [List.getElem?_set_ne (by omega), List.getElem?_set_ne (by omega), List.getElem?_set_self (by omega), hx]
      · rw [List.getElem?_set_ne (by omega), List.getElem?_set_self (by simp; omega), if_pos rfl]
      · rw [List.getElem?_set_self (by simp; omega), if_pos rfl]
    · obtain ⟨h0, h1, h2⟩ := h.cells j (by omega)
      rw [if_neg e]
      refine ⟨?_, ?_, ?_⟩
      · rw [List.getElem?_set_ne (by omega), List.getElem?_set_ne (by omega), List.getElem?_set_ne (by omega), h0]
      · rw [List.getElem?_set_ne (by omega), List.getElem?_set_ne (by omega), List.getElem?_set_ne (by omega), h1]
      · rw [List.getElem?_set_ne (by omega), List.getElem?_set_ne (by omega), List.getElem?_set_ne (by omega), h2]
  · by_cases e : j = k
    · subst e; rw [if_pos rfl]; exact key (own_base hy hB)
    · rw [if_neg e]; exact key (h.ints j (by omega))
  · by_cases e : j = k
    · subst e; rw [if_pos rfl]; exact key (own_base hz hB)
    · rw [if_neg e]; exact key (h.strs j (by omega))
  · rw [if_neg (by omega)] at ha
    by_cases e : j = k
    · rw [if_pos e] at hb
      have h1 := (hlt i (by omega)).1 a ha
      have h2 := (hy.lt b hb).1
      omega
    · rw [if_neg e] at hb
      exact h.ord1 i j a b hij (by omega) ha hb
  · rw [if_neg (by omega)] at ha
    by_cases e : j = k
    · rw [if_pos e] at hb
      have h1 := (hlt i (by omega)).2 a ha
      have h2 := (hz.lt b hb).1
      omega
    · rw [if_neg e] at hb
      exact h.ord2 i j a b hij (by omega) ha hb
/-- A schema of the call's own, no two lists of one kind in one block. -/
def OwnSp (base : Nat) (w : World) (v : Value) (s : SchemaD) : Prop :=
  ∃ va vc L ys, v = .agg #[va, vc] ∧ SepL base w va L ys s.attrs s.attrs.length ∧ w.ownsRow base 9 1 vc s.classes.length (s.classes.map Value.string) ∧
    ∀ j c b, j < s.attrs.length → vc.ownBlock = some c → (L j).2.ownBlock = some b → c ≠ b
theorem OwnSp.own {base : Nat} {w : World} {v : Value} {s : SchemaD} (h : OwnSp base w v s) : OwnS base w v s := by
  obtain ⟨va, vc, L, ys, rfl, h1, h2, _⟩ := h
  exact ⟨va, vc, rfl, h1.own, h2⟩
set_option maxHeartbeats 1600000 in
theorem toAttrS_sep (v : Value) (ls : List AttrD) (w : World) (h : RowA w v ls) (hn : ls.length ≤ 1048576) (hf : ∀ a ∈ ls, fitA a) :
    Calls Try.prog 74 #[v] w fun e w' => ∃ g, e = .returned (.slice (some ⟨g, 0, none⟩) ls.length ls.length) ∧ (∃ L ys, SepL w.heap.size w' (.slice (some ⟨g, 0, none⟩) ls.length ls.length) L ys ls ls.length) ∧ Below w.heap.size w w' := by
  obtain ⟨i0, hi, hz0, hz1, hz2⟩ := info_parts atInfo
  obtain ⟨oa, cap, rfl, hc, hr⟩ := h
  have HR : Hid (0 < ls.length → ∃ g o, oa = some ⟨g, o, none⟩ ∧ g < w.heap.size ∧ ∀ j, j < ls.length → CellsA w g (o + j * 3) (ad ls j)) := hr
  have HF : Hid (∀ a ∈ ls, fitA a) := hf
  clear hr hf
  go_enter Try.func74, Try.ntmps74
  go_wp2_with (at_make; refine wpList_make_full _ rfl _ _ 24 rfl w.heap.size 55 i0 (.agg #[.string ⟨#[]⟩, .slice none 0 0, .slice none 0 0]) 3 Try.underlying24 hi hz0 hz1 .i64 .i64 _ _ ls.length rfl rfl rfl rfl ?c1 ?c2 ?c3 ?_)
  case c1 => rw [hz2]; omega
  case c2 => unfold maxLen; omega
  case c3 => omega
  intro w1 ho1 hg1
  have hb1 : Below w.heap.size w w1 := (Below.refl _ _).grown hg1 (Nat.le_refl _) (by intro k hk; cases hk)
  clear hg1
  go_wp2
  go_loopw [4] (fun i wr => ∃ (k : Nat) (ys : List Value) (L : Nat → Value × Value), i = .int .i64 k ∧ k ≤ ls.length ∧ wr.ownsRow w.heap.size 55 3 (.slice (some ⟨w.heap.size, 0, none⟩) ls.length ls.length) ls.length ys ∧ DoneL wr (w.heap.size + 1) ys L ls k ∧ Below w.heap.size w wr) (fun i _ => ls.length - (intOf i).toNat)
  case atStart => exact ⟨0, _, fun _ => (.slice none 0 0, .slice none 0 0), rfl, by omega, ho1, DoneL.start _ _ _ _ _, hb1⟩
  case round =>
    obtain ⟨k, ys, L, rfl, hk, hown, hys, hbr⟩ := hrel
    clear ho1 hb1
    have HOW : Hid (wr.ownsRow w.heap.size 55 3 (.slice (some ⟨w.heap.size, 0, none⟩) ls.length ls.length) ls.length ys) := hown
    have HD : Hid (DoneL wr (w.heap.size + 1) ys L ls k) := hys
    clear hown hys
    by_cases hlt : k < ls.length
    · obtain ⟨b, o, rfl, hb, hj⟩ := HR.out (by omega)
      obtain ⟨vc, vv, q0, q1, q2, r1, r2⟩ := (hj k hlt).later hbr hb
      obtain ⟨o1, c1, rfl, -, -⟩ := id r1
      obtain ⟨o2, c2, rfl, -, -⟩ := id r2
      have hfk := HF.out _ (ad_mem hlt)
      have c := toAttr_row _ (ad ls k) wr ⟨_, _, rfl, r1, r2⟩ hfk.cuts hfk.vals
      clear hj r1 r2 hfk
      go_wp2_with fail
      refine c.mono ?_
      rintro e w2 ⟨v', rfl, hoa, hb2⟩
      clear c q0 q1 q2
      have hgl : w.heap.size < wr.heap.size := (HOW.out.lt w.heap.size rfl).2
      obtain ⟨yc, yv, rfl, hyc, hyv⟩ := hoa
      obtain ⟨o3, c3, rfl, -, -⟩ := RowI.of_own hyc rfl
      obtain ⟨o4, c4, rfl, -, -⟩ := RowS.of_own hyv rfl
      have hown := own_below HOW.out hb2
      have hdone := HD.out.below hb2
      have hbw := hbr.trans (hb2.mono hbr.size)
      have hlen : ys.length = ls.length * 3 := hown.1
      have hc0 : ∃ u, w2.cell? ⟨w.heap.size, k * 3, none⟩ = some u := ⟨ys[k * 3]'(by omega), by rw [hown.cellAt (k * 3) (by omega)]; exact List.getElem?_eq_getElem _⟩
      have hc1 : ∃ u, w2.cell? ⟨w.heap.size, k * 3 + 1, none⟩ = some u := ⟨ys[k * 3 + 1]'(by omega), by rw [hown.cellAt (k * 3 + 1) (by omega)]; exact List.getElem?_eq_getElem _⟩
      have hc2 : ∃ u, w2.cell? ⟨w.heap.size, k * 3 + 2, none⟩ = some u := ⟨ys[k * 3 + 2]'(by omega), by rw [hown.cellAt (k * 3 + 2) (by omega)]; exact List.getElem?_eq_getElem _⟩
      obtain ⟨u0, hc0⟩ := hc0
      obtain ⟨u1, hc1⟩ := hc1
      obtain ⟨u2, hc2⟩ := hc2
      have hf0 : w2.frozen? ⟨w.heap.size, k * 3, none⟩ = false := hown.frozenAt _
      have hf1 : w2.frozen? ⟨w.heap.size, k * 3 + 1, none⟩ = false := hown.frozenAt _
      have hf2 : w2.frozen? ⟨w.heap.size, k * 3 + 2, none⟩ = false := hown.frozenAt _
      have DS := hdone.stored (x := .string (ad ls k).name) (by omega) rfl HD.out.lt hyc hyv (by omega)
      have OS := (((hown.stored (k * 3) (.string (ad ls k).name)).1.stored (k * 3 + 1) (.slice o3 (ad ls k).cuts.length c3)).1.stored (k * 3 + 2) (.slice o4 (ad ls k).vals.length c4)).1
      have BS : Below w.heap.size w (((w2.setCell ⟨w.heap.size, k * 3, none⟩ (.string (ad ls k).name)).setCell ⟨w.heap.size, k * 3 + 1, none⟩ (.slice o3 (ad ls k).cuts.length c3)).setCell ⟨w.heap.size, k * 3 + 2, none⟩ (.slice o4 (ad ls k).vals.length c4)) :=
        ((hbw.setCell (p := ⟨w.heap.size, k * 3, none⟩) (Nat.le_refl _) _).setCell (p := ⟨w.heap.size, k * 3 + 1, none⟩) (Nat.le_refl _) _).setCell (p := ⟨w.heap.size, k * 3 + 2, none⟩) (Nat.le_refl _) _
      have HX : Hid ((((w2.setCell ⟨w.heap.size, k * 3, none⟩ (.string (ad ls k).name)).setCell ⟨w.heap.size, k * 3 + 1, none⟩ (.slice o3 (ad ls k).cuts.length c3)).setCell ⟨w.heap.size, k * 3 + 2, none⟩ (.slice o4 (ad ls k).vals.length c4)).ownsRow w.heap.size 55 3 (.slice (some ⟨w.heap.size, 0, none⟩) ls.length ls.length) ls.length (((ys.set (k * 3) (.string (ad ls k).name)).set (k * 3 + 1) (.slice o3 (ad ls k).cuts.length c3)).set (k * 3 + 2) (.slice o4 (ad ls k).vals.length c4)) ∧
        DoneL (((w2.setCell ⟨w.heap.size, k * 3, none⟩ (.string (ad ls k).name)).setCell ⟨w.heap.size, k * 3 + 1, none⟩ (.slice o3 (ad ls k).cuts.length c3)).setCell ⟨w.heap.size, k * 3 + 2, none⟩ (.slice o4 (ad ls k).vals.length c4)) (w.heap.size + 1) (((ys.set (k * 3) (.string (ad ls k).name)).set (k * 3 + 1) (.slice o3 (ad ls k).cuts.length c3)).set (k * 3 + 2) (.slice o4 (ad ls k).vals.length c4)) (fun j => if j = k then (.slice o3 (ad ls k).cuts.length c3, .slice o4 (ad ls k).vals.length c4) else L j) ls (k + 1) ∧
        Below w.heap.size w (((w2.setCell ⟨w.heap.size, k * 3, none⟩ (.string (ad ls k).name)).setCell ⟨w.heap.size, k * 3 + 1, none⟩ (.slice o3 (ad ls k).cuts.length c3)).setCell ⟨w.heap.size, k * 3 + 2, none⟩ (.slice o4 (ad ls k).vals.length c4))) := ⟨OS, DS, BS⟩
      clear DS OS BS hown hdone hbw hyc hyv hb2 hbr HOW HD
      go_wp2
      go_roundw
      case rel => exact ⟨k + 1, _, _, by go_num, by omega, HX.out.1, HX.out.2.1, HX.out.2.2⟩
      case measure => simp [intOf]; omega
    · obtain rfl : k = ls.length := by omega
      go_wp2
      go_ret
      exact ⟨_, rfl, ⟨L, ys, HD.out.sep HOW.out⟩, hbr⟩

set_option maxHeartbeats 800000 in
theorem toSchema_sep (v : Value) (a : SchemaD) (w : World) (h : SchemaAt w v a) (hf : fitS a) :
    Calls Try.prog 33 #[v] w fun e w' => ∃ v', e = .returned v' ∧ OwnSp w.heap.size w' v' a ∧ Below w.heap.size w w' := by
  obtain ⟨vc, vv, rfl, hc, hv⟩ := h
  have HC : Hid (RowA w vc a.attrs) := hc
  have HV : Hid (RowS w vv a.classes) := hv
  clear hc hv
  go_enter Try.func33, Try.ntmps33
  go_wp2_with fail
  obtain ⟨K1, K2, K3, B0⟩ := blk_3 61 27 27 w #[vc, vv] #[.slice none 0 0, .slice none 0 0] #[.slice none 0 0, .slice none 0 0]
  refine (toAttrS_sep vc a.attrs _ (HC.out.later B0) hf.attrs hf.each).mono ?_
  rintro e w1 ⟨g1, rfl, ⟨L, ys, ho1⟩, hb1⟩
  have HLB : Hid (∀ j, j < a.attrs.length → ∀ b, (L j).2.ownBlock = some b → b < w1.heap.size) := fun j hj b hb => ((ho1.strs j hj).lt b hb).2
  replace K1 := K1.below hb1
  replace K2 := K2.below hb1
  replace K3 := K3.below hb1
  have hsz := hb1.size
  simp at hsz
  have ho1 := ho1.base (b' := w.heap.size + 3) (by simp)
  have B1 : Below w.heap.size w w1 := B0.trans (hb1.mono (by simp; omega))
  clear hb1 B0
  generalize hV1 : Value.slice (some ⟨g1, 0, none⟩) a.attrs.length a.attrs.length = V1 at ho1
  have HV1 : Hid (Value.slice (some ⟨g1, 0, none⟩) a.attrs.length a.attrs.length = V1) := hV1
  have c3 : w1.cell? ⟨w.heap.size + 1 + 1, 0, none⟩ = some (.slice none 0 0) := K3.cell 0
  have f3 := K3.frozen 0
  have S1 := K1.setCell_other ⟨w.heap.size + 1 + 1, 0, none⟩ V1 (by simp; omega)
  have S2 := K2.setCell_other ⟨w.heap.size + 1 + 1, 0, none⟩ V1 (by simp)
  have S3 := K3.setCell 0 V1
  have B2 : Below w.heap.size w (w1.setCell ⟨w.heap.size + 1 + 1, 0, none⟩ V1) := B1.setCell (p := ⟨w.heap.size + 1 + 1, 0, none⟩) (by simp; omega) _
  have hsz2 : (w1.setCell ⟨w.heap.size + 1 + 1, 0, none⟩ V1).heap.size = w1.heap.size := by simp [World.setCell]
  have O1 := ho1.setCell ⟨w.heap.size + 1 + 1, 0, none⟩ V1 (by simp)
  have cS : (w1.setCell ⟨w.heap.size + 1 + 1, 0, none⟩ V1).cell? ⟨w.heap.size, 1, none⟩ = some vv := S1.cell 1
  subst hV1
  have HO1 : Hid (SepL (w.heap.size + 3) (w1.setCell ⟨w.heap.size + 1 + 1, 0, none⟩ (.slice (some ⟨g1, 0, none⟩) a.attrs.length a.attrs.length)) (.slice (some ⟨g1, 0, none⟩) a.attrs.length a.attrs.length) L ys a.attrs a.attrs.length) := O1
  have HS : Hid (Blk 27 (w1.setCell ⟨w.heap.size + 1 + 1, 0, none⟩ (.slice (some ⟨g1, 0, none⟩) a.attrs.length a.attrs.length)) (w.heap.size + 1) #[.slice none 0 0, .slice none 0 0] ∧ Blk 27 (w1.setCell ⟨w.heap.size + 1 + 1, 0, none⟩ (.slice (some ⟨g1, 0, none⟩) a.attrs.length a.attrs.length)) (w.heap.size + 1 + 1) #[(.slice (some ⟨g1, 0, none⟩) a.attrs.length a.attrs.length), .slice none 0 0] ∧ Below w.heap.size w (w1.setCell ⟨w.heap.size + 1 + 1, 0, none⟩ (.slice (some ⟨g1, 0, none⟩) a.attrs.length a.attrs.length))) := ⟨S2, S3, B2⟩
  clear K1 K2 K3 S1 S2 S3 B2 O1 ho1 B1 HV1
  go_wp2_with fail
  clear c3 f3
  refine (toS_row vv a.classes _ (HV.out.later HS.out.2.2) hf.classes).mono ?_
  rintro e w2 ⟨g2, rfl, ho2, hb2⟩
  have O1 := HO1.out.below hb2
  obtain ⟨S2, S3, B2⟩ := HS.out
  replace S2 := S2.below hb2
  replace S3 := S3.below hb2
  have B3 := B2.trans (hb2.mono B2.size)
  have hsz3 := hb2.size
  have HO2B : Hid (∀ b, (Value.slice (some ⟨g2, 0, none⟩) a.classes.length a.classes.length).ownBlock = some b → w1.heap.size ≤ b) := fun b hb => by have := (ho2.lt b hb).1; rw [hsz2] at this; exact this
  have ho2 := own_base ho2 (b' := w.heap.size + 3) (by omega)
  clear HS HO1 HC HV hb2 B2
  have c3 : w2.cell? ⟨w.heap.size + 1 + 1, 1, none⟩ = some (.slice none 0 0) := S3.cell 1
  have f3 := S3.frozen 1
  have T2 := S2.setCell_other ⟨w.heap.size + 1 + 1, 1, none⟩ (.slice (some ⟨g2, 0, none⟩) a.classes.length a.classes.length) (by simp)
  have T3 := S3.setCell 1 (.slice (some ⟨g2, 0, none⟩) a.classes.length a.classes.length)
  have B4 : Below w.heap.size w (w2.setCell ⟨w.heap.size + 1 + 1, 1, none⟩ (.slice (some ⟨g2, 0, none⟩) a.classes.length a.classes.length)) := B3.setCell (p := ⟨w.heap.size + 1 + 1, 1, none⟩) (by simp; omega) _
  have O1 := O1.setCell ⟨w.heap.size + 1 + 1, 1, none⟩ (.slice (some ⟨g2, 0, none⟩) a.classes.length a.classes.length) (by simp)
  have O2 := own_setCell ho2 ⟨w.heap.size + 1 + 1, 1, none⟩ (.slice (some ⟨g2, 0, none⟩) a.classes.length a.classes.length) (by simp)
  have HT : Hid (Below w.heap.size w (w2.setCell ⟨w.heap.size + 1 + 1, 1, none⟩ (.slice (some ⟨g2, 0, none⟩) a.classes.length a.classes.length)) ∧ SepL (w.heap.size + 3) (w2.setCell ⟨w.heap.size + 1 + 1, 1, none⟩ (.slice (some ⟨g2, 0, none⟩) a.classes.length a.classes.length)) (.slice (some ⟨g1, 0, none⟩) a.attrs.length a.attrs.length) L ys a.attrs a.attrs.length ∧ (w2.setCell ⟨w.heap.size + 1 + 1, 1, none⟩ (.slice (some ⟨g2, 0, none⟩) a.classes.length a.classes.length)).ownsRow (w.heap.size + 3) 9 1 (.slice (some ⟨g2, 0, none⟩) a.classes.length a.classes.length) a.classes.length (a.classes.map Value.string)) := ⟨B4, O1, O2⟩
  have HT2 : Hid (Blk 27 (w2.setCell ⟨w.heap.size + 1 + 1, 1, none⟩ (.slice (some ⟨g2, 0, none⟩) a.classes.length a.classes.length)) (w.heap.size + 1) #[.slice none 0 0, .slice none 0 0] ∧ Blk 27 (w2.setCell ⟨w.heap.size + 1 + 1, 1, none⟩ (.slice (some ⟨g2, 0, none⟩) a.classes.length a.classes.length)) (w.heap.size + 1 + 1) #[(.slice (some ⟨g1, 0, none⟩) a.attrs.length a.attrs.length), (.slice (some ⟨g2, 0, none⟩) a.classes.length a.classes.length)]) := ⟨T2, T3⟩
  clear S2 S3 T2 T3 B4 O1 O2 ho2 B3
  go_wp2_with (first | (with_reducible refine wp_sc_load rfl _ rfl ?_; refine ⟨_, rfl, _, _, HT2.out.2, ?_⟩) | (with_reducible refine wp_sc_store rfl _ _ rfl ?_; refine ⟨_, rfl, _, _, _, _, _, _, rfl, _, _, HT2.out.1, ?_⟩))
  refine bodyPost_ret (res_sc Try.results33 _ _ _ _ _ rfl (HT2.out.1.setRow _)) rfl ⟨_, rfl, ⟨_, _, L, ys, rfl, ?_, ?_, fun j c b hj hc hb => ?_⟩, ?_⟩
  · exact (HT.out.2.1.setRow _ _ (by omega)).base (by omega)
  · exact own_base (own_setRow HT.out.2.2 _ _ (by omega)) (by omega)
  · have h1 := HO2B.out c hc
    have h2 := HLB.out j hj b hb
    omega
  · exact below_row HT.out.1 (by omega) _
end Go.Proofs.Ytobimpgapfecoaa
/- What the law writes over a list of integers, and looks at again. -/
namespace Go.Proofs.Ytobimpgapfecoaa
open Go.RowKit
set_option maxRecDepth 100000

def mkI (k : Int) : Value := .int .i64 (k)

set_option maxHeartbeats 400000 in
theorem markI_pos (g n cap base : Nat) (k0 : Int) (xs : List Value) (w : World) (hn : n ≤ 140737488351232) (h0 : 0 ≤ k0) (h1 : k0 ≤ 140737488351232)
    (ho : w.ownsRow base 3 1 (.slice (some ⟨g, 0, none⟩) n cap) n xs) :
    Calls Try.prog 82 #[.slice (some ⟨g, 0, none⟩) n cap, .int .i64 k0] w fun e w' => e = .returned (.int .i64 (k0 + n)) ∧ (∃ ys, w'.ownsRow base 3 1 (.slice (some ⟨g, 0, none⟩) n cap) n ys ∧ ∀ j, j < n → ys[j]? = some (mkI (k0 + j))) ∧ w.grownBy w' (some g) := by
  go_enter Try.func82, Try.ntmps82
  go_wp2
  go_loopw [1, 5] (fun kk i wr => ∃ (k : Nat) (ys : List Value), i = .int .i64 k ∧ kk = .int .i64 (k0 + k) ∧ k ≤ n ∧ wr.ownsRow base 3 1 (.slice (some ⟨g, 0, none⟩) n cap) n ys ∧ (∀ j, j < k → ys[j]? = some (mkI (k0 + j))) ∧ w.grownBy wr (some g)) (fun _ i _ => n - (intOf i).toNat)
  case atStart => exact ⟨0, xs, rfl, by simp, by omega, ho, by omega, World.grownBy.refl _ _⟩
  case round =>
    obtain ⟨k, ys, rfl, rfl, hk, hown, hys, hgr⟩ := hrel
    by_cases hlt : k < n
    · have hlen : ys.length = n := by have := hown.1; omega
      have hc : wr.cell? ⟨g, k, none⟩ = some (ys[k]'(by omega)) := by rw [hown.cellAt k (by omega)]; exact List.getElem?_eq_getElem _
      have hf : wr.frozen? ⟨g, k, none⟩ = false := hown.frozenAt k
      go_wp2
      go_roundw
      case rel =>
        have hs := hown.stored k (mkI (k0 + k))
        refine ⟨k + 1, _, by go_num, by go_num, by omega, hs.1, ?_, grownBy_trans hgr hs.2⟩
        intro j hj
        rw [List.getElem?_set]
        by_cases e : k = j
        · subst e; rw [if_pos rfl, if_pos (by omega)]
        · rw [if_neg e]; exact hys j (by omega)
      case measure => simp [intOf]; omega
    · go_wp2
      go_ret
      exact ⟨ret_int (by omega), ⟨ys, hown, fun j hj => hys j (by omega)⟩, hgr⟩

set_option maxHeartbeats 400000 in
theorem heldI_pos (g n cap base : Nat) (k0 : Int) (ys : List Value) (w : World) (hn : n ≤ 140737488351232) (h0 : 0 ≤ k0) (h1 : k0 ≤ 140737488351232)
    (ho : w.ownsRow base 3 1 (.slice (some ⟨g, 0, none⟩) n cap) n ys) (hys : ∀ j, j < n → ys[j]? = some (mkI (k0 + j))) :
    Calls Try.prog 84 #[.slice (some ⟨g, 0, none⟩) n cap, .int .i64 k0] w fun e w' => e = .returned (.int .i64 (k0 + n)) ∧ w' = w := by
  go_enter Try.func84, Try.ntmps84
  go_wp2
  go_loop [1, 5] (fun kk i => ∃ k : Nat, i = .int .i64 k ∧ kk = .int .i64 (k0 + k) ∧ k ≤ n) (fun _ i => n - (intOf i).toNat)
  case atStart => exact ⟨0, rfl, by simp, by omega⟩
  case round =>
    obtain ⟨k, rfl, rfl, hk⟩ := hrel
    by_cases hlt : k < n
    · have hc : w.cell? ⟨g, k, none⟩ = some (.int .i64 ((k0 + k))) := by rw [ho.cellAt k (by omega)]; exact hys k hlt
      clear hys
      go_wp2
      go_round
      case rel => exact ⟨k + 1, by go_num, by go_num, by omega⟩
      case measure => simp [intOf]; omega
    · go_wp2
      go_ret
      exact ⟨ret_int (by omega), rfl⟩

theorem markI_zero (k0 : Int) (w : World) : Calls Try.prog 82 #[.slice none 0 0, .int .i64 k0] w fun e w' => e = .returned (.int .i64 k0) ∧ w' = w := by
  go_enter Try.func82, Try.ntmps82
  go_wp2
  refine wp_loop_rounds 1 ?_
  rw [rounds_succ]
  go_wp2
  go_ret
  exact ⟨rfl, rfl⟩

theorem heldI_zero (k0 : Int) (w : World) : Calls Try.prog 84 #[.slice none 0 0, .int .i64 k0] w fun e w' => e = .returned (.int .i64 k0) ∧ w' = w := by
  go_enter Try.func84, Try.ntmps84
  go_wp2
  refine wp_loop_rounds 1 ?_
  rw [rounds_succ]
  go_wp2
  go_ret
  exact ⟨rfl, rfl⟩

theorem markI_any (n base : Nat) (v : Value) (k0 : Int) (xs : List Value) (w : World) (hn : n ≤ 140737488351232) (h0 : 0 ≤ k0) (h1 : k0 ≤ 140737488351232) (ho : w.ownsRow base 3 1 v n xs) :
    Calls Try.prog 82 #[v, .int .i64 k0] w fun e w' => e = .returned (.int .i64 (k0 + n)) ∧ (∃ ys, w'.ownsRow base 3 1 v n ys ∧ ∀ j, j < n → ys[j]? = some (mkI (k0 + j))) ∧ w.grownBy w' v.ownBlock := by
  rcases ho.2 with ⟨rfl, rfl⟩ | ⟨g, cap, cur, rfl, _⟩
  · refine (markI_zero k0 w).mono fun e w' ⟨he, hw⟩ => ?_
    subst he hw
    exact ⟨ret_int (by omega), ⟨xs, ho, by omega⟩, World.grownBy.refl _ _⟩
  · exact markI_pos g n cap base k0 xs w hn h0 h1 ho

theorem heldI_any (n base : Nat) (v : Value) (k0 : Int) (ys : List Value) (w : World) (hn : n ≤ 140737488351232) (h0 : 0 ≤ k0) (h1 : k0 ≤ 140737488351232) (ho : w.ownsRow base 3 1 v n ys) (hys : ∀ j, j < n → ys[j]? = some (mkI (k0 + j))) :
    Calls Try.prog 84 #[v, .int .i64 k0] w fun e w' => e = .returned (.int .i64 (k0 + n)) ∧ w' = w := by
  rcases ho.2 with ⟨rfl, rfl⟩ | ⟨g, cap, cur, rfl, _⟩
  · refine (heldI_zero k0 w).mono fun e w' ⟨he, hw⟩ => ?_
    subst he hw
    exact ⟨ret_int (by omega), rfl⟩
  · exact heldI_pos g n cap base k0 ys w hn h0 h1 ho hys
/-- Two rows apart: the one was there ahead of the other's memory; the other way round. -/
theorem apart' {w : World} {v v' : Value} {b b' n n' e e' B : Nat} {xs xs' : List Value} (_h : w.ownsRow b e 1 v n xs) (h' : w.ownsRow b' e' 1 v' n' xs') (hb : ∀ k, v.ownBlock = some k → k < B) (hB : B ≤ b' := by omega) : v.ownBlock = none ∨ v.ownBlock ≠ v'.ownBlock :=
  apart _h h' fun k hk => Nat.lt_of_lt_of_le (hb k hk) hB
theorem apart2 {w : World} {v v' : Value} {b b' n n' e e' B : Nat} {xs xs' : List Value} (h : w.ownsRow b e 1 v n xs) (_h' : w.ownsRow b' e' 1 v' n' xs') (hb : ∀ k, v'.ownBlock = some k → k < B) (hB : B ≤ b := by omega) : v.ownBlock = none ∨ v.ownBlock ≠ v'.ownBlock := by
  cases ev : v.ownBlock with
  | none => exact .inl rfl
  | some k =>
    refine .inr fun e' => ?_
    have h1 := hb k e'.symm
    have h2 := (h.lt k ev).1
    omega
end Go.Proofs.Ytobimpgapfecoaa
/- The decimal digits of a number, one by one. -/
namespace Go.Proofs.Ytobimpgapfecoaa
open Go.RowKit
set_option maxRecDepth 100000

def ds (u : Nat) : List UInt8 := if u = 0 then [] else Lib.decDigits u
theorem ds_pos (u : Nat) (h : 0 < u) : ds u = ds (u / 10) ++ [UInt8.ofNat (48 + u % 10)] := by
  unfold ds
  rw [if_neg (by omega), Lib.decDigits]
  by_cases h10 : u < 10
  · rw [dif_pos h10, if_pos (by omega), Nat.mod_eq_of_lt h10]; rfl
  · rw [dif_neg h10, if_neg (by omega)]
theorem ds_zero : ds 0 = [] := rfl
theorem ds_of (u : Nat) (h : 0 < u) : ds u = Lib.decDigits u := if_neg (by omega)

theorem one_text (wx : World) (b : Int) : (convert 22 9 (.slice (some ⟨wx.heap.size, 0, none⟩) 1 1)).run Try.prog (wx.alloc (.cells #[.int .u8 b] 5)) = .ok (.string ⟨#[UInt8.ofNat b.toNat]⟩) (wx.alloc (.cells #[.int .u8 b] 5)) :=
  run_convert_bytes_arg (P := Try.prog) _ 22 5 Try.underlying22 Try.underlying5 wx.heap.size 0 1 1 [b] rfl (fun i hi => by
    obtain rfl : i = 0 := by omega
    simp) _ Try.underlying9

theorem one_text_drew (wx : World) (b : Int) : (convert 22 9 (.slice (some ⟨wx.heap.size, 0, none⟩) 1 1)).run Try.prog (wx.alloc (.cells #[.int .u8 b] 5)).drew = .ok (.string ⟨#[UInt8.ofNat b.toNat]⟩) (wx.alloc (.cells #[.int .u8 b] 5)).drew :=
  run_convert_bytes_arg (P := Try.prog) _ 22 5 Try.underlying22 Try.underlying5 wx.heap.size 0 1 1 [b] rfl (fun i hi => by
    obtain rfl : i = 0 := by omega
    show (wx.alloc (.cells #[.int .u8 b] 5)).cell? _ = _
    simp) _ Try.underlying9

theorem pow_step (u k : Nat) (h0 : 0 < u) (h : u < 10 ^ (19 - k)) : k < 19 ∧ u / 10 < 10 ^ (19 - (k + 1)) := by
  have hk : k < 19 := by
    rcases Nat.lt_or_ge k 19 with h1 | h1
    · exact h1
    · rw [show 19 - k = 0 by omega] at h; simp at h; omega
  refine ⟨hk, Nat.div_lt_of_lt_mul ?_⟩
  rw [show 19 - k = 19 - (k + 1) + 1 by omega, Nat.pow_succ, Nat.mul_comm] at h
  exact h

theorem cat1 (b c : UInt8) (done : List UInt8) (h : b = c) : Value.string ((⟨#[b]⟩ : ByteArray) ++ ⟨done.toArray⟩) = .string ⟨(c :: done).toArray⟩ := by
  subst h
  congr 1

end Go.Proofs.Ytobimpgapfecoaa
/- What the laws' own helpers write over a list of texts, and look at again. -/
namespace Go.Proofs.Ytobimpgapfecoaa
open Go.RowKit
set_option maxRecDepth 100000

/-- The text that the law writes in the k-th place. -/
def mtxt (k : Nat) : ByteArray := ⟨(109 :: ds k).toArray⟩

set_option maxHeartbeats 800000 in
theorem markText_any (u0 : Nat) (w : World) (h0 : 0 < u0) (h1 : u0 ≤ 9223372036854775807) :
    Calls Try.prog 110 #[.int .i64 (u0 : Int)] w fun e w' => e = .returned (.string (mtxt u0)) ∧ Below w.heap.size w w' := by
  have ot := one_text
  have hn0 : decide ((u0 : Int) ≤ 0) = false := by simp; omega
  go_enter Try.func110, Try.ntmps110
  go_wp2
  go_loopw [0, 3] (fun n v wr => ∃ (u : Nat) (done : List UInt8), n = .int .i64 (u : Int) ∧ u ≤ 9223372036854775807 ∧ v = .string ⟨done.toArray⟩ ∧ done.length ≤ 19 ∧ u < 10 ^ (19 - done.length) ∧ ds u ++ done = ds u0 ∧ Below w.heap.size w wr) (fun n _ _ => (intOf n).toNat)
  case atStart => exact ⟨u0, [], rfl, h1, rfl, by simp, by simp; omega, by simp, Below.refl _ _⟩
  case round =>
    obtain ⟨u, done, rfl, hu, rfl, hlen, hdn, hE, hb⟩ := hrel
    have HE : Hid (ds u ++ done = ds u0) := hE
    have HD : Hid (u < 10 ^ (19 - done.length)) := hdn
    clear hE hdn
    by_cases hz : 0 < u
    · go_wp2
      go_roundw
      case rel =>
        obtain ⟨p1, p2⟩ := pow_step u done.length hz HD.out
        refine ⟨u / 10, UInt8.ofNat (48 + u % 10) :: done, by go_num, by omega, ?_, by simp; omega, by simpa using p2, ?_, ?_⟩
        · exact cat1 _ _ _ (by first | (simp; done) | (congr 1; omega))
        · rw [← HE.out, ds_pos u hz]; simp
        · exact hb.alloc hb.size _
      case measure => simp [intOf]; omega
    · obtain rfl : u = 0 := by omega
      go_wp2
      go_ret
      refine ⟨?_, hb⟩
      have hE := HE.out
      rw [ds_zero, List.nil_append] at hE
      unfold mtxt
      rw [← hE]
      exact congrArg Ending.returned (cat1 109 109 done rfl)

def mkS (k0 : Nat) (j : Nat) : Value := .string (mtxt (k0 + j))

set_option maxHeartbeats 800000 in
theorem markS_any (g n cap base k0 : Nat) (xs : List Value) (w : World) (hn : n ≤ 140737488351232) (h0 : 0 < k0) (h1 : k0 ≤ 140737488351232)
    (ho : w.ownsRow base 9 1 (.slice (some ⟨g, 0, none⟩) n cap) n xs) :
    Calls Try.prog 81 #[.slice (some ⟨g, 0, none⟩) n cap, .int .i64 (k0 : Int)] w fun e w' => e = .returned (.int .i64 ((k0 : Int) + n)) ∧ (∃ ys, w'.ownsRow base 9 1 (.slice (some ⟨g, 0, none⟩) n cap) n ys ∧ ∀ j, j < n → ys[j]? = some (mkS k0 j)) ∧ w.grownBy w' (some g) := by
  go_enter Try.func81, Try.ntmps81
  go_wp2
  go_loopw [1, 5] (fun kk i wr => ∃ (k : Nat) (ys : List Value), i = .int .i64 k ∧ kk = .int .i64 ((k0 : Int) + k) ∧ k ≤ n ∧ wr.ownsRow base 9 1 (.slice (some ⟨g, 0, none⟩) n cap) n ys ∧ (∀ j, j < k → ys[j]? = some (mkS k0 j)) ∧ w.grownBy wr (some g)) (fun _ i _ => n - (intOf i).toNat)
  case atStart => exact ⟨0, xs, rfl, by simp, by omega, ho, by omega, World.grownBy.refl _ _⟩
  case round =>
    obtain ⟨k, ys, rfl, rfl, hk, hown, hys, hgr⟩ := hrel
    by_cases hlt : k < n
    · go_wp2_with fail
      rw [show (k0 : Int) + (k : Int) = ((k0 + k : Nat) : Int) by omega]
      refine (markText_any (k0 + k) wr (by omega) (by omega)).mono ?_
      rintro e w1 ⟨rfl, hb1⟩
      have hown := own_below hown hb1
      have hlen : ys.length = n := by have := hown.1; omega
      have hc : w1.cell? ⟨g, k, none⟩ = some (ys[k]'(by omega)) := by rw [hown.cellAt k (by omega)]; exact List.getElem?_eq_getElem _
      have hf : w1.frozen? ⟨g, k, none⟩ = false := hown.frozenAt k
      have hgr1 : w.grownBy w1 (some g) := ⟨hb1.os.trans hgr.os, hb1.tape.trans hgr.tape, hb1.output.trans hgr.output, Nat.le_trans hgr.size hb1.size, fun j hj hr => (hb1.block j (Nat.lt_of_lt_of_le hj hgr.size)).trans (hgr.block j hj hr)⟩
      have hs := hown.stored k (mkS k0 k)
      have HS : Hid ((w1.setCell ⟨g, k, none⟩ (mkS k0 k)).ownsRow base 9 1 (.slice (some ⟨g, 0, none⟩) n cap) n (ys.set k (mkS k0 k)) ∧ w.grownBy (w1.setCell ⟨g, k, none⟩ (mkS k0 k)) (some g)) := ⟨hs.1, grownBy_trans hgr1 hs.2⟩
      clear hs hgr hgr1 hown hb1
      go_wp2
      go_roundw
      case rel =>
        refine ⟨k + 1, _, by go_num, by go_num, by omega, HS.out.1, ?_, HS.out.2⟩
        intro j hj
        rw [List.getElem?_set]
        by_cases e : k = j
        · subst e; rw [if_pos rfl, if_pos (by omega)]
        · rw [if_neg e]; exact hys j (by omega)
      case measure => simp [intOf]; omega
    · go_wp2
      go_ret
      exact ⟨ret_int (by omega), ⟨ys, hown, fun j hj => hys j (by omega)⟩, hgr⟩

theorem markS_zero (k0 : Int) (w : World) : Calls Try.prog 81 #[.slice none 0 0, .int .i64 k0] w fun e w' => e = .returned (.int .i64 k0) ∧ w' = w := by
  go_enter Try.func81, Try.ntmps81
  go_wp2
  refine wp_loop_rounds 1 ?_
  rw [rounds_succ]
  go_wp2
  go_ret
  exact ⟨rfl, rfl⟩
theorem markS_all (n base k0 : Nat) (v : Value) (xs : List Value) (w : World) (hn : n ≤ 140737488351232) (h0 : 0 < k0) (h1 : k0 ≤ 140737488351232) (ho : w.ownsRow base 9 1 v n xs) :
    Calls Try.prog 81 #[v, .int .i64 (k0 : Int)] w fun e w' => e = .returned (.int .i64 ((k0 : Int) + n)) ∧ (∃ ys, w'.ownsRow base 9 1 v n ys ∧ ∀ j, j < n → ys[j]? = some (mkS k0 j)) ∧ w.grownBy w' v.ownBlock := by
  rcases id ho.2 with ⟨rfl, rfl⟩ | ⟨g, cap, cur, rfl, _⟩
  · refine (markS_zero k0 w).mono fun e w' ⟨he, hw⟩ => ?_
    subst he hw
    exact ⟨ret_int (by simp), ⟨xs, ho, by omega⟩, World.grownBy.refl _ _⟩
  · exact markS_any g n cap base k0 xs w hn h0 h1 ho
end Go.Proofs.Ytobimpgapfecoaa
