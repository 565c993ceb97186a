/- Texts of this claim, put together: part 6. -/
import Derived.Test.YtobimpgapfecoaaStatsNewPack4
import Derived.Test.YtobimpgapfecoaaStatsNewPack5
import Derived.ChangeSame
import Derived.Deep.Strs
/- A copy of a schema that came in, by the laws' own helpers. -/
namespace Go.Proofs.Ytobimpgapfecoaa
open Go.RowKit
set_option maxRecDepth 100000
set_option maxHeartbeats 1600000 in
theorem toAttrS_row (v : Value) (ls : List AttrD) (w : World) (h : RowA w v ls) (hn : ls.length ≤ 1048576) (hf : ∀ a ∈ ls, fitA a) :
    Calls Try.prog 74 #[v] w fun e w' => ∃ g, e = .returned (.slice (some ⟨g, 0, none⟩) ls.length ls.length) ∧ OwnL w.heap.size w' (.slice (some ⟨g, 0, none⟩) ls.length ls.length) ls ∧ Below w.heap.size w w' := by
  obtain ⟨i0, hi, hz0, hz1, hz2⟩ := info_parts atInfo
  obtain ⟨oa, cap, rfl, hc, hr⟩ := h
  have HR : Hid (0 < ls.length → ∃ g o, oa = some ⟨g, o, none⟩ ∧ g < w.heap.size ∧ ∀ j, j < ls.length → CellsA w g (o + j * 3) (ad ls j)) := hr
  have HF : Hid (∀ a ∈ ls, fitA a) := hf
  clear hr hf
  go_enter Try.func74, Try.ntmps74
  go_wp2_with (at_make; refine wpList_make_full _ rfl _ _ 24 rfl w.heap.size 55 i0 (.agg #[.string ⟨#[]⟩, .slice none 0 0, .slice none 0 0]) 3 Try.underlying24 hi hz0 hz1 .i64 .i64 _ _ ls.length rfl rfl rfl rfl ?c1 ?c2 ?c3 ?_)
  case c1 => rw [hz2]; omega
  case c2 => unfold maxLen; omega
  case c3 => omega
  intro w1 ho1 hg1
  have hb1 : Below w.heap.size w w1 := (Below.refl _ _).grown hg1 (Nat.le_refl _) (by intro k hk; cases hk)
  clear hg1
  go_wp2
  go_loopw [4] (fun i wr => ∃ (k : Nat) (ys : List Value), i = .int .i64 k ∧ k ≤ ls.length ∧ wr.ownsRow w.heap.size 55 3 (.slice (some ⟨w.heap.size, 0, none⟩) ls.length ls.length) ls.length ys ∧ DoneA wr (w.heap.size + 1) ys ls k ∧ Below w.heap.size w wr) (fun i _ => ls.length - (intOf i).toNat)
  case atStart => exact ⟨0, _, rfl, by omega, ho1, fun j hj => by omega, hb1⟩
  case round =>
    obtain ⟨k, ys, rfl, hk, hown, hys, hbr⟩ := hrel
    clear ho1 hb1
    have HOW : Hid (wr.ownsRow w.heap.size 55 3 (.slice (some ⟨w.heap.size, 0, none⟩) ls.length ls.length) ls.length ys) := hown
    have HD : Hid (DoneA wr (w.heap.size + 1) ys ls k) := hys
    clear hown hys
    by_cases hlt : k < ls.length
    · obtain ⟨b, o, rfl, hb, hj⟩ := HR.out (by omega)
      obtain ⟨vc, vv, q0, q1, q2, r1, r2⟩ := (hj k hlt).later hbr hb
      obtain ⟨o1, c1, rfl, -, -⟩ := id r1
      obtain ⟨o2, c2, rfl, -, -⟩ := id r2
      have hfk := HF.out _ (ad_mem hlt)
      have c := toAttr_row _ (ad ls k) wr ⟨_, _, rfl, r1, r2⟩ hfk.cuts hfk.vals
      clear hj r1 r2 hfk
      go_wp2_with fail
      refine c.mono ?_
      rintro e w2 ⟨v', rfl, hoa, hb2⟩
      clear c q0 q1 q2
      have hgl : w.heap.size < wr.heap.size := (HOW.out.lt w.heap.size rfl).2
      obtain ⟨yc, yv, rfl, hyc, hyv⟩ := hoa
      have hyc := own_base hyc (b' := w.heap.size + 1) (by omega)
      have hyv := own_base hyv (b' := w.heap.size + 1) (by omega)
      obtain ⟨o3, c3, rfl, -, -⟩ := RowI.of_own hyc rfl
      obtain ⟨o4, c4, rfl, -, -⟩ := RowS.of_own hyv rfl
      have hown := own_below HOW.out hb2
      have hdone := HD.out.below hb2
      have hbw := hbr.trans (hb2.mono hbr.size)
      have hlen : ys.length = ls.length * 3 := hown.1
      have hc0 : ∃ u, w2.cell? ⟨w.heap.size, k * 3, none⟩ = some u := ⟨ys[k * 3]'(by omega), by rw [hown.cellAt (k * 3) (by omega)]; exact List.getElem?_eq_getElem _⟩
      have hc1 : ∃ u, w2.cell? ⟨w.heap.size, k * 3 + 1, none⟩ = some u := ⟨ys[k * 3 + 1]'(by omega), by rw [hown.cellAt (k * 3 + 1) (by omega)]; exact List.getElem?_eq_getElem _⟩
      have hc2 : ∃ u, w2.cell? ⟨w.heap.size, k * 3 + 2, none⟩ = some u := ⟨ys[k * 3 + 2]'(by omega), by rw [hown.cellAt (k * 3 + 2) (by omega)]; exact List.getElem?_eq_getElem _⟩
      obtain ⟨u0, hc0⟩ := hc0
      obtain ⟨u1, hc1⟩ := hc1
      obtain ⟨u2, hc2⟩ := hc2
      have hf0 : w2.frozen? ⟨w.heap.size, k * 3, none⟩ = false := hown.frozenAt _
      have hf1 : w2.frozen? ⟨w.heap.size, k * 3 + 1, none⟩ = false := hown.frozenAt _
      have hf2 : w2.frozen? ⟨w.heap.size, k * 3 + 2, none⟩ = false := hown.frozenAt _
      have DS := hdone.stored (x := .string (ad ls k).name) (by omega) rfl hyc hyv
      have OS := (((hown.stored (k * 3) (.string (ad ls k).name)).1.stored (k * 3 + 1) (.slice o3 (ad ls k).cuts.length c3)).1.stored (k * 3 + 2) (.slice o4 (ad ls k).vals.length c4)).1
      have BS : Below w.heap.size w (((w2.setCell ⟨w.heap.size, k * 3, none⟩ (.string (ad ls k).name)).setCell ⟨w.heap.size, k * 3 + 1, none⟩ (.slice o3 (ad ls k).cuts.length c3)).setCell ⟨w.heap.size, k * 3 + 2, none⟩ (.slice o4 (ad ls k).vals.length c4)) :=
        ((hbw.setCell (p := ⟨w.heap.size, k * 3, none⟩) (Nat.le_refl _) _).setCell (p := ⟨w.heap.size, k * 3 + 1, none⟩) (Nat.le_refl _) _).setCell (p := ⟨w.heap.size, k * 3 + 2, none⟩) (Nat.le_refl _) _
      have HX : Hid ((((w2.setCell ⟨w.heap.size, k * 3, none⟩ (.string (ad ls k).name)).setCell ⟨w.heap.size, k * 3 + 1, none⟩ (.slice o3 (ad ls k).cuts.length c3)).setCell ⟨w.heap.size, k * 3 + 2, none⟩ (.slice o4 (ad ls k).vals.length c4)).ownsRow w.heap.size 55 3 (.slice (some ⟨w.heap.size, 0, none⟩) ls.length ls.length) ls.length (((ys.set (k * 3) (.string (ad ls k).name)).set (k * 3 + 1) (.slice o3 (ad ls k).cuts.length c3)).set (k * 3 + 2) (.slice o4 (ad ls k).vals.length c4)) ∧
        DoneA (((w2.setCell ⟨w.heap.size, k * 3, none⟩ (.string (ad ls k).name)).setCell ⟨w.heap.size, k * 3 + 1, none⟩ (.slice o3 (ad ls k).cuts.length c3)).setCell ⟨w.heap.size, k * 3 + 2, none⟩ (.slice o4 (ad ls k).vals.length c4)) (w.heap.size + 1) (((ys.set (k * 3) (.string (ad ls k).name)).set (k * 3 + 1) (.slice o3 (ad ls k).cuts.length c3)).set (k * 3 + 2) (.slice o4 (ad ls k).vals.length c4)) ls (k + 1) ∧
        Below w.heap.size w (((w2.setCell ⟨w.heap.size, k * 3, none⟩ (.string (ad ls k).name)).setCell ⟨w.heap.size, k * 3 + 1, none⟩ (.slice o3 (ad ls k).cuts.length c3)).setCell ⟨w.heap.size, k * 3 + 2, none⟩ (.slice o4 (ad ls k).vals.length c4))) := ⟨OS, DS, BS⟩
      clear DS OS BS hown hdone hbw hyc hyv hb2 hbr HOW HD
      go_wp2
      go_roundw
      case rel => exact ⟨k + 1, _, by go_num, by omega, HX.out.1, HX.out.2.1, HX.out.2.2⟩
      case measure => simp [intOf]; omega
    · obtain rfl : k = ls.length := by omega
      go_wp2
      go_ret
      exact ⟨_, rfl, ⟨ys, HOW.out, HD.out.base (by omega)⟩, hbr⟩

set_option maxHeartbeats 800000 in
theorem toSchema_row (v : Value) (a : SchemaD) (w : World) (h : SchemaAt w v a) (hf : fitS a) :
    Calls Try.prog 33 #[v] w fun e w' => ∃ v', e = .returned v' ∧ OwnS w.heap.size w' v' a ∧ Below w.heap.size w w' := by
  obtain ⟨vc, vv, rfl, hc, hv⟩ := h
  have HC : Hid (RowA w vc a.attrs) := hc
  have HV : Hid (RowS w vv a.classes) := hv
  clear hc hv
  go_enter Try.func33, Try.ntmps33
  go_wp2_with fail
  obtain ⟨K1, K2, K3, B0⟩ := blk_3 61 27 27 w #[vc, vv] #[.slice none 0 0, .slice none 0 0] #[.slice none 0 0, .slice none 0 0]
  refine (toAttrS_row vc a.attrs _ (HC.out.later B0) hf.attrs hf.each).mono ?_
  rintro e w1 ⟨g1, rfl, ho1, hb1⟩
  replace K1 := K1.below hb1
  replace K2 := K2.below hb1
  replace K3 := K3.below hb1
  have hsz := hb1.size
  simp at hsz
  have ho1 := ho1.base (b' := w.heap.size + 3) (by simp)
  have B1 : Below w.heap.size w w1 := B0.trans (hb1.mono (by simp; omega))
  clear hb1 B0
  generalize hV1 : Value.slice (some ⟨g1, 0, none⟩) a.attrs.length a.attrs.length = V1 at ho1
  have HV1 : Hid (Value.slice (some ⟨g1, 0, none⟩) a.attrs.length a.attrs.length = V1) := hV1
  have c3 : w1.cell? ⟨w.heap.size + 1 + 1, 0, none⟩ = some (.slice none 0 0) := K3.cell 0
  have f3 := K3.frozen 0
  have S1 := K1.setCell_other ⟨w.heap.size + 1 + 1, 0, none⟩ V1 (by simp; omega)
  have S2 := K2.setCell_other ⟨w.heap.size + 1 + 1, 0, none⟩ V1 (by simp)
  have S3 := K3.setCell 0 V1
  have B2 : Below w.heap.size w (w1.setCell ⟨w.heap.size + 1 + 1, 0, none⟩ V1) := B1.setCell (p := ⟨w.heap.size + 1 + 1, 0, none⟩) (by simp; omega) _
  have hsz2 : (w1.setCell ⟨w.heap.size + 1 + 1, 0, none⟩ V1).heap.size = w1.heap.size := by simp [World.setCell]
  have O1 := ho1.setCell ⟨w.heap.size + 1 + 1, 0, none⟩ V1 (by simp)
  have cS : (w1.setCell ⟨w.heap.size + 1 + 1, 0, none⟩ V1).cell? ⟨w.heap.size, 1, none⟩ = some vv := S1.cell 1
  subst hV1
  have HO1 : Hid (OwnL (w.heap.size + 3) (w1.setCell ⟨w.heap.size + 1 + 1, 0, none⟩ (.slice (some ⟨g1, 0, none⟩) a.attrs.length a.attrs.length)) (.slice (some ⟨g1, 0, none⟩) a.attrs.length a.attrs.length) a.attrs) := O1
  have HS : Hid (Blk 27 (w1.setCell ⟨w.heap.size + 1 + 1, 0, none⟩ (.slice (some ⟨g1, 0, none⟩) a.attrs.length a.attrs.length)) (w.heap.size + 1) #[.slice none 0 0, .slice none 0 0] ∧ Blk 27 (w1.setCell ⟨w.heap.size + 1 + 1, 0, none⟩ (.slice (some ⟨g1, 0, none⟩) a.attrs.length a.attrs.length)) (w.heap.size + 1 + 1) #[(.slice (some ⟨g1, 0, none⟩) a.attrs.length a.attrs.length), .slice none 0 0] ∧ Below w.heap.size w (w1.setCell ⟨w.heap.size + 1 + 1, 0, none⟩ (.slice (some ⟨g1, 0, none⟩) a.attrs.length a.attrs.length))) := ⟨S2, S3, B2⟩
  clear K1 K2 K3 S1 S2 S3 B2 O1 ho1 B1 HV1
  go_wp2_with fail
  clear c3 f3
  refine (toS_row vv a.classes _ (HV.out.later HS.out.2.2) hf.classes).mono ?_
  rintro e w2 ⟨g2, rfl, ho2, hb2⟩
  have O1 := HO1.out.below hb2
  obtain ⟨S2, S3, B2⟩ := HS.out
  replace S2 := S2.below hb2
  replace S3 := S3.below hb2
  have B3 := B2.trans (hb2.mono B2.size)
  have hsz3 := hb2.size
  have ho2 := own_base ho2 (b' := w.heap.size + 3) (by omega)
  clear HS HO1 HC HV hb2 B2
  have c3 : w2.cell? ⟨w.heap.size + 1 + 1, 1, none⟩ = some (.slice none 0 0) := S3.cell 1
  have f3 := S3.frozen 1
  have T2 := S2.setCell_other ⟨w.heap.size + 1 + 1, 1, none⟩ (.slice (some ⟨g2, 0, none⟩) a.classes.length a.classes.length) (by simp)
  have T3 := S3.setCell 1 (.slice (some ⟨g2, 0, none⟩) a.classes.length a.classes.length)
  have B4 : Below w.heap.size w (w2.setCell ⟨w.heap.size + 1 + 1, 1, none⟩ (.slice (some ⟨g2, 0, none⟩) a.classes.length a.classes.length)) := B3.setCell (p := ⟨w.heap.size + 1 + 1, 1, none⟩) (by simp; omega) _
  have O1 := O1.setCell ⟨w.heap.size + 1 + 1, 1, none⟩ (.slice (some ⟨g2, 0, none⟩) a.classes.length a.classes.length) (by simp)
  have O2 := own_setCell ho2 ⟨w.heap.size + 1 + 1, 1, none⟩ (.slice (some ⟨g2, 0, none⟩) a.classes.length a.classes.length) (by simp)
  have HT : Hid (Below w.heap.size w (w2.setCell ⟨w.heap.size + 1 + 1, 1, none⟩ (.slice (some ⟨g2, 0, none⟩) a.classes.length a.classes.length)) ∧ OwnL (w.heap.size + 3) (w2.setCell ⟨w.heap.size + 1 + 1, 1, none⟩ (.slice (some ⟨g2, 0, none⟩) a.classes.length a.classes.length)) (.slice (some ⟨g1, 0, none⟩) a.attrs.length a.attrs.length) a.attrs ∧ (w2.setCell ⟨w.heap.size + 1 + 1, 1, none⟩ (.slice (some ⟨g2, 0, none⟩) a.classes.length a.classes.length)).ownsRow (w.heap.size + 3) 9 1 (.slice (some ⟨g2, 0, none⟩) a.classes.length a.classes.length) a.classes.length (a.classes.map Value.string)) := ⟨B4, O1, O2⟩
  have HT2 : Hid (Blk 27 (w2.setCell ⟨w.heap.size + 1 + 1, 1, none⟩ (.slice (some ⟨g2, 0, none⟩) a.classes.length a.classes.length)) (w.heap.size + 1) #[.slice none 0 0, .slice none 0 0] ∧ Blk 27 (w2.setCell ⟨w.heap.size + 1 + 1, 1, none⟩ (.slice (some ⟨g2, 0, none⟩) a.classes.length a.classes.length)) (w.heap.size + 1 + 1) #[(.slice (some ⟨g1, 0, none⟩) a.attrs.length a.attrs.length), (.slice (some ⟨g2, 0, none⟩) a.classes.length a.classes.length)]) := ⟨T2, T3⟩
  clear S2 S3 T2 T3 B4 O1 O2 ho2 B3
  go_wp2_with (first | (with_reducible refine wp_sc_load rfl _ rfl ?_; refine ⟨_, rfl, _, _, HT2.out.2, ?_⟩) | (with_reducible refine wp_sc_store rfl _ _ rfl ?_; refine ⟨_, rfl, _, _, _, _, _, _, rfl, _, _, HT2.out.1, ?_⟩))
  refine bodyPost_ret (res_sc Try.results33 _ _ _ _ _ rfl (HT2.out.1.setRow _)) rfl ⟨_, rfl, ⟨_, _, rfl, ?_, ?_⟩, ?_⟩
  · exact (HT.out.2.1.setRow _ _ (by omega)).base (by omega)
  · exact own_base (own_setRow HT.out.2.2 _ _ (by omega)) (by omega)
  · exact below_row HT.out.1 (by omega) _
end Go.Proofs.Ytobimpgapfecoaa
/- An attribute that comes in to a law: what its reading says of its cells. -/
namespace Go.Proofs.Ytobimpgapfecoaa
open Go.ChangeShapes Go.WideShapes Go.ChangeAt Go.RowKit Go.Deep
set_option maxRecDepth 100000

theorem RowI.of_isRow {w : World} {a : Option Addr} {len cap : Nat} {zs : List Int} (h : IsRow .i64 w a len cap zs) : RowI w (.slice a len cap) (zs.take len) := by
  have hl := h.len
  refine ⟨a, cap, by rw [hl], ?_, fun h0 => ?_⟩
  · rcases h with ⟨_, rfl, _, _⟩ | ⟨_, _, h1, _⟩
    · simp
    · omega
  · obtain ⟨b, o, rfl, hb, hc⟩ := h.at (by omega)
    exact ⟨b, o, rfl, hb, fun j hj => hc j (by omega)⟩
theorem small_len {n : Nat} (h : n ≤ maxLen) : n ≤ 9223372036854775807 := by unfold maxLen at h; omega

theorem attr_cells : Try.prog.cellsOf 133 = 3 := by kernel_rfl
theorem cells1_int : Try.prog.cellsOf 3 = 1 := by kernel_rfl
theorem cells1_str : Try.prog.cellsOf 9 = 1 := by kernel_rfl
theorem cells1_ints : Try.prog.cellsOf 28 = 1 := by kernel_rfl
theorem cells1_strs : Try.prog.cellsOf 25 = 1 := by kernel_rfl

theorem row_ints {H : Type} {enc : TypeId × Value → H} {W : World} {base fuel : Nat} {hd : Bool} {cs : List Value} {x : DataW H × List MemPlace}
    (h : DataW.trod enc Try.prog W base (fun _ => true) hd fuel 28 cs = some x) : ∃ v zs, cs = [v] ∧ RowI W v zs ∧ zs.length ≤ 9223372036854775807 := by
  rcases open_ints Try.underlying28 Try.underlying3 (by kernel_rfl) h with ⟨hcs, _⟩ | ⟨x, l, c, zs, hcs, _, hl, hm, hz, _, hcell, hwz⟩
  · exact ⟨_, [], hcs, ⟨none, 0, rfl, Nat.le_refl _, fun h0 => absurd h0 (by simp)⟩, by simp⟩
  · have R : IsRow .i64 W (some x) l c zs := .inr ⟨_, rfl, hl, hm, by simpa using hz, hcell, hwz⟩
    exact ⟨_, zs.take l, hcs, RowI.of_isRow R, by have := R.len; have := small_len hm; omega⟩

theorem row_strs {H : Type} {enc : TypeId × Value → H} {W : World} {base fuel : Nat} {hd : Bool} {cs : List Value} {x : DataW H × List MemPlace}
    (h : DataW.trod enc Try.prog W base (fun _ => true) hd fuel 25 cs = some x) : ∃ v ss, cs = [v] ∧ RowS W v ss ∧ ss.length ≤ 9223372036854775807 ∧ ∀ s ∈ ss, s.size ≤ 9223372036854775807 := by
  rcases open_strs Try.underlying25 Try.underlying9 (by kernel_rfl) h with ⟨hcs, _⟩ | ⟨x, l, c, m, Sx, hcs, _, hl, hm, hmm, _, hcell⟩
  · exact ⟨_, [], hcs, ⟨none, 0, rfl, Nat.le_refl _, fun h0 => absurd h0 (by simp)⟩, by simp, fun s hs => by cases hs⟩
  · have hmc : m = c := by simpa using hmm
    subst hmc
    refine ⟨_, (List.range l).map Sx, hcs, ⟨some x, m, by simp, by simpa using hl, fun h0 => ?_⟩, by simpa using Nat.le_trans hl (small_len hm), fun s hs => ?_⟩
    · have hl0 : 0 < l := by simpa using h0
      obtain ⟨b, o, sp⟩ := x
      have hc0 := (hcell 0 (by omega)).1
      have hsp : sp = none := by simpa [Addr.add] using World.cell?_spot hc0
      subst hsp
      refine ⟨b, o, rfl, lt_of_cell (a := ⟨b, o, none⟩) (by simpa [Addr.add] using hc0), fun j hj => ?_⟩
      have hj' : j < l := by simpa using hj
      have e : (⟨b, o, none⟩ : Addr).add j = ⟨b, o + j, none⟩ := by cases j <;> simp [Addr.add]
      rw [← e, (hcell j (by omega)).1, tx_eq hj]
      simp
    · obtain ⟨j, hj, rfl⟩ := List.mem_map.1 hs
      exact small_len (hcell j (by have := List.mem_range.1 hj; omega)).2

theorem row_attr {H : Type} {enc : TypeId × Value → H} {W : World} {base fuel : Nat} {hd : Bool} {cs : List Value} {x : DataW H × List MemPlace}
    (h : DataW.trod enc Try.prog W base (fun _ => true) hd fuel 133 cs = some x) : ∃ (a : AttrD) (vc vv : Value), cs = [.string a.name, vc, vv] ∧ RowI W vc a.cuts ∧ RowS W vv a.vals ∧ inA a := by
  obtain ⟨y0, y1, y2, n, -, hl, t0, t1, t2⟩ := trod_struct3 Try.underlying133 h
  rw [attr_cells] at hl
  match cs, hl with
  | [c0, c1, c2], _ =>
    obtain ⟨s, hs, -, ws⟩ := DataW.trod_string Try.underlying9 t0
    obtain ⟨vc, zs, hc, rc, lc⟩ := row_ints t1
    obtain ⟨vv, ss, hv, rv, lv, ev⟩ := row_strs t2
    simp [cells1_str, cells1_ints, cells1_strs] at hs hc hv
    exact ⟨⟨s, zs, ss⟩, vc, vv, by rw [hs, hc, hv], rc, rv, small_len ws, lc, lv, ev⟩

theorem open_attr {H : Type} {enc : TypeId × Value → H} {W : World} {r : Reach} {b0 base : Nat} {hd : Bool} {v : Value} {d : DataW H} {ps : List MemPlace}
    (hval : Value.okWide Try.prog W r b0 133 v) (h : DataW.Trod enc Try.prog W base (fun _ => true) hd 133 v d ps) : ∃ a : AttrD, AttrAt W v a ∧ inA a := by
  obtain ⟨cs, rfl, hs⟩ := okWide_struct Try.underlying133 hval
  obtain ⟨fuel, hf⟩ := h
  obtain ⟨a, vc, vv, hc, h1, h2, h3⟩ := row_attr hf
  refine ⟨a, ⟨vc, vv, ?_, h1, h2⟩, h3⟩
  obtain ⟨l⟩ := cs
  simp [Value.cells] at hc
  rw [hc]
end Go.Proofs.Ytobimpgapfecoaa
/- A schema that comes in to a law: what its reading says of its cells. -/
namespace Go.Proofs.Ytobimpgapfecoaa
open Go.ChangeShapes Go.WideShapes Go.ChangeAt Go.RowKit Go.Deep
set_option maxRecDepth 100000

theorem sch_cells : Try.prog.cellsOf 61 = 2 := by kernel_rfl
theorem cells1_attrs : Try.prog.cellsOf 59 = 1 := by kernel_rfl

theorem row_attrs {H : Type} {enc : TypeId × Value → H} {W : World} {base fuel : Nat} {hd : Bool} {cs : List Value} {x : DataW H × List MemPlace}
    (h : DataW.trod enc Try.prog W base (fun _ => true) hd fuel 59 cs = some x) : ∃ v ls, cs = [v] ∧ RowA W v ls ∧ ls.length ≤ 9223372036854775807 ∧ ∀ a ∈ ls, inA a := by
  rcases open_slice Try.underlying59 h with ⟨hcs, _⟩ | ⟨x, l, c, m, n, D, Pl, hcs, _, hl, hm, hmm, _, hcell⟩
  · exact ⟨_, [], hcs, ⟨none, 0, rfl, Nat.le_refl _, fun h0 => absurd h0 (by simp)⟩, by simp, fun s hs => by cases hs⟩
  · have hmc : m = c := by simpa using hmm
    subst hmc
    have key : ∀ i, i < m → ∃ (a : AttrD), inA a ∧ ∃ vc vv, W.cell? (x.add (i * 3)) = some (.string a.name) ∧ W.cell? (x.add (i * 3 + 1)) = some vc ∧ W.cell? (x.add (i * 3 + 2)) = some vv ∧ RowI W vc a.cuts ∧ RowS W vv a.vals := by
      intro i hi
      obtain ⟨cs', hc', ht'⟩ := hcell i hi
      obtain ⟨a, vc, vv, hcs', h1, h2, h3⟩ := row_attr ht'
      rw [attr_cells, hcs'] at hc'
      have hS := World.cells?_some hc'
      have e : ∀ j, (x.add (i * 3)).add j = x.add (i * 3 + j) := fun j => add_add _ _ _
      refine ⟨a, h3, vc, vv, ?_, ?_, ?_, h1, h2⟩
      · have := hS.2.2 0 (by omega); rw [e] at this; simpa using this
      · have := hS.2.2 1 (by omega); rw [e] at this; simpa using this
      · have := hS.2.2 2 (by omega); rw [e] at this; simpa using this
    haveI : Inhabited AttrD := ⟨⟨ByteArray.empty, [], []⟩⟩
    obtain ⟨F, hF⟩ := choose_lt key
    refine ⟨_, (List.range l).map F, hcs, ⟨some x, m, by simp, by simpa using hl, fun h0 => ?_⟩, by simpa using Nat.le_trans hl (small_len hm), fun a ha => ?_⟩
    · have hl0 : 0 < l := by simpa using h0
      obtain ⟨b, o, sp⟩ := x
      obtain ⟨_, _, _, hc0, _⟩ := hF 0 (by omega)
      have hsp : sp = none := by simpa [Addr.add] using World.cell?_spot hc0
      subst hsp
      refine ⟨b, o, rfl, lt_of_cell (a := ⟨b, o, none⟩) (by simpa [Addr.add] using hc0), fun j hj => ?_⟩
      have hj' : j < l := by simpa using hj
      have e : ∀ i, (⟨b, o, none⟩ : Addr).add i = ⟨b, o + i, none⟩ := by intro i; cases i <;> simp [Addr.add]
      have ea : ad ((List.range l).map F) j = F j := by rw [ad_eq hj]; simp
      obtain ⟨_, vc, vv, h1, h2, h3, h4, h5⟩ := hF j (by omega)
      rw [ea]
      rw [e] at h1 h2 h3
      exact ⟨vc, vv, h1, by rw [Nat.add_assoc]; exact h2, by rw [Nat.add_assoc]; exact h3, h4, h5⟩
    · obtain ⟨j, hj, rfl⟩ := List.mem_map.1 ha
      exact (hF j (by have := List.mem_range.1 hj; omega)).1

theorem open_schema {H : Type} {enc : TypeId × Value → H} {W : World} {r : Reach} {b0 base : Nat} {hd : Bool} {v : Value} {d : DataW H} {ps : List MemPlace}
    (hval : Value.okWide Try.prog W r b0 61 v) (h : DataW.Trod enc Try.prog W base (fun _ => true) hd 61 v d ps) : ∃ a : SchemaD, SchemaAt W v a ∧ inS a := by
  obtain ⟨cs, rfl, hs⟩ := okWide_struct Try.underlying61 hval
  obtain ⟨fuel, hf⟩ := h
  obtain ⟨y0, y1, n, -, hl, t0, t1⟩ := trod_struct2 Try.underlying61 hf
  rw [sch_cells] at hl
  obtain ⟨l⟩ := cs
  simp [Value.cells] at hl t0 t1
  match l, hl with
  | [c0, c1], _ =>
    obtain ⟨va, ls, ha, ra, la, ea⟩ := row_attrs t0
    obtain ⟨vv, ss, hv, rv, lv, ev⟩ := row_strs t1
    simp [cells1_attrs, cells1_strs] at ha hv
    exact ⟨⟨ls, ss⟩, ⟨va, vv, by rw [ha, hv], ra, rv⟩, la, ea, lv, ev⟩
end Go.Proofs.Ytobimpgapfecoaa
/- A list of attributes of the call's own: no two of its lists share memory. -/
namespace Go.Proofs.Ytobimpgapfecoaa
open Go.RowKit
set_option maxRecDepth 100000
/-- The attributes that a row leads to, each list in a block of its own. -/
structure SepL (base : Nat) (w : World) (v : Value) (L : Nat → Value × Value) (ys : List Value) (ls : List AttrD) (n : Nat) : Prop where
  row : w.ownsRow base 55 3 v n ys
  cells : ∀ j, j < n → ys[j * 3]? = some (.string (ad ls j).name) ∧ ys[j * 3 + 1]? = some (L j).1 ∧ ys[j * 3 + 2]? = some (L j).2
  ints : ∀ j, j < n → w.ownsRow base 3 1 (L j).1 (ad ls j).cuts.length ((ad ls j).cuts.map (Value.int .i64))
  strs : ∀ j, j < n → w.ownsRow base 9 1 (L j).2 (ad ls j).vals.length ((ad ls j).vals.map Value.string)
  ord1 : ∀ i j a b, i < j → j < n → (L i).1.ownBlock = some a → (L j).1.ownBlock = some b → a < b
  ord2 : ∀ i j a b, i < j → j < n → (L i).2.ownBlock = some a → (L j).2.ownBlock = some b → a < b
theorem SepL.nil (base : Nat) (w : World) (L : Nat → Value × Value) : SepL base w (.slice none 0 0) L [] [] 0 :=
  ⟨⟨by simp, .inl ⟨rfl, rfl⟩⟩, fun j hj => by omega, fun j hj => by omega, fun j hj => by omega, fun _ _ _ _ _ h => by omega, fun _ _ _ _ _ h => by omega⟩
theorem apart_t {w : World} {v v' : Value} {b b' e e' s s' n n' : Nat} {xs xs' : List Value} (h : w.ownsRow b e s v n xs) (h' : w.ownsRow b' e' s' v' n' xs') (he : e ≠ e') : v.ownBlock = none ∨ v.ownBlock ≠ v'.ownBlock := by
  rcases h.2 with ⟨rfl, _⟩ | ⟨g, cap, cur, rfl, _, hc, _⟩
  · exact .inl rfl
  · refine .inr fun eq => ?_
    rcases h'.2 with ⟨rfl, _⟩ | ⟨g', cap', cur', rfl, _, hc', _⟩
    · cases eq
    · injection eq with eq
      simp only at eq
      subst eq
      rw [hc] at hc'
      injection hc' with hc'
      injection hc' with _ h2 _
      exact he h2
theorem SepL.below {base : Nat} {w w' : World} {v : Value} {L : Nat → Value × Value} {ys : List Value} {ls : List AttrD} {n : Nat} (h : SepL base w v L ys ls n) (hb : Below w.heap.size w w') : SepL base w' v L ys ls n :=
  ⟨own_below h.row hb, h.cells, fun j hj => own_below (h.ints j hj) hb, fun j hj => own_below (h.strs j hj) hb, h.ord1, h.ord2⟩
theorem SepL.setCell {base : Nat} {w : World} {v : Value} {L : Nat → Value × Value} {ys : List Value} {ls : List AttrD} {n : Nat} (h : SepL base w v L ys ls n) (p : Addr) (u : Value) (hp : p.block < base) : SepL base (w.setCell p u) v L ys ls n :=
  ⟨own3_setCell h.row p u hp, h.cells, fun j hj => own_setCell (h.ints j hj) p u hp, fun j hj => own_setCell (h.strs j hj) p u hp, h.ord1, h.ord2⟩
theorem SepL.setRow {base : Nat} {w : World} {v : Value} {L : Nat → Value × Value} {ys : List Value} {ls : List AttrD} {n : Nat} (h : SepL base w v L ys ls n) (k : Nat) (c : Array Value) (hp : k < base) : SepL base (w.setRow k c) v L ys ls n :=
  ⟨own3_setRow h.row k c hp, h.cells, fun j hj => own_setRow (h.ints j hj) k c hp, fun j hj => own_setRow (h.strs j hj) k c hp, h.ord1, h.ord2⟩
theorem SepL.base {b b' : Nat} {w : World} {v : Value} {L : Nat → Value × Value} {ys : List Value} {ls : List AttrD} {n : Nat} (h : SepL b w v L ys ls n) (hb : b' ≤ b) : SepL b' w v L ys ls n :=
  ⟨own_base h.row hb, h.cells, fun j hj => own_base (h.ints j hj) hb, fun j hj => own_base (h.strs j hj) hb, h.ord1, h.ord2⟩
theorem ad_app {zs : List AttrD} {x : AttrD} {j : Nat} (h : j < zs.length) : ad (zs ++ [x]) j = ad zs j := by simp [ad, List.getElem?_append_left h]
theorem ad_last {zs : List AttrD} {x : AttrD} : ad (zs ++ [x]) zs.length = x := by simp [ad]
/-- One attribute more: its row grows, its lists lie behind all that was there. -/
theorem SepL.snoc {base b : Nat} {w w1 w' : World} {v v' : Value} {L : Nat → Value × Value} {ys : List Value} {zs : List AttrD} {n : Nat} {x : AttrD} {c1 c2 : Value} (h : SepL base w v L ys zs n) (hn : zs.length = n)
    (hb : ∀ j, j < n → (∀ a, (L j).1.ownBlock = some a → a < b) ∧ ∀ a, (L j).2.ownBlock = some a → a < b)
    (hw : ∀ {e m : Nat} {u : Value} {xs : List Value}, w.ownsRow base e 1 u m xs → w1.ownsRow base e 1 u m xs)
    (o1 : w1.ownsRow b 3 1 c1 x.cuts.length (x.cuts.map (Value.int .i64))) (o2 : w1.ownsRow b 9 1 c2 x.vals.length (x.vals.map Value.string)) (hbb : base ≤ b)
    (hr1 : w1.ownsRow base 55 3 v n ys) (hg : w1.grownBy w' v.ownBlock) (hr : w'.ownsRow base 55 3 v' (n + 1) (ys ++ [.string x.name, c1, c2])) :
    SepL base w' v' (fun j => if j = n then (c1, c2) else L j) (ys ++ [.string x.name, c1, c2]) (zs ++ [x]) (n + 1) := by
  have hl : ys.length = n * 3 := h.row.1
  have kp : ∀ {e m : Nat} {u : Value} {xs : List Value}, w1.ownsRow base e 1 u m xs → e ≠ 55 → w'.ownsRow base e 1 u m xs := fun ho he => ho.kept hg (apart_t ho hr1 he)
  refine ⟨hr, fun j hj => ?_, fun j hj => ?_, fun j hj => ?_, fun i j a c hij hj ha hc => ?_, fun i j a c hij hj ha hc => ?_⟩
  · by_cases e : j = n
    · subst e
      have e2 : ad (zs ++ [x]) j = x := by rw [← hn]; exact ad_last
      rw [e2, if_pos rfl]
      refine ⟨?_, ?_, ?_⟩
      · rw [List.getElem?_append_right (by omega), hl, Nat.sub_self]; rfl
      · rw [List.getElem?_append_right (by omega), hl, show j * 3 + 1 - j * 3 = 1 by omega]; rfl
      · rw [List.getElem?_append_right (by omega), hl, show j * 3 + 2 - j * 3 = 2 by omega]; rfl
    · have hj' : j < n := by omega
      rw [ad_app (by omega), if_neg e, List.getElem?_append_left (by omega), List.getElem?_append_left (by omega), List.getElem?_append_left (by omega)]
      exact h.cells j hj'
  · by_cases e : j = n
    · subst e
      have e2 : ad (zs ++ [x]) j = x := by rw [← hn]; exact ad_last
      rw [e2, if_pos rfl]
      exact kp (own_base o1 hbb) (by decide)
    · rw [ad_app (by omega), if_neg e]
      exact kp (hw (h.ints j (by omega))) (by decide)
  · by_cases e : j = n
    · subst e
      have e2 : ad (zs ++ [x]) j = x := by rw [← hn]; exact ad_last
      rw [e2, if_pos rfl]
      exact kp (own_base o2 hbb) (by decide)
    · rw [ad_app (by omega), if_neg e]
      exact kp (hw (h.strs j (by omega))) (by decide)
  · rw [if_neg (by omega)] at ha
    by_cases e : j = n
    · rw [if_pos e] at hc
      have h1 := (hb i (by omega)).1 a ha
      have h2 := (o1.lt c hc).1
      omega
    · rw [if_neg e] at hc
      exact h.ord1 i j a c hij (by omega) ha hc
  · rw [if_neg (by omega)] at ha
    by_cases e : j = n
    · rw [if_pos e] at hc
      have h1 := (hb i (by omega)).2 a ha
      have h2 := (o2.lt c hc).1
      omega
    · rw [if_neg e] at hc
      exact h.ord2 i j a c hij (by omega) ha hc
theorem SepL.own {base : Nat} {w : World} {v : Value} {L : Nat → Value × Value} {ys : List Value} {ls : List AttrD} (h : SepL base w v L ys ls ls.length) : OwnL base w v ls :=
  ⟨ys, h.row, fun j hj => ⟨_, _, (h.cells j hj).1, (h.cells j hj).2.1, (h.cells j hj).2.2, h.ints j hj, h.strs j hj⟩⟩
theorem own_form {w : World} {b e s n : Nat} {v : Value} {xs : List Value} (h : w.ownsRow b e s v n xs) : ∃ a c, v = .slice a n c := by
  rcases h.2 with ⟨rfl, h0⟩ | ⟨g, cap, cur, hv, _⟩
  · exact ⟨none, 0, by rw [h0]⟩
  · exact ⟨_, _, hv⟩
end Go.Proofs.Ytobimpgapfecoaa
