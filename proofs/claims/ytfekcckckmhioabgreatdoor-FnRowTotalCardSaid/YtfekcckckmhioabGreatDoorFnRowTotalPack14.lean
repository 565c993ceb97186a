/- Texts of this claim, put together: part 14. -/
import Derived.Deep.RegionLaw
import Derived.Test.YtfekcckckmhioabGreatDoorFnRowTotalPack12
import Derived.Test.YtfekcckckmhioabGreatDoorFnRowTotalPack13
import Derived.Test.YtfekcckckmhioabGreatDoorFnRowTotalPack4
import Derived.Test.YtfekcckckmhioabGreatDoorFnRowTotalPack1
import Derived.Laws.BytesArg
import Derived.Lib.BufferRead
import Derived.Lib.ConvBytes
import Derived.Test.YtfekcckckmhioabGreatDoorFnRowTotalPack11
/- The text of an example, by the specification. -/
namespace Go.Proofs.YtfekcckckmhioabGreatDoor
open Go.RowKit
set_option maxRecDepth 100000
set_option linter.unusedSimpArgs false
set_option maxHeartbeats 3200000 in
theorem specExText_any (vs ve : Value) (s : SchemaD) (e : ExD) (w : World) (hs : SchemaAt w vs s) (he : ExAt w ve e) (hn : okSch s) (hb : e.bins.length ≤ 1099511627776) :
    Calls Tryz.prog 30 #[vs, ve] w fun r w' => r = .returned (.string (exText s e)) ∧ Below w.heap.size w w' := by
  obtain ⟨i0, hi, hi0, hi1, hi2⟩ := info_parts strInfo
  have HS : Hid (∀ W, Below w.heap.size w W → SchemaAt W vs s) := fun W h => hs.later h
  have HEX : Hid (∀ W, Below w.heap.size w W → ExAt W ve e) := fun W h => he.later h
  have HOK : Hid (okSch s) := hn
  obtain ⟨va, vc, rfl, ra, rc⟩ := hs
  obtain ⟨oa, ka, rfl, -, -⟩ := id ra
  obtain ⟨oc, kc, rfl, -, -⟩ := id rc
  obtain ⟨vb, rfl, rb⟩ := he
  obtain ⟨ob, kb, rfl, -, -⟩ := id rb
  have la := hn.attrs
  have lc := hn.classes.1
  clear ra rc rb hn
  have B0 : Below w.heap.size w ((w.alloc (.cells #[.slice oa s.attrs.length ka, .slice oc s.classes.length kc] 27)).alloc (.cells #[.slice ob e.bins.length kb, .int .i64 e.cls] 32)) := ((Below.refl _ _).alloc (Nat.le_refl _) _).alloc (by simp) _
  have K1 := (Blk.new 27 w #[.slice oa s.attrs.length ka, .slice oc s.classes.length kc]).alloc (.cells #[.slice ob e.bins.length kb, .int .i64 e.cls] 32)
  have K2 : Blk 32 ((w.alloc (.cells #[.slice oa s.attrs.length ka, .slice oc s.classes.length kc] 27)).alloc (.cells #[.slice ob e.bins.length kb, .int .i64 e.cls] 32)) (w.heap.size + 1) #[.slice ob e.bins.length kb, .int .i64 e.cls] := by
    have := Blk.new 32 (w.alloc (.cells #[.slice oa s.attrs.length ka, .slice oc s.classes.length kc] 27)) #[.slice ob e.bins.length kb, .int .i64 e.cls]
    rwa [show (w.alloc (.cells #[.slice oa s.attrs.length ka, .slice oc s.classes.length kc] 27)).heap.size = w.heap.size + 1 by simp] at this
  have e1 := specExOk_any _ _ s e _ (HS.out _ B0) (HEX.out _ B0) HOK.out hb
  cases hk : exOk s e with
  | false =>
    have HE : Hid (exText s e = ⟨#[]⟩) := by unfold exText; rw [hk]; rfl
    rw [hk] at e1
    clear hk K1 K2
    go_enter Tryz.func30, Tryz.ntmps30
    go_wp2_with fail
    refine e1.mono ?_
    clear e1
    rintro r w1 ⟨rfl, hb1⟩
    go_wp2
    go_ret
    exact ⟨by rw [HE.out]; rfl, B0.trans (hb1.mono (by simp; omega))⟩
  | true =>
    have HX : Hid (exText s e = joinT (cellsT s e e.bins.length) ⟨#[44]⟩ ++ ⟨#[124]⟩ ++ classText s e.cls) := by unfold exText; rw [hk]; rfl
    have HP : Hid (schemaOk s = true ∧ e.bins.length = s.attrs.length ∧ (-1 ≤ e.cls ∧ e.cls ≤ (s.classes.length : Int) - 1) ∧ binsRight s e = true) := ex_parts hk
    rw [hk] at e1
    clear hk
    go_enter Tryz.func30, Tryz.ntmps30
    go_wp2_with fail
    refine e1.mono ?_
    clear e1
    rintro r w1 ⟨rfl, hb1⟩
    have hs1 := hb1.size
    simp only [World.size_alloc] at hs1
    have B1 := B0.trans (hb1.mono (by simp; omega))
    replace K1 := K1.below hb1
    replace K2 := K2.below hb1
    clear hb1 B0
    have HK : Hid (∀ W, Below w1.heap.size w1 W → Blk 27 W w.heap.size #[.slice oa s.attrs.length ka, .slice oc s.classes.length kc] ∧ Blk 32 W (w.heap.size + 1) #[.slice ob e.bins.length kb, .int .i64 e.cls]) := fun W h => ⟨K1.below h, K2.below h⟩
    have bl : Below w1.heap.size w1 (w1.alloc (.cells #[] 9)) := (Below.refl _ _).alloc (Nat.le_refl _) _
    have ol : (w1.alloc (.cells #[] 9)).ownsRow w1.heap.size 9 1 (.slice (some ⟨w1.heap.size, 0, none⟩) 0 0) 0 [] := World.ownsRow_lit (base := w1.heap.size) (e := 9) (size := 1) w1 #[] 0 (Nat.le_refl _) (by decide) rfl
    clear K1 K2
    go_wp2
    go_loopw [5, 6] (fun v i wr => ∃ k : Nat, i = .int .i64 k ∧ k ≤ e.bins.length ∧ wr.ownsRow w1.heap.size 9 1 v k ((cellsT s e k).map Value.string) ∧ Below w1.heap.size w1 wr) (fun _ i _ => e.bins.length - (intOf i).toNat)
    case atStart => exact ⟨0, rfl, by omega, ol, bl⟩
    case round =>
      obtain ⟨k, rfl, hk, own, hbr⟩ := hrel
      have hbw := B1.trans (hbr.mono B1.size)
      obtain ⟨A1, A2⟩ := HK.out wr hbr
      have k0 : wr.cell? ⟨w.heap.size, 0, none⟩ = some (.slice oa s.attrs.length ka) := A1.cell 0
      have k1 : wr.cell? ⟨w.heap.size, 1, none⟩ = some (.slice oc s.classes.length kc) := A1.cell 1
      have j0 : wr.cell? ⟨w.heap.size + 1, 0, none⟩ = some (.slice ob e.bins.length kb) := A2.cell 0
      have j1 : wr.cell? ⟨w.heap.size + 1, 1, none⟩ = some (.int .i64 e.cls) := A2.cell 1
      clear ol bl
      by_cases hlt : k < e.bins.length
      · obtain ⟨va', vc', e', rA, -⟩ := HS.out wr hbw
        cases e'
        obtain ⟨oa', ka', e', -, hrA⟩ := rA
        cases e'
        have hkA : k < s.attrs.length := by have := HP.out.2.1; omega
        obtain ⟨ga, fa, rfl, hga, hjA⟩ := hrA (by omega)
        obtain ⟨x1, x2, c0, c1, c2, r1, r2⟩ := hjA k hkA
        obtain ⟨y1, z1, rfl, -, -⟩ := id r1
        obtain ⟨y2, z2, rfl, -, -⟩ := id r2
        obtain ⟨vb', e', rB⟩ := HEX.out wr hbw
        cases e'
        obtain ⟨ob', kb', e', -, hrB⟩ := rB
        cases e'
        obtain ⟨gb, fb, rfl, hgb, hjB⟩ := hrB (by omega)
        have b0 := hjB k hlt
        have bd : Below wr.heap.size wr wr.drew := below_drewN (Below.refl _ _) 1
        have e1 := specCellText_any (.agg #[.string (ad s.attrs k).name, .slice y1 (ad s.attrs k).cuts.length z1, .slice y2 (ad s.attrs k).vals.length z2]) (ad s.attrs k) (e.bins.getD k 0) wr.drew ⟨_, _, rfl, r1.later bd, r2.later bd⟩ (HOK.out.each _ (ad_mem hkA))
        have HCT : Hid ((cellsT s e (k + 1)).map Value.string = (cellsT s e k).map Value.string ++ [.string (cellText (ad s.attrs k) (e.bins.getD k 0))]) := by rw [cellsT_succ, List.map_append]; rfl
        generalize cellText (ad s.attrs k) (e.bins.getD k 0) = T at e1 HCT
        generalize e.bins.getD k 0 = zb at e1 b0
        have od : wr.drew.ownsRow w1.heap.size 9 1 _ k ((cellsT s e k).map Value.string) := own
        obtain ⟨ov, cv, rfl⟩ := own_slice own
        have hvo : ∀ j, (Value.slice ov k cv).ownBlock = some j → w1.heap.size ≤ j := fun j hj => (own.lt j hj).1
        have d0 : wr.drew.cell? ⟨ga, fa + k * 3, none⟩ = some (.string (ad s.attrs k).name) := c0
        have d1 : wr.drew.cell? ⟨ga, fa + k * 3 + 1, none⟩ = some (.slice y1 (ad s.attrs k).cuts.length z1) := c1
        have d2 : wr.drew.cell? ⟨ga, fa + k * 3 + 2, none⟩ = some (.slice y2 (ad s.attrs k).vals.length z2) := c2
        have d3 : wr.drew.cell? ⟨gb, fb + k, none⟩ = some (.int .i64 zb) := b0
        have d4 : wr.drew.cell? ⟨w.heap.size, 0, none⟩ = some (.slice (some ⟨ga, fa, none⟩) s.attrs.length ka) := k0
        have d5 : wr.drew.cell? ⟨w.heap.size + 1, 0, none⟩ = some (.slice (some ⟨gb, fb, none⟩) e.bins.length kb) := j0
        have hbd : Below w1.heap.size w1 wr.drew := below_drewN hbr 1
        have hsr := hbr.size
        clear own hjA hjB hrA hrB r1 r2 hbr hbw hga hgb A1 A2 k1 j1
        go_wp2
        go_region_law (first
          | (refine step_wp rfl ?_; unfold Oper.wp; go_simp; go_at_call 50; refine e1.mono ?_; clear e1; rintro r w2 ⟨rfl, hb2⟩; have o2 := own_below od hb2; have hs2 : w1.heap.size ≤ w2.heap.size := Nat.le_trans hbd.size hb2.size)
          | (refine step_wp rfl (wp_append_own _ _ _ 25 rfl w1.heap.size 9 i0 (.string ⟨#[]⟩) 1 16 Tryz.underlying25 hi hi0 hi1 hi2 rfl (by decide) _ _ _ rfl (o2.alloc (.cells #[.string T] 9)) ⟨w2.heap.size, 0, none⟩ 1 1 [.string T] rfl rfl (newc _ _ _) (by simp [Value.oneCell']) (by unfold maxLen; omega) (by omega) (by simp; omega) ?_); intro v' w3 ho hg3 hnil))
        all_goals
          have b3 : Below w1.heap.size w1 w3 := ((hbd.trans (hb2.mono hbd.size)).alloc (by omega) (.cells #[.string T] 9)).grown hg3 (by simp; omega) hvo
          clear hg3 hnil hb2 o2 hvo od d0 d1 d2 d3 d4 d5 c0 c1 c2 b0 k0 j0
          go_wp2
          go_roundw
          case rel => exact ⟨k + 1, by go_num, by omega, by rw [HCT.out]; exact ho, b3⟩
          case measure => simp [intOf]; omega
      · obtain rfl : k = e.bins.length := by omega
        have hlen := HP.out.2.1
        have h5 : s.attrs.length ≤ 5 := by have := (sch_parts5 HP.out.1).1; omega
        have HROW : Hid (∀ W, Below wr.heap.size wr W → RowS W _ (cellsT s e e.bins.length)) := fun W h => (RowS.of_own own (cellsT_len s e _)).later h
        have hjz : (joinT (cellsT s e e.bins.length) ⟨#[44]⟩).size ≤ 1000000 := by
          have := joinT_size (cellsT s e e.bins.length) ⟨#[44]⟩ 8 (fun t ht => by
            obtain ⟨i, _, rfl⟩ := List.mem_map.1 ht
            exact cellText_size _ _)
          rw [cellsT_len] at this
          have h1 : (⟨#[44]⟩ : ByteArray).size = 1 := rfl
          rw [h1] at this
          omega
        have e1 := specJoin_any _ (cellsT s e e.bins.length) ⟨#[44]⟩ wr (HROW.out wr (Below.refl _ _)) (by rw [cellsT_len]; omega) hjz
        obtain ⟨ov, cv, rfl⟩ := own_slice own
        have HCL := HP.out.2.2.1
        have HCLS : Hid (∀ c : Nat, (c : Int) ≤ (s.classes.length : Int) - 1 → ∃ g o, oc = some ⟨g, o, none⟩ ∧ wr.cell? ⟨g, o + c, none⟩ = some (.string (tx s.classes c))) := fun c hc => by
          obtain ⟨va', vc', e', -, rC⟩ := HS.out wr hbw
          cases e'
          obtain ⟨oc', kc', e', -, hr⟩ := rC
          cases e'
          obtain ⟨g, o, e', hg, hj⟩ := hr (by omega)
          exact ⟨g, o, e', hj c (by omega)⟩
        generalize joinT (cellsT s e e.bins.length) ⟨#[44]⟩ = J at e1 hjz HX
        have HX2 : Hid (exText s e = J ++ ⟨#[124]⟩ ++ classText s e.cls) := HX.out
        clear HX hlen own HROW A1 A2
        by_cases hc : 0 ≤ e.cls
        · obtain ⟨c, hce⟩ := Int.eq_ofNat_of_zero_le hc
          have hce' : e.cls = (c : Int) := hce
          have hcl2 : (c : Int) ≤ (s.classes.length : Int) - 1 := by omega
          obtain ⟨g, o, rfl, hcell⟩ := HCLS.out c hcl2
          have HX3 : Hid (exText s e = J ++ ⟨#[124]⟩ ++ tx s.classes c) := by
            rw [HX2.out]; unfold classText; rw [if_pos hc, hce']; rfl
          have hcl3 : c < s.classes.length := by omega
          rw [hce'] at j1
          have hCz : (tx s.classes c).size ≤ 1099511627776 := HOK.out.classes.2 _ (tx_mem hcl3)
          generalize tx s.classes c = C at hcell HX3 hCz
          clear HX2 hc hce hce' HCL HCLS hcl2
          go_wp2_with fail
          refine e1.mono ?_
          clear e1
          rintro r w2 ⟨rfl, hb2⟩
          go_wp2
          go_ret
          exact ⟨by rw [HX3.out]; rfl, hbw.trans (hb2.mono hbw.size)⟩
        · have HX3 : Hid (exText s e = J ++ ⟨#[124]⟩ ++ ⟨#[63]⟩) := by
            rw [HX2.out]; unfold classText; rw [if_neg hc]; rfl
          have hcn : ¬ (0 : Int) ≤ e.cls := hc
          clear HX2 HCL HCLS hc
          go_wp2_with fail
          refine e1.mono ?_
          clear e1
          rintro r w2 ⟨rfl, hb2⟩
          go_wp2
          go_ret
          exact ⟨by rw [HX3.out]; rfl, hbw.trans (hb2.mono hbw.size)⟩
end Go.Proofs.YtfekcckckmhioabGreatDoor
/- A list of bytes that a function is handed, and the text that it makes. -/
namespace Go.Proofs.YtfekcckckmhioabGreatDoor
open Go.RowKit
set_option maxRecDepth 100000
/-- What a function knows of a list of bytes that it is handed: the text that it makes, now and later. -/
def BytesAt (w : World) (v : Value) (row : ByteArray) : Prop :=
  ∃ oa cap, v = .slice oa row.size cap ∧ ∀ W, Below w.heap.size w W → (convert 22 9 v).run Tryz.prog W = .ok (.string row) W
theorem BytesAt.later {w w' : World} {v : Value} {row : ByteArray} (h : BytesAt w v row) (hb : Below w.heap.size w w') : BytesAt w' v row := by
  obtain ⟨oa, cap, rfl, h1⟩ := h
  exact ⟨oa, cap, rfl, fun W hW => h1 W (hb.trans (hW.mono hb.size))⟩
theorem BytesAt.of_own {w : World} {base n : Nat} {v : Value} {zs : List Int} (h : w.ownsRow base 5 1 v n (zs.map (Value.int .u8))) (hn : zs.length = n) : BytesAt w v (strOfNums zs) := by
  subst hn
  rcases id h.2 with ⟨rfl, h0⟩ | ⟨g, cap, cur, rfl, _⟩
  · have hz : zs = [] := List.eq_nil_of_length_eq_zero h0
    subst hz
    exact ⟨none, 0, rfl, fun W _ => Lib.run_convert_nil_bytes W _ _ 5 0 Tryz.underlying22 Tryz.underlying5 Tryz.underlying9⟩
  · refine ⟨_, cap, by rw [strOfNums_size], fun W hW => ?_⟩
    refine run_convert_bytes_arg (P := Tryz.prog) W 22 5 Tryz.underlying22 Tryz.underlying5 g 0 zs.length cap zs rfl (fun i hi => ?_) _ Tryz.underlying9
    have hlt := (h.lt g rfl).2
    rw [Nat.zero_add, hW.cell (p := ⟨g, i, none⟩) hlt, h.cellAt i (by omega)]
    simp [hi]
end Go.Proofs.YtfekcckckmhioabGreatDoor
/- A text turned into a list of bytes. -/
namespace Go.Proofs.YtfekcckckmhioabGreatDoor
open Go.RowKit
set_option maxRecDepth 100000
theorem conv_run (s : ByteArray) (w : World) : (convert 9 22 (.string s)).run Tryz.prog w = .ok (.slice (some ⟨w.heap.size, 0, none⟩) s.size (grownCap w s.size 0 5)) (Lib.bytesWorld w 5 s) :=
  Lib.run_convert_string_bytes w _ _ _ s Tryz.underlying9 Tryz.underlying22 Tryz.underlying5
theorem conv_below (s : ByteArray) (w : World) : Below w.heap.size w (Lib.bytesWorld w 5 s) :=
  ⟨rfl, rfl, rfl, by rw [Lib.bytesWorld_size]; omega, fun k hk => Lib.bytesWorld_at_old w _ s k hk⟩
theorem nums_back (s : ByteArray) : strOfNums (s.data.toList.map fun b => (b.toNat : Int)) = s := by
  apply ByteArray.ext
  apply Array.toList_inj.1
  rw [strOfNums_data, List.map_map]
  conv => rhs; rw [← List.map_id s.data.toList]
  apply List.map_congr_left
  intro b _
  simp
/-- A list of bytes in block gb. -/
def BytesIn (w : World) (v : Value) (row : ByteArray) (gb : Nat) : Prop :=
  (∃ cap, v = .slice (some ⟨gb, 0, none⟩) row.size cap) ∧ gb < w.heap.size ∧ ∀ i, i < row.size → w.cell? ⟨gb, i, none⟩ = some (.int .u8 (row.data.toList.getD i 0).toNat)
theorem BytesIn.at {w : World} {v : Value} {s : ByteArray} {gb : Nat} (h : BytesIn w v s gb) : BytesAt w v s := by
  obtain ⟨⟨cap, rfl⟩, hlt, hc⟩ := h
  refine ⟨_, cap, rfl, fun W hW => ?_⟩
  have hl : (s.data.toList.map fun b => (b.toNat : Int)).length = s.size := by rw [List.length_map]; exact Array.length_toList
  have := run_convert_bytes_arg (P := Tryz.prog) W 22 5 Tryz.underlying22 Tryz.underlying5 gb 0 s.size cap (s.data.toList.map fun b => (b.toNat : Int)) hl (fun i hi => by
    rw [Nat.zero_add, hW.cell (p := ⟨gb, i, none⟩) hlt, hc i hi]
    have hi2 : i < s.data.toList.length := by rw [Array.length_toList]; exact hi
    simp [List.getD_eq_getElem?_getD, List.getElem?_eq_getElem hi2]) 9 Tryz.underlying9
  rw [nums_back] at this
  exact this
theorem BytesIn.row {w : World} {v : Value} {s : ByteArray} {gb k : Nat} (h : BytesIn w v s gb) (hk : k ≠ gb) (c : Array Value) : BytesIn (w.setRow k c) v s gb := by
  refine ⟨h.1, by simpa [World.setRow] using h.2.1, fun i hi => ?_⟩
  rw [← h.2.2 i hi]
  unfold World.cell?
  simp only
  rw [Go.setRow_other w k gb c (fun e => hk e.symm)]
theorem conv_at (s : ByteArray) (w : World) : BytesIn (Lib.bytesWorld w 5 s) (.slice (some ⟨w.heap.size, 0, none⟩) s.size (grownCap w s.size 0 5)) s w.heap.size :=
  ⟨⟨_, rfl⟩, by rw [Lib.bytesWorld_size]; omega, fun i hi => Lib.bytesWorld_cell w _ s i hi⟩
end Go.Proofs.YtfekcckckmhioabGreatDoor
/- Draws of chapter 7: a row. -/
namespace Go.Proofs.YtfekcckckmhioabGreatDoor
open Go.RowKit
set_option maxRecDepth 100000
set_option linter.unusedSimpArgs false
theorem tinyS.ok {d : SchemaD} (h : tinyS d) : okSch d :=
  ⟨by have := h.attrs; omega, fun a ha => (h.each a ha).ok7, by have := h.classes; omega, fun s hs => by have := h.sizes s hs; omega⟩
theorem OwnS.rowW {w : World} {b k : Nat} {v : Value} {s : SchemaD} {c : Array Value} (h : OwnS b w v s) (hk : k < b) : OwnS b (w.setRow k c) v s := by
  obtain ⟨va, vc, rfl, h1, h2⟩ := h
  exact ⟨va, vc, rfl, h1.setRow k c hk, own_setRow h2 k c hk⟩
theorem OwnS.base7 {w : World} {b b' : Nat} {v : Value} {s : SchemaD} (h : OwnS b w v s) (hb : b' ≤ b) : OwnS b' w v s := by
  obtain ⟨va, vc, rfl, h1, h2⟩ := h
  exact ⟨va, vc, rfl, h1.base hb, own_base h2 hb⟩
theorem own_setNe {w : World} {base e s n : Nat} {v : Value} {xs : List Value} (h : w.ownsRow base e s v n xs) (p : Addr) (u : Value) (hp : v.ownBlock ≠ some p.block) : (w.setCell p u).ownsRow base e s v n xs := by
  refine ⟨h.1, ?_⟩
  rcases h.2 with h' | ⟨g, cap, cur, hv, hg, hc, r⟩
  · exact .inl h'
  · refine .inr ⟨g, cap, cur, hv, hg, ?_, r⟩
    simp only [World.setCell, Array.getElem?_modify]
    rw [if_neg (fun e' => hp (by rw [hv, e']; rfl))]; exact hc
theorem own_notBlk {w : World} {base e s n t g : Nat} {v : Value} {xs : List Value} {cs : Array Value} (h : w.ownsRow base e s v n xs) (hb : Blk t w g cs) (hne : e ≠ t) : v.ownBlock ≠ some g := by
  rcases h.2 with ⟨rfl, _⟩ | ⟨g', cap, cur, rfl, _, hc, _⟩
  · intro e'; cases e'
  · intro e'
    injection e' with e'
    simp only at e'
    subst e'
    unfold Blk at hb
    rw [hc] at hb
    injection hb with hb
    injection hb with _ h2 _
    exact hne h2
theorem OwnS.setOther {w : World} {b t : Nat} {v : Value} {s : SchemaD} {p : Addr} {cs : Array Value} (h : OwnS b w v s) (u : Value) (hb : Blk t w p.block cs) (h1 : 49 ≠ t) (h2 : 3 ≠ t) (h3 : 9 ≠ t) : OwnS b (w.setCell p u) v s := by
  obtain ⟨va, vc, rfl, ⟨ys, ho, hd⟩, hc⟩ := h
  refine ⟨va, vc, rfl, ⟨ys, own_setNe ho p u (own_notBlk ho hb h1), fun j hj => ?_⟩, own_setNe hc p u (own_notBlk hc hb h3)⟩
  obtain ⟨yc, yv, a0, a1, a2, a3, a4⟩ := hd j hj
  exact ⟨yc, yv, a0, a1, a2, own_setNe a3 p u (own_notBlk a3 hb h2), own_setNe a4 p u (own_notBlk a4 hb h3)⟩
def textLen : Value → Nat
  | .string s => s.size
  | _ => 0
theorem exText_60 (s : SchemaD) (e : ExD) : (exText s e).size ≤ 60 := by
  unfold exText
  split
  · next h =>
    obtain ⟨hs, hl, hc, -⟩ := ex_parts h
    have h5 := (sch_parts5 hs).1
    have hj := joinT_size (cellsT s e e.bins.length) ⟨#[44]⟩ 8 (fun t ht => by
      obtain ⟨i, _, rfl⟩ := List.mem_map.1 ht
      exact cellText_size _ _)
    rw [cellsT_len] at hj
    have h1 : (⟨#[44]⟩ : ByteArray).size = 1 := rfl
    have h2 : (⟨#[124]⟩ : ByteArray).size = 1 := rfl
    rw [h1] at hj
    have hcl : (classText s e.cls).size ≤ 8 := by
      unfold classText
      split
      · have hw : wordsOk s.classes = true := by
          unfold schemaOk choices at hs
          rw [Bool.and_eq_true, Bool.and_eq_true, Bool.and_eq_true] at hs
          exact hs.2.1.2
        exact (word_size (words_all hw _ (tx_mem (by omega)))).2
      · decide
    rw [ByteArray.size_append, ByteArray.size_append, h2]
    omega
  · decide
set_option maxHeartbeats 6400000 in
theorem drawRow7_any (g : Nat) (a : Option Addr) (len cap : Nat) (zs : List Int) (vs : Value) (s : SchemaD) (b : Nat) (w : World) (hc : IsCur w g a len cap) (hr : IsRow .u8 w a len cap zs) (hs : OwnS b w vs s) (hgb : g < b) (ht : tinyS s) :
    Calls Tryz.prog 12 #[.pointer (some ⟨g, 0, none⟩), vs] w fun e w' => ∃ v row gb, e = .returned v ∧ BytesIn w' v row gb ∧ w.heap.size ≤ gb ∧ row.size ≤ 100 ∧ IsCur w' g a len cap ∧ w.grownBy w' (some g) := by
  have hgw : g < w.heap.size := hc.lt
  have HR : Hid (∀ w', w.grownBy w' (some g) → IsRow .u8 w' a len cap zs) := fun w' h => hr.aside hc h
  have HTN : Hid (tinyS s) := ht
  have lb := ht.attrs
  obtain ⟨va, vc, rfl, ra, rc⟩ := id hs.at
  obtain ⟨oa, ka, rfl, -, -⟩ := id ra
  obtain ⟨oc, kc, rfl, -, -⟩ := id rc
  clear ra rc ht
  obtain ⟨K0, B0⟩ := blk_1 27 w #[.slice oa s.attrs.length ka, .slice oc s.classes.length kc]
  have gr0 : w.grownBy (w.alloc (.cells #[.slice oa s.attrs.length ka, .slice oc s.classes.length kc] 27)) (some g) := grown_alloc w _ _
  have os0 := hs.below7 B0
  have e1 := right7_any g a len cap zs _ s b (w.alloc (.cells #[.slice oa s.attrs.length ka, .slice oc s.classes.length kc] 27)) (hc.alloc _) (HR.out _ gr0) os0 hgb HTN.out
  clear hc hr hs B0
  go_enter Tryz.func12, Tryz.ntmps12
  go_wp2_with fail
  refine e1.mono ?_
  clear e1
  rintro e w1 ⟨v1, d, rfl, ⟨vb, rfl, ow1⟩, hdl, -, cu1, h1⟩
  obtain ⟨ov, cv, rfl⟩ := own_slice ow1
  have gr1 := grown_trans gr0 h1
  have S1 := K0.kept h1 (by intro e; injection e; omega)
  have os1 := os0.curW7 hgb h1
  have hls : w.heap.size < w1.heap.size := S1.lt
  have ow1' := own_base ow1 (b' := w.heap.size + 1) (by simp)
  have HDL : Hid (d.bins.length = s.attrs.length) := hdl
  have hd6 : d.bins.length ≤ 6 := by omega
  clear h1 gr0 K0 os0 ow1 hdl
  have HNE : Hid (∀ j, (Value.slice ov d.bins.length cv).ownBlock = some j → j < w1.heap.size) := fun j hj => (ow1'.lt j hj).2
  obtain ⟨E2, B2⟩ := blk_1 32 w1 #[.slice ov d.bins.length cv, .int .i64 d.cls]
  have S2 := S1.below B2
  have os2 := os1.below7 B2
  have ow2 := own_below ow1' B2
  have cu2 := cu1.kept (grown_of_below B2 none) (by intro e; cases e)
  have gr2 := grown_trans gr1 (grown_of_below B2 _)
  clear B2 S1 os1 ow1' cu1 gr1
  have e1 := once_any g a len cap zs 8 _ cu2 (HR.out _ gr2) (by decide) (by decide)
  go_wp2_with fail
  refine e1.mono ?_
  clear e1
  rintro e w3 ⟨bb, rfl, cu3, h3⟩
  have gr3 := grown_trans gr2 h3
  have S3 := S2.kept h3 (by intro e; injection e; omega)
  have E3 := E2.kept h3 (by intro e; injection e; omega)
  have os3 := os2.curW7 hgb h3
  have ow3 := own_curW ow2 (by omega) h3
  clear h3 S2 E2 os2 ow2 cu2 gr2
  cases bb with
  | true =>
    have q1 : w3.cell? ⟨w1.heap.size, 1, none⟩ = some (.int .i64 d.cls) := E3.cell 1
    have f1 := E3.frozen 1
    have S4 := S3.setCell_other ⟨w1.heap.size, 1, none⟩ (.int .i64 (-1)) (by simp; omega)
    have E4 := E3.setCell 1 (.int .i64 (-1))
    have os4 := os3.setOther (p := ⟨w1.heap.size, 1, none⟩) (.int .i64 (-1)) E3 (by decide) (by decide) (by decide)
    have ow4 := own_setNe ow3 ⟨w1.heap.size, 1, none⟩ (.int .i64 (-1)) (fun e => absurd (HNE.out _ e) (Nat.lt_irrefl _))
    have cu4 := cu3.cellW (p := w1.heap.size) 1 (.int .i64 (-1)) (by omega)
    have gr4 := grown_cell gr3 (p := w1.heap.size) (k := 1) (by omega) (.int .i64 (-1))
    clear S3 E3 os3 ow3 cu3 gr3
    have rs := OwnS.at os4
    have eT := specExText_any _ _ s ⟨d.bins, (-1)⟩ (w3.setCell ⟨w1.heap.size, 1, none⟩ (.int .i64 (-1))) rs ⟨_, rfl, RowI.of_own ow4 rfl⟩ HTN.out.ok (by show d.bins.length ≤ _; omega)
    have hTz := exText_60 s ⟨d.bins, (-1)⟩
    have k0 : (w3.setCell ⟨w1.heap.size, 1, none⟩ (.int .i64 (-1))).cell? ⟨w.heap.size, 0, none⟩ = some (.slice oa s.attrs.length ka) := S4.cell 0
    have k1 : (w3.setCell ⟨w1.heap.size, 1, none⟩ (.int .i64 (-1))).cell? ⟨w.heap.size, 1, none⟩ = some (.slice oc s.classes.length kc) := S4.cell 1
    have j0 : (w3.setCell ⟨w1.heap.size, 1, none⟩ (.int .i64 (-1))).cell? ⟨w1.heap.size, 0, none⟩ = some (.slice ov d.bins.length cv) := E4.cell 0
    have j1 : (w3.setCell ⟨w1.heap.size, 1, none⟩ (.int .i64 (-1))).cell? ⟨w1.heap.size, 1, none⟩ = some (.int .i64 (-1)) := E4.cell 1
    generalize exText s ⟨d.bins, (-1)⟩ = T at eT hTz
    clear rs
    go_wp2_with fail
    refine eT.mono ?_
    clear eT k0 k1 j0 j1
    rintro e w5 ⟨rfl, hb5⟩
    have gr5 := grown_trans gr4 (grown_of_below hb5 _)
    have cu5 := cu4.kept (grown_of_below hb5 none) (by intro e; cases e)
    clear hb5 gr4 cu4 S4 E4 ow4 os4
    have e1 := l1Below_any g a len cap zs 12 w5 cu5 (HR.out _ gr5) (by decide) (by decide)
    go_wp2_with fail
    refine e1.mono ?_
    clear e1
    rintro e w6 ⟨t, rfl, ht12, cu6, h6⟩
    have gr6 := grown_trans gr5 h6
    clear h6 gr5 cu5
    by_cases t0 : t = 0
    · subst t0
      have e1 := pickS [⟨#[124]⟩, ⟨#[120]⟩, ⟨#[44]⟩] g a len cap zs w6 cu6 (HR.out _ gr6) (by simp) (by simp)
      simp only [List.map_cons, List.map_nil, List.length_cons, List.length_nil, Nat.zero_add, Nat.reduceAdd] at e1
      go_wp2_with fail
      refine e1.mono ?_
      clear e1
      rintro e w7 ⟨y, rfl, hy, cu7, h7⟩
      have hy16 : y.size ≤ 16 := (by decide +kernel : ∀ y ∈ ([⟨#[124]⟩, ⟨#[120]⟩, ⟨#[44]⟩] : List ByteArray), y.size ≤ 16) y hy
      have gr7 := grown_trans gr6 h7
      clear hy h7 gr6 cu6
      have cvr := conv_run (T ++ y) w7
      have bel := conv_below (T ++ y) w7
      have cat := conv_at (T ++ y) w7
      go_wp2
      go_ret
      exact ⟨_, T ++ y, _, rfl, (by simpa using cat), gr7.size, by rw [ByteArray.size_append]; omega, cu7.kept (grown_of_below bel none) (by intro e; cases e), grown_trans gr7 (grown_of_below bel _)⟩
    have b0 : ((t : Int) == 0) = false := by rw [beq_eq_false_iff_ne]; omega
    by_cases t1 : t = 1
    · subst t1
      have cvr := conv_run (⟨#[44]⟩ ++ T) w6
      have bel := conv_below (⟨#[44]⟩ ++ T) w6
      have cat := conv_at (⟨#[44]⟩ ++ T) w6
      go_wp2
      go_ret
      exact ⟨_, ⟨#[44]⟩ ++ T, _, rfl, (by have h1 : (⟨#[44]⟩ ++ T : ByteArray).size = 1 + T.size := (by rw [ByteArray.size_append]; rfl); rw [h1] at cat; exact cat), gr6.size, by rw [ByteArray.size_append]; have : (⟨#[44]⟩ : ByteArray).size = 1 := rfl; omega, cu6.kept (grown_of_below bel none) (by intro e; cases e), grown_trans gr6 (grown_of_below bel _)⟩
    have b1 : ((t : Int) == 1) = false := by rw [beq_eq_false_iff_ne]; omega
    by_cases t2 : t = 2
    · subst t2
      have cvr := conv_run (⟨#[120]⟩ ++ T) w6
      have bel := conv_below (⟨#[120]⟩ ++ T) w6
      have cat := conv_at (⟨#[120]⟩ ++ T) w6
      go_wp2
      go_ret
      exact ⟨_, ⟨#[120]⟩ ++ T, _, rfl, (by have h1 : (⟨#[120]⟩ ++ T : ByteArray).size = 1 + T.size := (by rw [ByteArray.size_append]; rfl); rw [h1] at cat; exact cat), gr6.size, by rw [ByteArray.size_append]; have : (⟨#[120]⟩ : ByteArray).size = 1 := rfl; omega, cu6.kept (grown_of_below bel none) (by intro e; cases e), grown_trans gr6 (grown_of_below bel _)⟩
    have b2 : ((t : Int) == 2) = false := by rw [beq_eq_false_iff_ne]; omega
    by_cases t3 : t = 3
    · subst t3
      go_wp2
      go_loopw [6] (fun r wr => ∃ R : ByteArray, r = .string R ∧ R.size ≤ 90 ∧ IsCur wr g a len cap ∧ w.grownBy wr (some g)) (fun r _ => 100 - textLen r)
      case atStart => exact ⟨T, rfl, by omega, cu6, gr6⟩
      case round =>
        obtain ⟨R, rfl, hR, cuR, grR⟩ := hrel
        clear cu6 gr6
        have e1 := l1Below_any g a len cap zs 6 wr cuR (HR.out _ grR) (by decide) (by decide)
        go_wp2_with fail
        refine e1.mono ?_
        clear e1
        rintro e w7 ⟨x, rfl, hx, cu7, h7⟩
        have gr7 := grown_trans grR h7
        clear h7 cuR grR
        by_cases hlt : (R.size : Int) < 78 + (x : Int)
        · go_wp2
          go_roundw
          case rel => exact ⟨R ++ ⟨#[121]⟩, rfl, by rw [ByteArray.size_append]; have : (⟨#[121]⟩ : ByteArray).size = 1 := rfl; omega, cu7, gr7⟩
          case measure =>
            have : (R ++ (⟨#[121]⟩ : ByteArray)).size = R.size + 1 := by rw [ByteArray.size_append]; rfl
            simp only [textLen, this]; omega
        · have cvr := conv_run R w7
          have bel := conv_below R w7
          have cat := conv_at R w7
          go_wp2
          go_ret
          exact ⟨_, R, _, rfl, cat, gr7.size, by omega, cu7.kept (grown_of_below bel none) (by intro e; cases e), grown_trans gr7 (grown_of_below bel _)⟩
    have b3 : ((t : Int) == 3) = false := by rw [beq_eq_false_iff_ne]; omega
    by_cases t4 : t = 4
    · subst t4
      have e1 := pickS [⟨#[]⟩, ⟨#[124]⟩, ⟨#[63]⟩, ⟨#[63, 124]⟩, ⟨#[45, 48, 124, 110, 111]⟩, ⟨#[48, 48, 124, 110, 111]⟩, ⟨#[57, 57, 57, 57, 124, 110, 111]⟩, ⟨#[49, 48, 48, 48, 48, 124, 110, 111]⟩, ⟨#[48, 124, 109, 97, 121, 98, 101]⟩, ⟨#[45, 57, 57, 57, 57, 124, 63]⟩] g a len cap zs w6 cu6 (HR.out _ gr6) (by simp) (by simp)
      simp only [List.map_cons, List.map_nil, List.length_cons, List.length_nil, Nat.zero_add, Nat.reduceAdd] at e1
      go_wp2_with fail
      refine e1.mono ?_
      clear e1
      rintro e w7 ⟨y, rfl, hy, cu7, h7⟩
      have hy16 : y.size ≤ 16 := (by decide +kernel : ∀ y ∈ ([⟨#[]⟩, ⟨#[124]⟩, ⟨#[63]⟩, ⟨#[63, 124]⟩, ⟨#[45, 48, 124, 110, 111]⟩, ⟨#[48, 48, 124, 110, 111]⟩, ⟨#[57, 57, 57, 57, 124, 110, 111]⟩, ⟨#[49, 48, 48, 48, 48, 124, 110, 111]⟩, ⟨#[48, 124, 109, 97, 121, 98, 101]⟩, ⟨#[45, 57, 57, 57, 57, 124, 63]⟩] : List ByteArray), y.size ≤ 16) y hy
      have gr7 := grown_trans gr6 h7
      clear hy h7 gr6 cu6
      have cvr := conv_run (y) w7
      have bel := conv_below (y) w7
      have cat := conv_at (y) w7
      go_wp2
      go_ret
      exact ⟨_, y, _, rfl, cat, gr7.size, by omega, cu7.kept (grown_of_below bel none) (by intro e; cases e), grown_trans gr7 (grown_of_below bel _)⟩
    have b4 : ((t : Int) == 4) = false := by rw [beq_eq_false_iff_ne]; omega
    clear t0 t1 t2 t3 t4
    have cvr := conv_run (T) w6
    have bel := conv_below (T) w6
    have cat := conv_at (T) w6
    go_wp2
    go_ret
    exact ⟨_, T, _, rfl, cat, gr6.size, by omega, cu6.kept (grown_of_below bel none) (by intro e; cases e), grown_trans gr6 (grown_of_below bel _)⟩
  | false =>
    have S4 := S3
    have E4 := E3
    have os4 := os3
    have ow4 := ow3
    have cu4 := cu3
    have gr4 := gr3
    clear S3 E3 os3 ow3 cu3 gr3
    have rs := OwnS.at os4
    have eT := specExText_any _ _ s ⟨d.bins, d.cls⟩ w3 rs ⟨_, rfl, RowI.of_own ow4 rfl⟩ HTN.out.ok (by show d.bins.length ≤ _; omega)
    have hTz := exText_60 s ⟨d.bins, d.cls⟩
    have k0 : w3.cell? ⟨w.heap.size, 0, none⟩ = some (.slice oa s.attrs.length ka) := S4.cell 0
    have k1 : w3.cell? ⟨w.heap.size, 1, none⟩ = some (.slice oc s.classes.length kc) := S4.cell 1
    have j0 : w3.cell? ⟨w1.heap.size, 0, none⟩ = some (.slice ov d.bins.length cv) := E4.cell 0
    have j1 : w3.cell? ⟨w1.heap.size, 1, none⟩ = some (.int .i64 d.cls) := E4.cell 1
    generalize exText s ⟨d.bins, d.cls⟩ = T at eT hTz
    clear rs
    go_wp2_with fail
    refine eT.mono ?_
    clear eT k0 k1 j0 j1
    rintro e w5 ⟨rfl, hb5⟩
    have gr5 := grown_trans gr4 (grown_of_below hb5 _)
    have cu5 := cu4.kept (grown_of_below hb5 none) (by intro e; cases e)
    clear hb5 gr4 cu4 S4 E4 ow4 os4
    have e1 := l1Below_any g a len cap zs 12 w5 cu5 (HR.out _ gr5) (by decide) (by decide)
    go_wp2_with fail
    refine e1.mono ?_
    clear e1
    rintro e w6 ⟨t, rfl, ht12, cu6, h6⟩
    have gr6 := grown_trans gr5 h6
    clear h6 gr5 cu5
    by_cases t0 : t = 0
    · subst t0
      have e1 := pickS [⟨#[124]⟩, ⟨#[120]⟩, ⟨#[44]⟩] g a len cap zs w6 cu6 (HR.out _ gr6) (by simp) (by simp)
      simp only [List.map_cons, List.map_nil, List.length_cons, List.length_nil, Nat.zero_add, Nat.reduceAdd] at e1
      go_wp2_with fail
      refine e1.mono ?_
      clear e1
      rintro e w7 ⟨y, rfl, hy, cu7, h7⟩
      have hy16 : y.size ≤ 16 := (by decide +kernel : ∀ y ∈ ([⟨#[124]⟩, ⟨#[120]⟩, ⟨#[44]⟩] : List ByteArray), y.size ≤ 16) y hy
      have gr7 := grown_trans gr6 h7
      clear hy h7 gr6 cu6
      have cvr := conv_run (T ++ y) w7
      have bel := conv_below (T ++ y) w7
      have cat := conv_at (T ++ y) w7
      go_wp2
      go_ret
      exact ⟨_, T ++ y, _, rfl, (by simpa using cat), gr7.size, by rw [ByteArray.size_append]; omega, cu7.kept (grown_of_below bel none) (by intro e; cases e), grown_trans gr7 (grown_of_below bel _)⟩
    have b0 : ((t : Int) == 0) = false := by rw [beq_eq_false_iff_ne]; omega
    by_cases t1 : t = 1
    · subst t1
      have cvr := conv_run (⟨#[44]⟩ ++ T) w6
      have bel := conv_below (⟨#[44]⟩ ++ T) w6
      have cat := conv_at (⟨#[44]⟩ ++ T) w6
      go_wp2
      go_ret
      exact ⟨_, ⟨#[44]⟩ ++ T, _, rfl, (by have h1 : (⟨#[44]⟩ ++ T : ByteArray).size = 1 + T.size := (by rw [ByteArray.size_append]; rfl); rw [h1] at cat; exact cat), gr6.size, by rw [ByteArray.size_append]; have : (⟨#[44]⟩ : ByteArray).size = 1 := rfl; omega, cu6.kept (grown_of_below bel none) (by intro e; cases e), grown_trans gr6 (grown_of_below bel _)⟩
    have b1 : ((t : Int) == 1) = false := by rw [beq_eq_false_iff_ne]; omega
    by_cases t2 : t = 2
    · subst t2
      have cvr := conv_run (⟨#[120]⟩ ++ T) w6
      have bel := conv_below (⟨#[120]⟩ ++ T) w6
      have cat := conv_at (⟨#[120]⟩ ++ T) w6
      go_wp2
      go_ret
      exact ⟨_, ⟨#[120]⟩ ++ T, _, rfl, (by have h1 : (⟨#[120]⟩ ++ T : ByteArray).size = 1 + T.size := (by rw [ByteArray.size_append]; rfl); rw [h1] at cat; exact cat), gr6.size, by rw [ByteArray.size_append]; have : (⟨#[120]⟩ : ByteArray).size = 1 := rfl; omega, cu6.kept (grown_of_below bel none) (by intro e; cases e), grown_trans gr6 (grown_of_below bel _)⟩
    have b2 : ((t : Int) == 2) = false := by rw [beq_eq_false_iff_ne]; omega
    by_cases t3 : t = 3
    · subst t3
      go_wp2
      go_loopw [6] (fun r wr => ∃ R : ByteArray, r = .string R ∧ R.size ≤ 90 ∧ IsCur wr g a len cap ∧ w.grownBy wr (some g)) (fun r _ => 100 - textLen r)
      case atStart => exact ⟨T, rfl, by omega, cu6, gr6⟩
      case round =>
        obtain ⟨R, rfl, hR, cuR, grR⟩ := hrel
        clear cu6 gr6
        have e1 := l1Below_any g a len cap zs 6 wr cuR (HR.out _ grR) (by decide) (by decide)
        go_wp2_with fail
        refine e1.mono ?_
        clear e1
        rintro e w7 ⟨x, rfl, hx, cu7, h7⟩
        have gr7 := grown_trans grR h7
        clear h7 cuR grR
        by_cases hlt : (R.size : Int) < 78 + (x : Int)
        · go_wp2
          go_roundw
          case rel => exact ⟨R ++ ⟨#[121]⟩, rfl, by rw [ByteArray.size_append]; have : (⟨#[121]⟩ : ByteArray).size = 1 := rfl; omega, cu7, gr7⟩
          case measure =>
            have : (R ++ (⟨#[121]⟩ : ByteArray)).size = R.size + 1 := by rw [ByteArray.size_append]; rfl
            simp only [textLen, this]; omega
        · have cvr := conv_run R w7
          have bel := conv_below R w7
          have cat := conv_at R w7
          go_wp2
          go_ret
          exact ⟨_, R, _, rfl, cat, gr7.size, by omega, cu7.kept (grown_of_below bel none) (by intro e; cases e), grown_trans gr7 (grown_of_below bel _)⟩
    have b3 : ((t : Int) == 3) = false := by rw [beq_eq_false_iff_ne]; omega
    by_cases t4 : t = 4
    · subst t4
      have e1 := pickS [⟨#[]⟩, ⟨#[124]⟩, ⟨#[63]⟩, ⟨#[63, 124]⟩, ⟨#[45, 48, 124, 110, 111]⟩, ⟨#[48, 48, 124, 110, 111]⟩, ⟨#[57, 57, 57, 57, 124, 110, 111]⟩, ⟨#[49, 48, 48, 48, 48, 124, 110, 111]⟩, ⟨#[48, 124, 109, 97, 121, 98, 101]⟩, ⟨#[45, 57, 57, 57, 57, 124, 63]⟩] g a len cap zs w6 cu6 (HR.out _ gr6) (by simp) (by simp)
      simp only [List.map_cons, List.map_nil, List.length_cons, List.length_nil, Nat.zero_add, Nat.reduceAdd] at e1
      go_wp2_with fail
      refine e1.mono ?_
      clear e1
      rintro e w7 ⟨y, rfl, hy, cu7, h7⟩
      have hy16 : y.size ≤ 16 := (by decide +kernel : ∀ y ∈ ([⟨#[]⟩, ⟨#[124]⟩, ⟨#[63]⟩, ⟨#[63, 124]⟩, ⟨#[45, 48, 124, 110, 111]⟩, ⟨#[48, 48, 124, 110, 111]⟩, ⟨#[57, 57, 57, 57, 124, 110, 111]⟩, ⟨#[49, 48, 48, 48, 48, 124, 110, 111]⟩, ⟨#[48, 124, 109, 97, 121, 98, 101]⟩, ⟨#[45, 57, 57, 57, 57, 124, 63]⟩] : List ByteArray), y.size ≤ 16) y hy
      have gr7 := grown_trans gr6 h7
      clear hy h7 gr6 cu6
      have cvr := conv_run (y) w7
      have bel := conv_below (y) w7
      have cat := conv_at (y) w7
      go_wp2
      go_ret
      exact ⟨_, y, _, rfl, cat, gr7.size, by omega, cu7.kept (grown_of_below bel none) (by intro e; cases e), grown_trans gr7 (grown_of_below bel _)⟩
    have b4 : ((t : Int) == 4) = false := by rw [beq_eq_false_iff_ne]; omega
    clear t0 t1 t2 t3 t4
    have cvr := conv_run (T) w6
    have bel := conv_below (T) w6
    have cat := conv_at (T) w6
    go_wp2
    go_ret
    exact ⟨_, T, _, rfl, cat, gr6.size, by omega, cu6.kept (grown_of_below bel none) (by intro e; cases e), grown_trans gr6 (grown_of_below bel _)⟩
end Go.Proofs.YtfekcckckmhioabGreatDoor
