/- Texts of this claim, put together: part 23. -/
import Derived.Test.YtfekcckckmhioaaGreatDoorFnRowTextPack9
import Derived.Test.YtfekcckckmhioaaGreatDoorFnRowTextPack11
import Derived.Shelf.Strings.OnBuilder
import Derived.Test.YtfekcckckmhioaaGreatDoorProg
import Derived.Deep.RegionLaw
import Derived.Test.YtfekcckckmhioaaGreatDoorFnRowTextPack22
import Derived.Test.YtfekcckckmhioaaGreatDoorFnRowTextPack4
import Derived.Lib.QuietBelow
import Derived.BigQuiet
/- How long the text of a cell is; what a right example is made of. -/
namespace Go.Proofs.YtfekcckckmhioaaGreatDoor
open Go.RowKit
set_option maxRecDepth 100000
theorem cellText_size (a : AttrD) (b : Int) : (cellText a b).size ≤ 8 := by
  unfold cellText
  split
  · next h =>
    obtain ⟨hk, h1, h2⟩ := h
    split
    · decide
    · next hb =>
      split
      · next hv =>
        have hv0 : a.vals.length ≠ 0 := by omega
        obtain ⟨hc, l2, l4, hwo⟩ := ok_vals hk hv0
        have hbin : bins a = a.vals.length := by unfold bins; rw [if_pos hk, if_neg hv0]
        exact (word_size (words_all hwo _ (tx_mem (by omega)))).2
      · next hv =>
        have hz : a.vals.length = 0 := by omega
        have hc0 := (ok_kind hk).1 hz
        split
        · next hlt =>
          have := cuts_in hk b.toNat (by omega)
          have := itB_size (n := a.cuts.getD b.toNat 0) (by omega) (by omega)
          omega
        · have := cuts_in hk (a.cuts.length - 1) (by omega)
          have := itB_size (n := a.cuts.getD (a.cuts.length - 1) 0 + 1) (by omega) (by omega)
          omega
  · decide
theorem sch_parts5 {s : SchemaD} (h : schemaOk s = true) : s.attrs.length ≤ 5 ∧ 1 ≤ s.attrs.length := by
  unfold schemaOk at h
  rw [Bool.and_eq_true] at h
  have := of_decide_eq_true h.1
  omega
theorem ex_parts {s : SchemaD} {e : ExD} (h : exOk s e = true) : schemaOk s = true ∧ e.bins.length = s.attrs.length ∧ (-1 ≤ e.cls ∧ e.cls ≤ (s.classes.length : Int) - 1) ∧ binsRight s e = true := by
  unfold exOk at h
  rw [Bool.and_eq_true, Bool.and_eq_true, Bool.and_eq_true] at h
  exact ⟨h.1, of_decide_eq_true h.2.1, of_decide_eq_true h.2.2.1, h.2.2.2⟩
end Go.Proofs.YtfekcckckmhioaaGreatDoor
/- Contracts of the library that this seat calls, laid at its own numbers out of the kit. -/
namespace Go.Proofs
open Go.Shelf
def Tryz.lays156_ren : Go.Shelf.Ren := ⟨fun | 156 => 43 | 165 => 70 | 166 => 71 | 169 => 72 | 240 => 96 | 241 => 97 | 276 => 110 | 277 => 111 | n => n, fun | 31 => 23 | 9 => 9 | 3 => 3 | 4 => 4 | 0 => 0 | 20 => 20 | 72 => 110 | 76 => 112 | 70 => 108 | 37 => 26 | 75 => 62 | 127 => 141 | 164 => 121 | 5 => 5 | 80 => 114 | n => n, fun | n => n⟩
theorem Tryz.lays156 : Go.Proofs.Lays.n156 Tryz.prog Tryz.lays156_ren := {
  mixed := by kernel_rfl
  f156 := Tryz.func43.trans (congrArg some (by kernel_rfl))
  f165 := Tryz.func70.trans (congrArg some (by kernel_rfl))
  f166 := Tryz.func71.trans (congrArg some (by kernel_rfl))
  f169 := Tryz.func72.trans (congrArg some (by kernel_rfl))
  f240 := Tryz.func96.trans (congrArg some (by kernel_rfl))
  f241 := Tryz.func97.trans (congrArg some (by kernel_rfl))
  f276 := Tryz.func110.trans (congrArg some (by kernel_rfl))
  f277 := Tryz.func111.trans (congrArg some (by kernel_rfl))
  t0 := Tryz.underlying0
  a0 := Tryz.isAgg0
  z0 := Tryz.sizeOf0
  v0 := Tryz.zeroValue0
  t3 := Tryz.underlying3
  a3 := Tryz.isAgg3
  z3 := Tryz.sizeOf3
  v3 := Tryz.zeroValue3
  t4 := Tryz.underlying4
  a4 := Tryz.isAgg4
  z4 := Tryz.sizeOf4
  v4 := Tryz.zeroValue4
  t9 := Tryz.underlying9
  a9 := Tryz.isAgg9
  z9 := Tryz.sizeOf9
  v9 := Tryz.zeroValue9
  t20 := Tryz.underlying20
  a20 := Tryz.isAgg20
  z20 := Tryz.sizeOf20
  v20 := Tryz.zeroValue20
  t31 := Tryz.underlying23
  a31 := Tryz.isAgg23
  z31 := Tryz.sizeOf23
  v31 := Tryz.zeroValue23
  t37 := Tryz.underlying26
  a37 := Tryz.isAgg26
  z37 := Tryz.sizeOf26
  v37 := Tryz.zeroValue26
  t70 := Tryz.underlying108
  a70 := Tryz.isAgg108
  z70 := Tryz.sizeOf108
  v70 := Tryz.zeroValue108
  t72 := Tryz.underlying110
  a72 := Tryz.isAgg110
  z72 := Tryz.sizeOf110
  v72 := Tryz.zeroValue110
  t75 := Tryz.underlying62
  a75 := Tryz.isAgg62
  z75 := Tryz.sizeOf62
  v75 := Tryz.zeroValue62
  t76 := Tryz.underlying112
  a76 := Tryz.isAgg112
  z76 := Tryz.sizeOf112
  v76 := Tryz.zeroValue112
  t127 := Tryz.underlying141
  a127 := Tryz.isAgg141
  z127 := Tryz.sizeOf141
  v127 := Tryz.zeroValue141
  t164 := Tryz.underlying121
  a164 := Tryz.isAgg121
  z164 := Tryz.sizeOf121
  v164 := Tryz.zeroValue121 }
theorem Tryz.Builder_Extra_156 : Builder.Extra Tryz.prog Tryz.lays156_ren := {
  sizeBuilder := by kernel_rfl
  liesBuilder := by kernel_rfl
  t5 := Tryz.underlying5
  a5 := Tryz.isAgg5
  z5 := Tryz.sizeOf5
  v5 := Tryz.zeroValue5
  infoByte := by kernel_rfl
  cellsByte := by kernel_rfl
  sizeByte := by kernel_rfl
  neB5 := by decide }
open Go.RowKit in
theorem Tryz.strings_Join (bk o c : Nat) (xs : List ByteArray) (sep : ByteArray) (w : World) (hcells : ∀ (j : Nat) x, xs[j]? = some x → w.cell? ⟨bk, o + j, none⟩ = some (.string x)) (hbk : bk < w.heap.size) (hN : xs.length ≤ 140737488355328) (hcap : xs.length ≤ c) (hlen : (Lib.join (xs.map (·.data.toList)) sep.data.toList).length ≤ 140737488355328) :
    Calls Tryz.prog 43 #[.slice (some ⟨bk, o, none⟩) xs.length c, .string sep] w fun e w' => e = .returned (.string ⟨(Lib.join (xs.map (·.data.toList)) sep.data.toList).toArray⟩) ∧ Below w.heap.size w w' := Any.strings_Join Tryz.lays156 Tryz.Builder_Extra_156 bk o c xs sep w hcells hbk hN hcap hlen
open Go.RowKit in
theorem Tryz.strings_Join_none (a : Option Addr) (c : Nat) (sep : ByteArray) (w : World) :
    Calls Tryz.prog 43 #[.slice a 0 c, .string sep] w fun e w' => e = .returned (.string ⟨#[]⟩) ∧ w' = w := Any.strings_Join_none Tryz.lays156 Tryz.Builder_Extra_156 a c sep w
end Go.Proofs
/- Texts with another one between, by the library. -/
namespace Go.Proofs.YtfekcckckmhioaaGreatDoor
open Go.RowKit
set_option maxRecDepth 100000

theorem implJoin_any (v : Value) (ss : List ByteArray) (sep : ByteArray) (w : World) (h : RowS w v ss) (hn : ss.length ≤ 1048576) (hz : (joinT ss sep).size ≤ 1000000) :
    Calls Tryz.prog 43 #[v, .string sep] w fun e w' => e = .returned (.string (joinT ss sep)) ∧ Below w.heap.size w w' := by
  obtain ⟨oa, cap, rfl, hc, hr⟩ := h
  by_cases h0 : 0 < ss.length
  · obtain ⟨g, o, rfl, hg, hj⟩ := hr h0
    refine Tryz.strings_Join g o cap ss sep w (fun j x hx => ?_) hg (by omega) hc ?_
    · have hlt : j < ss.length := by
        rcases Nat.lt_or_ge j ss.length with h1 | h1
        · exact h1
        · rw [List.getElem?_eq_none h1] at hx; cases hx
      rw [hj j hlt, tx_eq hlt]
      rw [List.getElem?_eq_getElem hlt] at hx
      injection hx with hx
      rw [hx]
    · have h1 : (joinT ss sep).size = (Lib.join (ss.map (·.data.toList)) sep.data.toList).length := by simp [joinT, ByteArray.size]
      omega
  · obtain rfl : ss = [] := List.eq_nil_of_length_eq_zero (by omega)
    exact (Tryz.strings_Join_none oa cap sep w).mono fun e w' ⟨h1, h2⟩ => ⟨h1, h2 ▸ Below.refl _ _⟩
end Go.Proofs.YtfekcckckmhioaaGreatDoor
/- The text of an example, by the program. -/
namespace Go.Proofs.YtfekcckckmhioaaGreatDoor
open Go.RowKit
set_option maxRecDepth 100000
set_option linter.unusedSimpArgs false
theorem sch_words {s : SchemaD} (h : schemaOk s = true) : wordsOk s.classes = true := by
  unfold schemaOk choices at h
  rw [Bool.and_eq_true, Bool.and_eq_true, Bool.and_eq_true] at h
  exact h.2.1.2
set_option maxHeartbeats 3200000 in
theorem implExText_any (vs ve : Value) (s : SchemaD) (e : ExD) (w : World) (hs : SchemaAt w vs s) (he : ExAt w ve e) (hn : okSch s) (hb : e.bins.length ≤ 1099511627776) (hT : Tab w) :
    Calls Tryz.prog 19 #[vs, ve] w fun r w' => r = .returned (.string (exText s e)) ∧ Below w.heap.size w w' := by
  obtain ⟨i0, hi, hi0, hi1, hi2⟩ := info_parts strInfo
  have HS : Hid (∀ W, Below w.heap.size w W → SchemaAt W vs s) := fun W h => hs.later h
  have HEX : Hid (∀ W, Below w.heap.size w W → ExAt W ve e) := fun W h => he.later h
  have HOK : Hid (okSch s) := hn
  have HTB : Hid (∀ W, Below w.heap.size w W → Tab W) := fun W h => hT.later h
  have mixed : Tryz.prog.follows .mixedOrders = true := by kernel_rfl
  clear hT
  obtain ⟨va, vc, rfl, ra, rc⟩ := hs
  obtain ⟨oa, ka, rfl, -, -⟩ := id ra
  obtain ⟨oc, kc, rfl, -, -⟩ := id rc
  obtain ⟨vb, rfl, rb⟩ := he
  obtain ⟨ob, kb, rfl, -, -⟩ := id rb
  have la := hn.attrs
  have lc := hn.classes.1
  clear ra rc rb hn
  have B0 : Below w.heap.size w ((w.alloc (.cells #[.slice oa s.attrs.length ka, .slice oc s.classes.length kc] 35)).alloc (.cells #[.slice ob e.bins.length kb, .int .i64 e.cls] 30)) := ((Below.refl _ _).alloc (Nat.le_refl _) _).alloc (by simp) _
  have K1 := (Blk.new 35 w #[.slice oa s.attrs.length ka, .slice oc s.classes.length kc]).alloc (.cells #[.slice ob e.bins.length kb, .int .i64 e.cls] 30)
  have K2 : Blk 30 ((w.alloc (.cells #[.slice oa s.attrs.length ka, .slice oc s.classes.length kc] 35)).alloc (.cells #[.slice ob e.bins.length kb, .int .i64 e.cls] 30)) (w.heap.size + 1) #[.slice ob e.bins.length kb, .int .i64 e.cls] := by
    have := Blk.new 30 (w.alloc (.cells #[.slice oa s.attrs.length ka, .slice oc s.classes.length kc] 35)) #[.slice ob e.bins.length kb, .int .i64 e.cls]
    rwa [show (w.alloc (.cells #[.slice oa s.attrs.length ka, .slice oc s.classes.length kc] 35)).heap.size = w.heap.size + 1 by simp] at this
  have e1 := implExOk_any _ _ s e _ (HS.out _ B0) (HEX.out _ B0) HOK.out hb
  cases hk : exOk s e with
  | false =>
    have HE : Hid (exText s e = ⟨#[]⟩) := by unfold exText; rw [hk]; rfl
    rw [hk] at e1
    clear hk K1 K2
    go_enter Tryz.func19, Tryz.ntmps19
    go_wp2_with fail
    refine e1.mono ?_
    clear e1
    rintro r w1 ⟨rfl, hb1⟩
    go_wp2
    go_ret
    exact ⟨by rw [HE.out]; rfl, B0.trans (hb1.mono (by simp; omega))⟩
  | true =>
    have HX : Hid (exText s e = joinT (cellsT s e e.bins.length) ⟨#[44]⟩ ++ ⟨#[124]⟩ ++ classText s e.cls) := by unfold exText; rw [hk]; rfl
    have HP : Hid (schemaOk s = true ∧ e.bins.length = s.attrs.length ∧ (-1 ≤ e.cls ∧ e.cls ≤ (s.classes.length : Int) - 1) ∧ binsRight s e = true) := ex_parts hk
    rw [hk] at e1
    clear hk
    go_enter Tryz.func19, Tryz.ntmps19
    go_wp2_with fail
    refine e1.mono ?_
    clear e1
    rintro r w1 ⟨rfl, hb1⟩
    have hs1 := hb1.size
    simp only [World.size_alloc] at hs1
    have B1 := B0.trans (hb1.mono (by simp; omega))
    replace K1 := K1.below hb1
    replace K2 := K2.below hb1
    clear hb1 B0
    have HK : Hid (∀ W, Below w1.heap.size w1 W → Blk 35 W w.heap.size #[.slice oa s.attrs.length ka, .slice oc s.classes.length kc] ∧ Blk 30 W (w.heap.size + 1) #[.slice ob e.bins.length kb, .int .i64 e.cls]) := fun W h => ⟨K1.below h, K2.below h⟩
    have p0 : w1.cell? ⟨w.heap.size, 0, none⟩ = some (.slice oa s.attrs.length ka) := K1.cell 0
    clear K1 K2
    go_wp2
    go_loopw [5, 6, 15] (fun v _ i wr => ∃ k : Nat, i = .int .i64 k ∧ k ≤ s.attrs.length ∧ wr.ownsRow w1.heap.size 9 1 v k ((cellsT s e k).map Value.string) ∧ Below w1.heap.size w1 wr) (fun _ _ i _ => s.attrs.length - (intOf i).toNat)
    case atStart => exact ⟨0, rfl, by omega, ⟨by simp [cellsT], .inl ⟨rfl, rfl⟩⟩, Below.refl _ _⟩
    case round =>
      obtain ⟨k, rfl, hk, own, hbr⟩ := hrel
      have hbw := B1.trans (hbr.mono B1.size)
      obtain ⟨A1, A2⟩ := HK.out wr hbr
      have k1 : wr.cell? ⟨w.heap.size, 1, none⟩ = some (.slice oc s.classes.length kc) := A1.cell 1
      have j0 : wr.cell? ⟨w.heap.size + 1, 0, none⟩ = some (.slice ob e.bins.length kb) := A2.cell 0
      have j1 : wr.cell? ⟨w.heap.size + 1, 1, none⟩ = some (.int .i64 e.cls) := A2.cell 1
      clear p0
      by_cases hkA : k < s.attrs.length
      · obtain ⟨va', vc', e', rA, -⟩ := HS.out wr hbw
        cases e'
        obtain ⟨oa', ka', e', -, hrA⟩ := rA
        cases e'
        have hlt : k < e.bins.length := by have := HP.out.2.1; omega
        obtain ⟨ga, fa, rfl, hga, hjA⟩ := hrA (by omega)
        obtain ⟨x1, x2, c0, c1, c2, r1, r2⟩ := hjA k hkA
        obtain ⟨y1, z1, rfl, -, -⟩ := id r1
        obtain ⟨y2, z2, rfl, -, -⟩ := id r2
        obtain ⟨vb', e', rB⟩ := HEX.out wr hbw
        cases e'
        obtain ⟨ob', kb', e', -, hrB⟩ := rB
        cases e'
        obtain ⟨gb, fb, rfl, hgb, hjB⟩ := hrB (by omega)
        have b0 := hjB k hlt
        obtain ⟨KA, BA⟩ := blk_1 57 wr #[.string (ad s.attrs k).name, .slice y1 (ad s.attrs k).cuts.length z1, .slice y2 (ad s.attrs k).vals.length z2]
        obtain ⟨W, hW⟩ : ∃ W, W = wr.alloc (.cells #[.string (ad s.attrs k).name, .slice y1 (ad s.attrs k).cuts.length z1, .slice y2 (ad s.attrs k).vals.length z2] 57) := ⟨_, rfl⟩
        rw [← hW] at KA BA
        have bd : Below W.heap.size W W.drew := below_drewN (Below.refl _ _) 1
        have hbWw := hbw.trans (BA.mono hbw.size)
        have e1 := implCellText_any (.agg #[.string (ad s.attrs k).name, .slice y1 (ad s.attrs k).cuts.length z1, .slice y2 (ad s.attrs k).vals.length z2]) (ad s.attrs k) (e.bins.getD k 0) W.drew ⟨_, _, rfl, (r1.later BA).later bd, (r2.later BA).later bd⟩ (HOK.out.each _ (ad_mem hkA)) (HTB.out _ (hbWw.trans (bd.mono hbWw.size)))
        have HCT : Hid ((cellsT s e (k + 1)).map Value.string = (cellsT s e k).map Value.string ++ [.string (cellText (ad s.attrs k) (e.bins.getD k 0))]) := by rw [cellsT_succ, List.map_append]; rfl
        generalize cellText (ad s.attrs k) (e.bins.getD k 0) = T at e1 HCT
        generalize e.bins.getD k 0 = zb at e1 b0
        have od : W.drew.ownsRow w1.heap.size 9 1 _ k ((cellsT s e k).map Value.string) := own_below (own_below own BA) bd
        obtain ⟨ov, cv, rfl⟩ := own_slice own
        have hvo : ∀ j, (Value.slice ov k cv).ownBlock = some j → w1.heap.size ≤ j := fun j hj => (own.lt j hj).1
        have d0 : W.drew.cell? ⟨wr.heap.size, 0, none⟩ = some (.string (ad s.attrs k).name) := KA.cell 0
        have d1 : W.drew.cell? ⟨wr.heap.size, 1, none⟩ = some (.slice y1 (ad s.attrs k).cuts.length z1) := KA.cell 1
        have d2 : W.drew.cell? ⟨wr.heap.size, 2, none⟩ = some (.slice y2 (ad s.attrs k).vals.length z2) := KA.cell 2
        have d3 : W.drew.cell? ⟨gb, fb + k, none⟩ = some (.int .i64 zb) := (BA.cell (p := ⟨gb, fb + k, none⟩) hgb).trans b0
        have d5 : W.drew.cell? ⟨w.heap.size + 1, 0, none⟩ = some (.slice (some ⟨gb, fb, none⟩) e.bins.length kb) := (BA.cell (p := ⟨w.heap.size + 1, 0, none⟩) A2.lt).trans j0
        have hbd : Below w1.heap.size w1 W.drew := below_drewN (hbr.trans (BA.mono hbr.size)) 1
        have hsr := hbr.size
        have HBD : Hid (Below w1.heap.size w1 W.drew) := hbd
        have hsW : w1.heap.size ≤ W.drew.heap.size := hbd.size
        clear own hjA hjB hrA hrB r1 r2 hbr hbw hgb A1 A2 k1 j1 j0 b0 KA BA bd hbWw hbd
        go_wp2
        rw [← hW]
        clear hW c0 c1 c2
        go_region_law (first
          | (refine step_wp rfl ?_; unfold Oper.wp; go_simp; go_at_call 42; refine e1.mono ?_; clear e1; rintro r w2 ⟨rfl, hb2⟩; have o2 := own_below od hb2; have hs2 : w1.heap.size ≤ w2.heap.size := Nat.le_trans hsW hb2.size)
          | (refine step_wp rfl (wp_append_own _ _ _ 23 rfl w1.heap.size 9 i0 (.string ⟨#[]⟩) 1 16 Tryz.underlying23 hi hi0 hi1 hi2 rfl (by decide) _ _ _ rfl (o2.alloc (.cells #[.string T] 9)) ⟨w2.heap.size, 0, none⟩ 1 1 [.string T] rfl rfl (newc _ _ _) (by simp [Value.oneCell']) (by unfold maxLen; omega) (by omega) (by simp; omega) ?_); intro v' w3 ho hg3 hnil))
        all_goals
          have b3 : Below w1.heap.size w1 w3 := ((HBD.out.trans (hb2.mono HBD.out.size)).alloc (by omega) (.cells #[.string T] 9)).grown hg3 (by simp; omega) hvo
          clear hg3 hnil hb2 o2 hvo od d0 d1 d2 d3 d5
          go_wp2
          go_roundw
          case rel => exact ⟨k + 1, by go_num, by omega, by rw [HCT.out]; exact ho, b3⟩
          case measure => simp [intOf]; omega
      · obtain rfl : k = s.attrs.length := by omega
        have HLN : Hid (e.bins.length = s.attrs.length) := HP.out.2.1
        have h5 : s.attrs.length ≤ 5 := by have := (sch_parts5 HP.out.1).1; omega
        have hrow := RowS.of_own own (cellsT_len s e _)
        obtain ⟨oo, co, rfl⟩ := own_slice own
        have hjz : (joinT (cellsT s e s.attrs.length) ⟨#[44]⟩).size ≤ 500000 := by
          have := joinT_size (cellsT s e s.attrs.length) ⟨#[44]⟩ 8 (fun t ht => by
            obtain ⟨i, _, rfl⟩ := List.mem_map.1 ht
            exact cellText_size _ _)
          rw [cellsT_len] at this
          have h1 : (⟨#[44]⟩ : ByteArray).size = 1 := rfl
          rw [h1] at this
          omega
        have hcls := HP.out.2.2.1
        have hwz : ∀ t ∈ s.classes, t.size ≤ 8 := fun t ht => (word_size (words_all (sch_words HP.out.1) t ht)).2
        obtain ⟨va', vc', e', -, rC⟩ := HS.out wr hbw
        cases e'
        have hCz : (choiceT s.classes e.cls).size ≤ 8 := by
          unfold choiceT
          split
          · decide
          · exact hwz _ (tx_mem (by omega))
        have HX2 : Hid (exText s e = joinT (cellsT s e s.attrs.length) ⟨#[44]⟩ ++ ⟨#[124]⟩ ++ choiceT s.classes e.cls) := by
          rw [HX.out, HLN.out]
          have : classText s e.cls = choiceT s.classes e.cls := by
            unfold classText choiceT
            by_cases h0 : e.cls = -1
            · rw [if_neg (by omega), if_pos h0]
            · rw [if_pos (by omega), if_neg h0]
          rw [this]; rfl
        have cJ := fun d os => Calls.regrown_of (implJoin_any (.slice oo s.attrs.length co) (cellsT s e s.attrs.length) ⟨#[44]⟩ (Go.Sort.grow (redrawn wr d) os) (hrow.later (below_regrown wr d os)) (by rw [cellsT_len]; omega) (by omega))
        have cC := fun d os => Calls.regrown_of (choiceText_any (.slice oc s.classes.length kc) s.classes e.cls (Go.Sort.grow (redrawn wr d) os) (rC.later (below_regrown wr d os)) hcls.1 (by omega) lc hwz)
        have d1 := fun d os => cell_regrown k1 d os
        have d2 := fun d os => cell_regrown j1 d os
        have HBR : Hid (∀ d os, Below w.heap.size w (Go.Sort.grow (redrawn wr d) os)) := fun d os => hbw.trans ((below_regrown wr d os).mono hbw.size)
        generalize joinT (cellsT s e s.attrs.length) ⟨#[44]⟩ = J at cJ hjz HX2
        generalize choiceT s.classes e.cls = C at cC hCz HX2
        clear hbr hbw own hrow HX A1 A2 hcls hwz rC k1 j0 j1
        go_wp2
        refine wp_region_quiet_below mixed (by kernel_rfl) ?_
        repeat (go_big_quiet_step (first | with_reducible exact cJ _ _ | with_reducible exact cC _ _))
        refine wpQuiet_nil ?_
        intro _ hw'
        obtain ⟨⟨dq, osq⟩, hw''⟩ := hw'
        subst hw''
        clear cJ cC d1 d2
        go_wp2
        go_ret
        exact ⟨by rw [HX2.out]; rfl, HBR.out _ _⟩
end Go.Proofs.YtfekcckckmhioaaGreatDoor
