/- What is parted is put together again: the law's own walk. -/
import Derived.Test.YtgekbbojhlcppaaDoorPq
import Derived.Test.YtgekbbojhlcppaaDoorDn
namespace Go.Proofs.YtgekbbojhlcppaaDoor
open Go.RowKit
set_option maxRecDepth 100000

theorem bigP_any (a : Option Addr) (len cap : Nat) (w : World) : Calls Tryd.prog 8 #[.slice a len cap] w fun e w' => e = .returned (.bool (decide ((1048576 : Int) < len))) ∧ w' = w := by
  go_enter Tryd.func8, Tryd.ntmps8
  go_wp2
  go_ret
  exact ⟨rfl, rfl⟩

set_option maxHeartbeats 800000 in
theorem drawParts_any (a : Option Addr) (len cap : Nat) (zs : List Int) (w : World) (hr : IsRow .u8 w a len cap zs) (hn : len ≤ 1048576) :
    Calls Tryd.prog 18 #[.slice a len cap] w fun e w' => ∃ (x : ByteArray) (b : UInt8), e = .returned (.tuple #[.string x, .int .u8 (b.toNat : Int)]) ∧ x.size ≤ 9 ∧ Below w.heap.size w w' := by
  have N := l1New_any a len cap zs w hr hn
  have P := fun w1 (hc : IsCur w1 w.heap.size a len cap) (hb : Below w.heap.size w w1) => pick_newS [⟨#[]⟩, ⟨#[97]⟩, ⟨#[97, 44, 98]⟩, ⟨#[44]⟩, ⟨#[97, 44, 44, 98, 44]⟩, ⟨#[97, 47, 98, 44, 99, 47]⟩] w.heap.size a len cap zs w1 hc (hr.later hb) (by decide) (by decide)
  have Q := fun w1 (hc : IsCur w1 w.heap.size a len cap) (hr1 : IsRow .u8 w1 a len cap zs) => pick_new [44, 47] w.heap.size a len cap zs w1 hc hr1 (by decide) (by decide)
  simp only [List.length_cons, List.length_nil, List.map_cons, List.map_nil] at P Q
  clear hr
  go_enter Tryd.func18, Tryd.ntmps18
  go_wp2_with fail
  refine N.mono ?_
  clear N
  rintro e w1 ⟨rfl, hc, hb, hsz⟩
  have P1 := P w1 hc hb
  have HB1 : Hid (Below w.heap.size w w1) := hb
  have HQ : Hid (∀ w1 (_ : IsCur w1 w.heap.size a len cap) (_ : IsRow .u8 w1 a len cap zs), Calls Tryd.prog 24 #[.pointer (some ⟨w.heap.size, 0, none⟩), .slice (some ⟨w1.heap.size, 0, none⟩) (0 + 1 + 1) (0 + 1 + 1)] (w1.alloc (.cells #[.int .i64 44, .int .i64 47] 3)) fun e w' => ∃ x : Int, e = .returned (.int .i64 x) ∧ x ∈ [44, 47] ∧ IsCur w' w.heap.size a len cap ∧ IsRow .u8 w' a len cap zs ∧ Below w.heap.size w1 w') := Q
  clear P Q hc hb hsz
  go_wp2_with fail
  refine P1.mono ?_
  clear P1
  rintro e w2 ⟨x, rfl, hx, hc2, hr2, hb2⟩
  have hsz : x.size ≤ 9 := by
    simp only [List.mem_cons, List.not_mem_nil, or_false] at hx
    rcases hx with rfl | rfl | rfl | rfl | rfl | rfl <;> decide
  have Q1 := HQ.out w2 hc2 hr2
  have HB2 : Hid (Below w.heap.size w w2) := HB1.out.trans hb2
  clear hx HQ hc2 hr2 hb2
  go_wp2_with fail
  refine Q1.mono ?_
  clear Q1
  rintro e w3 ⟨y, rfl, hy, _, _, hb3⟩
  obtain ⟨b, hyb⟩ : ∃ b : UInt8, y = (b.toNat : Int) := by
    simp only [List.mem_cons, List.not_mem_nil, or_false] at hy
    rcases hy with rfl | rfl
    · exact ⟨44, rfl⟩
    · exact ⟨47, rfl⟩
  have hy0 : 0 ≤ y := by omega
  have hy1 : y ≤ 255 := by have := b.toNat_lt; omega
  have HY : Hid (y = (b.toNat : Int)) := hyb
  clear hy hyb
  go_wp2
  go_ret2
  exact ⟨x, b, by rw [HY.out]; rfl, hsz, HB2.out.trans hb3⟩

theorem drop_tail (b : UInt8) (ps : List (List UInt8)) (k : Nat) (x : List UInt8) (h : ps[k]? = some x) : tailJ b (ps.drop k) = b :: (x ++ tailJ b (ps.drop (k + 1))) := by
  have hk : k < ps.length := (List.getElem?_eq_some_iff.1 h).1
  have e := (List.getElem?_eq_some_iff.1 h).2
  rw [List.drop_eq_getElem_cons hk, e]
  simp [tailJ]

theorem cat3 (o x : List UInt8) (b : UInt8) : mkB o ++ (⟨#[b]⟩ : ByteArray) ++ mkB x = mkB ((o ++ [b]) ++ x) := by
  apply ByteArray.ext
  simp [mkB, ByteArray.data_append]

set_option maxHeartbeats 3200000 in
theorem fnParts_in (a0 : Option Addr) (len0 cap0 : Nat) (z0 : List Int) (m : Int) (w : World) (h0 : IsRow .u8 w a0 len0 cap0 z0) (hlen : len0 ≤ 1048576) (hg : 5 < w.heap.size) (hm : w.cell? ⟨5, 0, none⟩ = some (.int .i64 m)) :
    Calls Tryd.prog 4 #[.slice a0 len0 cap0] w fun e w' => e = .returned (.bool true) ∧ Below w.heap.size w w' := by
  have hbig : decide ((1048576 : Int) < (len0 : Int)) = false := by simp; omega
  have B := bigP_any a0 len0 cap0 w
  rw [hbig] at B
  have HR : Hid (IsRow .u8 w a0 len0 cap0 z0) := h0
  have HM : Hid (5 < w.heap.size ∧ w.cell? ⟨5, 0, none⟩ = some (.int .i64 m)) := ⟨hg, hm⟩
  clear hbig h0 hg hm
  go_enter Tryd.func4, Tryd.ntmps4
  go_wp2_with fail
  refine B.mono ?_
  clear B
  rintro e w' ⟨rfl, rfl⟩
  go_wp2_with fail
  refine (drawParts_any a0 len0 cap0 z0 w' HR.out hlen).mono ?_
  rintro e w1 ⟨s, b, rfl, hs9, hb1⟩
  have hs1 := hb1.size
  have HB1 : Hid (Below w'.heap.size w' w1) := hb1
  have hg1 : 5 < w1.heap.size := by have := HM.out.1; omega
  have hm1 : w1.cell? ⟨5, 0, none⟩ = some (.int .i64 m) := (hb1.cell (p := ⟨5, 0, none⟩) HM.out.1).trans HM.out.2
  have I := implParts_any s b m w1 (by omega) hg1 hm1
  clear hb1 hm1 hg1
  go_wp2_with fail
  refine I.mono ?_
  clear I
  rintro e w2 ⟨v, rfl, ho, hb2⟩
  obtain ⟨x0, xs, hcu, hjo⟩ := cuts_join b s.data.toList []
  have hcl := cuts_clean b s.data.toList [] (by simp)
  have hps : pieces b s = (x0 :: xs).map mkB := by unfold pieces; rw [hcu]
  have hsm : ∀ x ∈ x0 :: xs, (mkB x).size ≤ 9 := fun x hx => by
    have := pieces_small b s (mkB x) (by rw [hps]; exact List.mem_map_of_mem hx)
    omega
  have HSM : Hid (∀ x ∈ x0 :: xs, (mkB x).size ≤ 9) := hsm
  clear hsm
  rw [hps] at ho
  rw [hcu] at hcl
  have hpl : (x0 :: xs).length ≤ 10 := by
    have := pieces_len b s
    rw [hps, List.length_map] at this
    omega
  rw [List.length_map] at ho
  obtain ⟨g, c, hv⟩ : ∃ g cap, v = .slice (some ⟨g, 0, none⟩) (x0 :: xs).length cap := by
    rcases ho.2 with ⟨_, h0⟩ | ⟨g, cap, _, hv, _⟩
    · simp at h0
    · exact ⟨g, cap, hv⟩
  rw [hv] at ho ⊢
  have hcell : ∀ j, j < (x0 :: xs).length → w2.cell? ⟨g, j, none⟩ = some (.string (mkB ((x0 :: xs).getD j []))) := by
    intro j hj
    rw [ho.cellAt j (by omega), List.getElem?_map, List.getElem?_map, List.getElem?_eq_getElem hj]
    simp only [Option.map_some, List.getD_eq_getElem?_getD, List.getElem?_eq_getElem hj, Option.getD_some]
  have HB2 : Hid (Below w'.heap.size w' w2) := HB1.out.trans (hb2.mono hs1)
  have hglt := (ho.lt g rfl).2
  have HSZ : Hid (w'.heap.size ≤ w2.heap.size) := HB2.out.size
  have HJ : Hid (x0 ++ tailJ b xs = s.data.toList) := hjo
  have HC : Hid (∀ x ∈ x0 :: xs, ∀ c ∈ x, c ≠ b) := hcl
  clear hv hps hcu hjo hcl ho hb2
  obtain ⟨n, hn⟩ : ∃ n, (x0 :: xs).length = n + 1 := ⟨xs.length, rfl⟩
  have HN : Hid ((x0 :: xs).length = n + 1) := hn
  rw [hn] at hcell hpl ⊢
  have hc0 : w2.cell? ⟨g, 0, none⟩ = some (.string (mkB x0)) := by have := hcell 0 (by omega); simpa using this
  have HCell : Hid (∀ j, j < n + 1 → w2.cell? ⟨g, j, none⟩ = some (.string (mkB ((x0 :: xs).getD j [])))) := hcell
  clear hcell hn
  have ot := one_text_drew
  have hn0 : ((n : Int) + 1 == 0) = false := by simp; omega
  go_wp2
  go_loopw [6, 7] (fun o i wr => ∃ (k : Nat) (out : List UInt8), i = .int .i64 k ∧ o = .string (mkB out) ∧ 1 ≤ k ∧ k ≤ n + 1 ∧ out ++ tailJ b ((x0 :: xs).drop k) = s.data.toList ∧ Below w2.heap.size w2 wr) (fun _ i _ => n + 1 - (intOf i).toNat)
  case atStart => exact ⟨1, x0, rfl, rfl, by omega, by omega, by simpa using HJ.out, Below.refl _ _⟩
  case round =>
    obtain ⟨k, out, rfl, rfl, hk1, hk, hE, hbr⟩ := hrel
    have HE : Hid (out ++ tailJ b ((x0 :: xs).drop k) = s.data.toList) := hE
    have hol : out.length ≤ 9 := by
      have h1 : (out ++ tailJ b ((x0 :: xs).drop k)).length = s.size := by rw [hE]; simp
      rw [List.length_append] at h1
      omega
    clear hE
    by_cases hlt : k < n + 1
    · have hck : wr.cell? ⟨g, k, none⟩ = some (.string (mkB ((x0 :: xs).getD k []))) := (hbr.cell (p := ⟨g, k, none⟩) hglt).trans (HCell.out k hlt)
      have hxk : (x0 :: xs)[k]? = some ((x0 :: xs).getD k []) := by
        have hk2 : k < (x0 :: xs).length := by rw [HN.out]; exact hlt
        rw [List.getD_eq_getElem?_getD, List.getElem?_eq_getElem hk2]; rfl
      have HX := drop_tail b (x0 :: xs) k _ hxk
      generalize (x0 :: xs).getD k [] = x at hck hxk HX
      have hxl : x.length ≤ 9 := by
        have h1 : (out ++ tailJ b ((x0 :: xs).drop k)).length = s.size := by rw [HE.out]; simp
        rw [List.length_append, HX] at h1
        simp at h1
        omega
      have he2 : (out ++ [b]) ++ x ++ tailJ b ((x0 :: xs).drop (k + 1)) = s.data.toList := by
        have h2 := HE.out
        rw [HX] at h2
        rw [← h2]
        simp
      have HE2 : Hid ((out ++ [b]) ++ x ++ tailJ b ((x0 :: xs).drop (k + 1)) = s.data.toList) := he2
      have hso : (mkB out).size ≤ 9 := by simpa [mkB, ByteArray.size] using hol
      have hsx : (mkB x).size ≤ 9 := by simpa [mkB, ByteArray.size] using hxl
      have HCat : Hid (mkB out ++ (⟨#[b]⟩ : ByteArray) ++ mkB x = mkB ((out ++ [b]) ++ x)) := cat3 out x b
      clear HX hxk HE he2
      generalize mkB out = O at hso HCat ⊢
      generalize mkB x = X at hck hsx HCat
      have hgw : g < wr.heap.size := by have := hbr.size; omega
      have hckA : ∀ o, (wr.alloc o).cell? ⟨g, k, none⟩ = some (.string X) := fun o => (World.cell?_alloc_past _ _ _ hgw).trans hck
      have l1 : ¬ 9223372036854775807 < O.size + 1 := by omega
      have l2 : ¬ 9223372036854775807 < O.size + 1 + X.size := by omega
      go_wp2
      go_region
      all_goals
        go_wp2
        go_roundw
        case rel => exact ⟨k + 1, (out ++ [b]) ++ x, by go_num, by rw [← HCat.out], by omega, by omega, HE2.out, ((hbr.alloc hbr.size _).drew)⟩
        case measure => simp [intOf]; omega
    · have hout : mkB out = s := by
        have h2 := HE.out
        rw [List.drop_eq_nil_of_le (by rw [HN.out]; omega)] at h2
        simp only [tailJ, List.flatMap_nil, List.append_nil] at h2
        rw [h2, mkB_of]
      rw [hout]
      have hcw : ∀ j, j < n + 1 → wr.cell? ⟨g, j, none⟩ = some (.string (mkB ((x0 :: xs).getD j []))) := fun j hj => (hbr.cell (p := ⟨g, j, none⟩) hglt).trans (HCell.out j hj)
      have HCW : Hid (∀ j, j < n + 1 → wr.cell? ⟨g, j, none⟩ = some (.string (mkB ((x0 :: xs).getD j [])))) := hcw
      clear hout hcw HE HCell ot
      go_wp2
      go_loop [8, 9] (fun i _ => ∃ q : Nat, i = .int .i64 q ∧ q ≤ n + 1) (fun i _ => n + 1 - (intOf i).toNat)
      case atStart => exact ⟨0, rfl, by omega⟩
      case round =>
        obtain ⟨q, rfl, hq⟩ := hrel
        by_cases hql : q < n + 1
        · have hcq := HCW.out q hql
          have hxm : (x0 :: xs).getD q [] ∈ x0 :: xs := by
            have h2 : q < (x0 :: xs).length := by rw [HN.out]; exact hql
            rw [List.getD_eq_getElem?_getD, List.getElem?_eq_getElem h2]; exact List.getElem_mem h2
          have hclean := HC.out _ hxm
          have hxs := HSM.out _ hxm
          generalize (x0 :: xs).getD q [] = x at hcq hclean hxs
          have hcx : ∀ (j : Nat) (h : j < (mkB x).size), (mkB x)[j] ≠ b := by
            intro j h
            refine hclean _ ?_
            have h2 : j < x.length := by simpa [mkB, ByteArray.size] using h
            have h3 : x[j] ∈ x := List.getElem_mem h2
            exact h3
          generalize mkB x = X at hcq hcx hxs
          have HCX : Hid (∀ (j : Nat) (h : j < X.size), X[j] ≠ b) := hcx
          clear hcx hclean hxm
          go_wp2
          go_loop [9] (fun j => ∃ r : Nat, j = .int .i64 r ∧ r ≤ X.size) (fun j => X.size - (intOf j).toNat)
          case atStart => exact ⟨0, rfl, by omega⟩
          case round =>
            obtain ⟨r, rfl, hr⟩ := hrel
            by_cases hrl : r < X.size
            · have hxb : ((X[r].toNat : Int) == (b.toNat : Int)) = false := by
                simp only [beq_eq_false_iff_ne, ne_eq]
                intro e
                exact HCX.out r hrl (UInt8.toNat_inj.1 (by omega))
              go_wp2
              go_round
              case rel => exact ⟨r + 1, by go_num, by omega⟩
              case measure => simp [intOf]; omega
            · go_wp2
              go_round
              case rel => exact ⟨q + 1, by go_num, by omega⟩
              case measure => simp [intOf]; omega
        · go_wp2
          go_ret
          exact ⟨rfl, HB2.out.trans (hbr.mono HSZ.out)⟩
end Go.Proofs.YtgekbbojhlcppaaDoor
