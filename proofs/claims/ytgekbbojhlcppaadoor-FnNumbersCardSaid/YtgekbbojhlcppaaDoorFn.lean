/- Numbers and texts are read as they were written: the law's own walk. -/
import Derived.Test.YtgekbbojhlcppaaDoorRt
import Derived.Test.YtgekbbojhlcppaaDoorPk
import Derived.Test.YtgekbbojhlcppaaDoorGu
import Derived.Test.YtgekbbojhlcppaaDoorNc
import Derived.Test.YtgekbbojhlcppaaDoorDn
namespace Go.Proofs.YtgekbbojhlcppaaDoor
open Go.RowKit
set_option maxRecDepth 100000

theorem big_any (a : Option Addr) (len cap : Nat) (w : World) (_hn : len ≤ 9223372036854775807) : Calls Tryd.prog 8 #[.slice a len cap] w fun e w' => e = .returned (.bool (decide ((1048576 : Int) < len))) ∧ w' = w := by
  go_enter Tryd.func8, Tryd.ntmps8
  go_wp2
  go_ret
  exact ⟨rfl, rfl⟩

theorem own_belowB {w w' : World} {base e size n : Nat} {v : Value} {xs : List Value} (h : w.ownsRow base e size v n xs) (hb : Below w.heap.size w w') : w'.ownsRow base e size v n xs := by
  refine ⟨h.1, ?_⟩
  rcases h.2 with h' | ⟨g, cap, cur, hv, hg, hc, r⟩
  · exact .inl h'
  · refine .inr ⟨g, cap, cur, hv, hg, ?_, r⟩
    have hlt : g < w.heap.size := by
      rcases Nat.lt_or_ge g w.heap.size with h1 | h1
      · exact h1
      · rw [Array.getElem?_eq_none h1] at hc; cases hc
    rw [hb.block g hlt]; exact hc
theorem cells_own {w : World} {base g n cap : Nat} {zs : List Int} (hz : zs.length = n) (h : w.ownsRow base 5 1 (.slice (some ⟨g, 0, none⟩) n cap) n (zs.map (Value.int .u8))) : ∀ j, j < n → w.cell? ⟨g, 0 + j, none⟩ = some (.int .u8 (zs.getD j 0)) := by
  intro j hj
  rw [Nat.zero_add, h.cellAt j (by omega)]
  simp [show j < zs.length by omega]

/-- 'append(append(append([]byte{}, head...), PutNum(n)...), 7)' and all that stands ahead: what the law holds when the bytes lie there. -/
def Laid (w0 w : World) (u u2 : TypeId) (ev ev2 : Value) : Prop := Below w0.heap.size w0 w ∧ Ready u ev w ∧ w.cell? ⟨0, 0, none⟩ = some (.iface u2 ev2) ∧ 0 < w.heap.size
theorem Laid.later {w0 w w' : World} {u u2 : TypeId} {ev ev2 : Value} (h : Laid w0 w u u2 ev ev2) (hb : Below w.heap.size w w') : Laid w0 w' u u2 ev ev2 := by
  obtain ⟨h1, h2, h3, h4⟩ := h
  have hs := hb.size
  exact ⟨h1.trans (hb.mono h1.size), h2.later hb, (hb.cell (p := ⟨0, 0, none⟩) h4).trans h3, by omega⟩

theorem itoa_size (k : Int) : (⟨(Lib.itoa k).toArray⟩ : ByteArray).size = (Lib.itoa k).length := by simp [ByteArray.size]
theorem itoa_len (k : Int) (h0 : -4700 ≤ k) (h1 : k ≤ 4735) : (Lib.itoa k).length ≤ 5 := by
  unfold Lib.itoa
  split
  · have := digits_len 3 k.natAbs (by omega); simp; omega
  · have := digits_len 3 k.toNat (by omega); omega

set_option maxHeartbeats 3200000 in
theorem fnNumbers_in (a0 : Option Addr) (len0 cap0 : Nat) (z0 : List Int) (u u2 : TypeId) (ev ev2 : Value) (w : World) (h0 : IsRow .u8 w a0 len0 cap0 z0) (hlen : len0 ≤ 1048576) (hL : Laid w w u u2 ev ev2) :
    Calls Tryd.prog 3 #[.slice a0 len0 cap0] w fun e w' => e = .returned (.bool true) ∧ Below w.heap.size w w' := by
  obtain ⟨i0, hi, hz0, hz1, hz2⟩ := info_parts t5info
  have hbig : decide ((1048576 : Int) < (len0 : Int)) = false := by simp; omega
  have B := big_any a0 len0 cap0 w (by omega)
  rw [hbig] at B
  have HR : Hid (IsRow .u8 w a0 len0 cap0 z0) := h0
  have HLd : Hid (Laid w w u u2 ev ev2) := hL
  clear hbig h0 hL
  go_enter Tryd.func3, Tryd.ntmps3
  go_wp2_with fail
  refine B.mono ?_
  clear B
  rintro e w' ⟨rfl, rfl⟩
  go_wp2_with fail
  refine (drawPutNum_any a0 len0 cap0 z0 w' HR.out hlen).mono ?_
  rintro e w1 ⟨n, rfl, hn, hb1⟩
  have HL1 : Hid (Laid w' w1 u u2 ev ev2) := HLd.out.later hb1
  have HR1 : Hid (IsRow .u8 w1 a0 len0 cap0 z0) := HR.out.later hb1
  have hnb : -9223372036854775808 ≤ n ∧ n ≤ 9223372036854775807 := by
    simp only [List.mem_cons, List.not_mem_nil, or_false] at hn
    omega
  obtain ⟨n0, n1⟩ := hnb
  clear hn hb1
  go_wp2_with fail
  refine (drawPutText_any a0 len0 cap0 z0 w1 HR1.out hlen).mono ?_
  rintro e w2 ⟨s, rfl, hs9, hb2⟩
  have HL2 : Hid (Laid w' w2 u u2 ev ev2) := HL1.out.later hb2
  clear hb2
  go_wp2_with fail
  refine (putTextImpl_any s w2 (by omega)).mono ?_
  rintro e w3 ⟨vh, rfl, ho3, hb3⟩
  have HL3 : Hid (Laid w' w3 u u2 ev ev2) := HL2.out.later hb3
  have hs3 := hb3.size
  clear hb3
  have hpT : 0 < (textOf s).length := by
    rw [textOf_len]
    have : 0 < (bytesOf (s.size : Int)).length := by unfold bytesOf; rw [if_pos (by omega)]; exact put_pos _ _
    omega
  have hlT : (textOf s).length ≤ 14 := by rw [textOf_len]; have := bytesOf_len (s.size : Int); omega
  have hlN := bytesOf_len n
  obtain ⟨gh, ch, hvh⟩ : ∃ g cap, vh = .slice (some ⟨g, 0, none⟩) (textOf s).length cap := by
    rcases ho3.2 with ⟨_, h0⟩ | ⟨g, cap, _, hv, _⟩
    · omega
    · exact ⟨g, cap, hv⟩
  rw [hvh] at ho3 ⊢
  clear hvh
  have ho3a := ho3.alloc (.cells #[] 5)
  have hn3 := ho3a.cells (g := gh) rfl
  have hE0 := ownsRow_lit0 w3
  have HO3 : Hid (w3.ownsRow w2.heap.size 5 1 (.slice (some ⟨gh, 0, none⟩) (textOf s).length ch) (textOf s).length ((textOf s).map (Value.int .u8))) := ho3
  clear ho3 ho3a
  go_wp2_with (at_builtin; refine wpList_append_own _ rfl _ _ 22 rfl w3.heap.size 5 i0 (.int .u8 0) 1 1 Tryd.underlying22 hi hz0 hz1 hz2 rfl (by decide) _ _ _ rfl hE0 ⟨gh, 0, none⟩ (textOf s).length ch ((textOf s).map (Value.int .u8)) rfl ?c1 hn3 ?c2 ?c3 ?c4 ?c5 ?_)
  case c1 => simp
  case c2 => exact ints_oneCell .u8 _
  case c3 => unfold maxLen; omega
  case c4 => omega
  case c5 => simp
  intro v4 w4 ho4 hg4 _
  have hb4 : Below w3.heap.size w3 w4 := ((Below.refl _ _).alloc (Nat.le_refl _) _).grown hg4 (by simp) (fun k hk => by cases hk; exact Nat.le_refl _)
  have hs4 := hb4.size
  have HB4 : Hid (Below w3.heap.size w3 w4) := hb4
  clear hE0 hn3 hg4 hb4
  go_wp2_with fail
  refine (spec_form n w4).mono ?_
  rintro e w5 ⟨gN, cN, rfl, ho5, hb5⟩
  have hs5 := hb5.size
  have ho4 := own_belowB ho4 hb5
  have hn5 := ho5.cells (g := gN) rfl
  have HB5 : Hid (Below w3.heap.size w3 w5) := HB4.out.trans (hb5.mono hs4)
  clear ho5 hb5
  go_wp2_with (at_builtin; refine wpList_append_own _ rfl (.tmp 26) (.tmp 28) 22 rfl w3.heap.size 5 i0 (.int .u8 0) 1 1 Tryd.underlying22 hi hz0 hz1 hz2 rfl (by decide) _ _ _ rfl ho4 ⟨gN, 0, none⟩ (bytesOf n).length cN ((bytesOf n).map (Value.int .u8)) rfl ?d1 hn5 ?d2 ?d3 ?d4 ?d5 ?_)
  case d1 => simp
  case d2 => exact ints_oneCell .u8 _
  case d3 => unfold maxLen; omega
  case d4 => omega
  case d5 => omega
  intro v6 w6 ho6 hg6 _
  have hb6 : Below w3.heap.size w5 w6 := (Below.refl _ _).grown hg6 (by omega) (fun k hk => (ho4.lt k hk).1)
  have hs6 := hg6.size
  clear hg6 hn5 ho4
  go_wp2_with (at_builtin; refine wpList_append_own _ rfl (.tmp 29) (.tmp 30) 22 rfl w3.heap.size 5 i0 (.int .u8 0) 1 1 Tryd.underlying22 hi hz0 hz1 hz2 rfl (by decide) _ _ _ rfl (ho6.alloc _) ⟨w6.heap.size, 0, none⟩ 1 1 [_] rfl rfl (new_cell _ _ _) ?e2 ?e3 ?e4 ?e5 ?_)
  case e2 => exact ints_oneCell .u8 [_]
  case e3 => unfold maxLen; omega
  case e4 => omega
  case e5 => simp; omega
  intro v7 w7 ho7 hg7 _
  have hb7 : Below w3.heap.size w5 w7 := (hb6.alloc (by omega) _).grown hg7 (by simp; omega) (fun k hk => (ho6.lt k hk).1)
  have hs7 := hb7.size
  have HL7 : Hid (Laid w' w7 u u2 ev ev2) := HL3.out.later (HB5.out.trans hb7)
  have hzl : (textOf s ++ (bytesOf n ++ [7])).length = (textOf s).length + (bytesOf n).length + 1 := by simp; omega
  have ho8 : w7.ownsRow w3.heap.size 5 1 v7 ((textOf s).length + (bytesOf n).length + 1) ((textOf s ++ (bytesOf n ++ [7])).map (Value.int .u8)) := by simpa using ho7
  obtain ⟨g7, c7, hv7, hc7⟩ : ∃ g cap, v7 = .slice (some ⟨g, 0, none⟩) ((textOf s).length + (bytesOf n).length + 1) cap ∧ (textOf s).length + (bytesOf n).length + 1 ≤ cap := by
    rcases ho8.2 with ⟨_, h0⟩ | ⟨g, cap, _, hv, _, _, hcap, _⟩
    · omega
    · exact ⟨g, cap, hv, hcap⟩
  rw [hv7] at ho8 ⊢
  clear hv7 ho7 hg7 hb7 hb6 ho6 HL1 HL2 HB4 HB5 hs3 hs4 hs5 hs6 hs7 HL3
  have hr7 : ∀ j : Nat, 0 ≤ (textOf s ++ (bytesOf n ++ [7])).getD j 0 ∧ (textOf s ++ (bytesOf n ++ [7])).getD j 0 ≤ 255 := bytes_getD (by
    intro d hd
    rcases List.mem_append.1 hd with h | h
    · exact textOf_bytes s d h
    · rcases List.mem_append.1 h with h | h
      · exact bytesOf_bytes n d h
      · simp at h; omega)
  have GT := getText_put s (bytesOf n ++ [7]) (by omega)
  have GN : 0 ≤ n ∧ n ≤ 2147483647 → getNum (textOf s ++ (bytesOf n ++ [7])) (textOf s).length = some (n, (bytesOf n).length) := fun h => getNum_put (textOf s) [7] n h.1 h.2
  generalize hzs : textOf s ++ (bytesOf n ++ [7]) = zs at hzl ho8 hr7 GT GN
  have hcs := cells_own hzl ho8
  have hg7 := (ho8.lt g7 rfl).2
  have IT := implText_any g7 0 _ c7 zs 0 u u2 ev ev2 w7 (by omega) hzl hc7 hr7 hcs hg7 HL7.out.2.1.2.2.2.2.2.2.2 HL7.out.2.1.2.2.2.1 HL7.out.2.2.2 HL7.out.2.2.1
  rw [GT] at IT
  have HZL : Hid (zs.length = (textOf s).length + (bytesOf n).length + 1) := hzl
  have HO : Hid (w7.ownsRow w3.heap.size 5 1 (.slice (some ⟨g7, 0, none⟩) ((textOf s).length + (bytesOf n).length + 1) c7) ((textOf s).length + (bytesOf n).length + 1) (zs.map (Value.int .u8))) := ho8
  have HGN : Hid (0 ≤ n ∧ n ≤ 2147483647 → getNum zs (textOf s).length = some (n, (bytesOf n).length)) := GN
  have HR7 : Hid (∀ j : Nat, 0 ≤ zs.getD j 0 ∧ zs.getD j 0 ≤ 255) := hr7
  have hNb : 0 < (bytesOf n).length → 0 ≤ n ∧ n ≤ 2147483647 := by
    intro h
    by_cases hh : 0 ≤ n ∧ n ≤ 2147483647
    · exact hh
    · unfold bytesOf at h; rw [if_neg hh] at h; simp at h
  have HNb : Hid (0 < (bytesOf n).length → 0 ≤ n ∧ n ≤ 2147483647) := hNb
  clear hzs hzl ho8 hr7 GT GN hcs hNb hpT HO3
  generalize (textOf s).length = lt at *
  generalize hlb : (bytesOf n).length = lb at *
  have HLB : Hid ((bytesOf n).length = lb) := hlb
  clear hlb
  go_wp2_with fail
  refine IT.mono ?_
  clear IT
  rintro e w8 ⟨rfl, hb8⟩
  simp only [gotText]
  have HL8 : Hid (Laid w' w8 u u2 ev ev2) := HL7.out.later hb8
  have HO8 := own_belowB HO.out hb8
  have HO8' : Hid (w8.ownsRow w3.heap.size 5 1 (.slice (some ⟨g7, 0, none⟩) (lt + lb + 1) c7) (lt + lb + 1) (zs.map (Value.int .u8))) := HO8
  clear hb8 HO8 HO
  go_wp2_with fail
  refine (spec_form n w8).mono ?_
  rintro e w9 ⟨g9, c9, rfl, _, hb9⟩
  rw [HLB.out]
  have HL9 : Hid (Laid w' w9 u u2 ev ev2) := HL8.out.later hb9
  have HO9 : Hid (w9.ownsRow w3.heap.size 5 1 (.slice (some ⟨g7, 0, none⟩) (lt + lb + 1) c7) (lt + lb + 1) (zs.map (Value.int .u8))) := own_belowB HO8'.out hb9
  clear hb9
  by_cases hlb0 : 0 < lb
  · have hnn := HNb.out hlb0
    have GN := HGN.out hnn
    have IN := implNum_any g7 0 _ c7 zs (lt : Int) ev u w9 (by omega) HZL.out hc7 HR7.out (cells_own HZL.out HO9.out) (HO9.out.lt g7 rfl).2 HL9.out.2.1.2.2.2.2.2.2.2 HL9.out.2.1.2.2.2.1
    rw [GN] at IN
    clear GN
    go_wp2_with fail
    refine IN.mono ?_
    clear IN
    rintro e w10 ⟨rfl, hb10⟩
    have HLW : Hid (Laid w' w10 u u2 ev ev2) := HL9.out.later hb10
    simp only [gotNum]
    clear hb10
    go_wp2_with fail
    refine (at0_any a0 len0 cap0 z0 3 w10 (HR.out.later HLW.out.1) hlen (by omega)).mono ?_
    rintro e wA ⟨x, rfl, x0, x1, rfl⟩
    have hk0 : -4700 ≤ x * 37 - 4700 := by omega
    have hk1 : x * 37 - 4700 ≤ 4735 := by omega
    go_wp2_with fail
    generalize x * 37 - 4700 = k at hk0 hk1 ⊢
    refine (implDigits_any k u ev _ (by omega) (by omega) HLW.out.2.1).mono ?_
    rintro e wB ⟨rfl, hbB⟩
    have HLB2 : Hid (Laid w' wB u u2 ev ev2) := HLW.out.later hbB
    have hm : must (-9999) 9999 (Lib.itoa k) = some k := (must_iff (-9999) 9999 (by decide) (by decide) _ _).2 ⟨by omega, by omega, rfl⟩
    have IS := implSigned_any ⟨(Lib.itoa k).toArray⟩ u ev wB (by rw [itoa_size]; have := itoa_len k hk0 hk1; omega) HLB2.out.2.1
    have hd : (⟨(Lib.itoa k).toArray⟩ : ByteArray).data.toList = Lib.itoa k := rfl
    rw [hd, hm] at IS
    clear hd hm hbB
    go_wp2_with fail
    refine IS.mono ?_
    clear IS
    rintro e wC ⟨rfl, hbC⟩
    have HLC : Hid (Laid w' wC u u2 ev ev2) := HLB2.out.later hbC
    clear hbC
    simp only [gotInt]
    go_wp2
    go_ret
    exact ⟨rfl, HLC.out.1⟩
  · have HLW : Hid (Laid w' w9 u u2 ev ev2) := HL9.out
    go_wp2_with fail
    refine (at0_any a0 len0 cap0 z0 3 w9 (HR.out.later HLW.out.1) hlen (by omega)).mono ?_
    rintro e wA ⟨x, rfl, x0, x1, rfl⟩
    have hk0 : -4700 ≤ x * 37 - 4700 := by omega
    have hk1 : x * 37 - 4700 ≤ 4735 := by omega
    go_wp2_with fail
    generalize x * 37 - 4700 = k at hk0 hk1 ⊢
    refine (implDigits_any k u ev _ (by omega) (by omega) HLW.out.2.1).mono ?_
    rintro e wB ⟨rfl, hbB⟩
    have HLB2 : Hid (Laid w' wB u u2 ev ev2) := HLW.out.later hbB
    have hm : must (-9999) 9999 (Lib.itoa k) = some k := (must_iff (-9999) 9999 (by decide) (by decide) _ _).2 ⟨by omega, by omega, rfl⟩
    have IS := implSigned_any ⟨(Lib.itoa k).toArray⟩ u ev wB (by rw [itoa_size]; have := itoa_len k hk0 hk1; omega) HLB2.out.2.1
    have hd : (⟨(Lib.itoa k).toArray⟩ : ByteArray).data.toList = Lib.itoa k := rfl
    rw [hd, hm] at IS
    clear hd hm hbB
    go_wp2_with fail
    refine IS.mono ?_
    clear IS
    rintro e wC ⟨rfl, hbC⟩
    have HLC : Hid (Laid w' wC u u2 ev ev2) := HLB2.out.later hbC
    clear hbC
    simp only [gotInt]
    go_wp2
    go_ret
    exact ⟨rfl, HLC.out.1⟩
end Go.Proofs.YtgekbbojhlcppaaDoor
