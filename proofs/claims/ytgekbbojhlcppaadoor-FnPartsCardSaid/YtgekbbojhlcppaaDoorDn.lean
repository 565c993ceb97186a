/- What is drawn for the first chapter's laws. -/
import Derived.Test.YtgekbbojhlcppaaDoorDr
namespace Go.Proofs.YtgekbbojhlcppaaDoor
open Go.RowKit

theorem IsCur.alloc {w : World} {g : Nat} {a : Option Addr} {len cap : Nat} (h : IsCur w g a len cap) (o : Obj) : IsCur (w.alloc o) g a len cap := by
  obtain ⟨i, y, hi, hb⟩ := h
  have hlt : g < w.heap.size := by
    rcases Nat.lt_or_ge g w.heap.size with h3 | h3
    · exact h3
    · rw [Array.getElem?_eq_none h3] at hb; cases hb
  exact ⟨i, y, hi, (Below.heap_alloc w o g hlt).trans hb⟩
theorem new_ints (w : World) (xs : List Int) (e : TypeId) : ∀ j, j < xs.length → (w.alloc (.cells (xs.map (Value.int .i64)).toArray e)).cell? ⟨w.heap.size, j, none⟩ = some (.int .i64 (xs.getD j 0)) := by
  intro j hj
  rw [World.cell?_alloc_at _ _ _ _ rfl]
  simp [hj]
theorem new_texts (w : World) (xs : List ByteArray) (e : TypeId) : ∀ j, j < xs.length → (w.alloc (.cells (xs.map Value.string).toArray e)).cell? ⟨w.heap.size, j, none⟩ = some (.string (xs.getD j ByteArray.empty)) := by
  intro j hj
  rw [World.cell?_alloc_at _ _ _ _ rfl]
  simp [hj]

theorem IsCur.lt {w : World} {g : Nat} {a : Option Addr} {len cap : Nat} (h : IsCur w g a len cap) : g < w.heap.size := by
  obtain ⟨i, y, hi, hb⟩ := h
  rcases Nat.lt_or_ge g w.heap.size with h3 | h3
  · exact h3
  · rw [Array.getElem?_eq_none h3] at hb; cases hb

/-- One of a few numbers, picked out of a list that was just laid. -/
theorem pick_new (xs : List Int) (g : Nat) (a : Option Addr) (len cap : Nat) (zs : List Int) (w : World) (hc : IsCur w g a len cap) (hr : IsRow .u8 w a len cap zs) (h1 : 1 ≤ xs.length) (h2 : xs.length ≤ 256) :
    Calls Tryd.prog 24 #[.pointer (some ⟨g, 0, none⟩), .slice (some ⟨w.heap.size, 0, none⟩) xs.length xs.length] (w.alloc (.cells (xs.map (Value.int .i64)).toArray 3)) fun e w' =>
      ∃ x : Int, e = .returned (.int .i64 x) ∧ x ∈ xs ∧ IsCur w' g a len cap ∧ IsRow .u8 w' a len cap zs ∧ Below g w w' := by
  have hlt := hc.lt
  have hb : Below w.heap.size w (w.alloc (.cells (xs.map (Value.int .i64)).toArray 3)) := (Below.refl _ _).alloc (Nat.le_refl _) _
  refine (l1PickInt_any g a len cap zs w.heap.size xs _ (hc.alloc _) (hr.later hb) h1 h2 (by omega) (new_ints w xs 3)).mono ?_
  rintro e w' ⟨x, rfl, hx, hc', hg⟩
  exact ⟨x, rfl, hx, hc', (hr.later hb).aside (hc.alloc _) hg, (hb.mono (by omega)).trans (grown_below hg (Nat.le_refl _) (by simp; omega))⟩
theorem pick_newS (xs : List ByteArray) (g : Nat) (a : Option Addr) (len cap : Nat) (zs : List Int) (w : World) (hc : IsCur w g a len cap) (hr : IsRow .u8 w a len cap zs) (h1 : 1 ≤ xs.length) (h2 : xs.length ≤ 256) :
    Calls Tryd.prog 26 #[.pointer (some ⟨g, 0, none⟩), .slice (some ⟨w.heap.size, 0, none⟩) xs.length xs.length] (w.alloc (.cells (xs.map Value.string).toArray 9)) fun e w' =>
      ∃ x : ByteArray, e = .returned (.string x) ∧ x ∈ xs ∧ IsCur w' g a len cap ∧ IsRow .u8 w' a len cap zs ∧ Below g w w' := by
  have hlt := hc.lt
  have hb : Below w.heap.size w (w.alloc (.cells (xs.map Value.string).toArray 9)) := (Below.refl _ _).alloc (Nat.le_refl _) _
  refine (l1Pick_any g a len cap zs w.heap.size xs _ (hc.alloc _) (hr.later hb) h1 h2 (by omega) (new_texts w xs 9)).mono ?_
  rintro e w' ⟨x, rfl, hx, hc', hg⟩
  exact ⟨x, rfl, hx, hc', (hr.later hb).aside (hc.alloc _) hg, (hb.mono (by omega)).trans (grown_below hg (Nat.le_refl _) (by simp; omega))⟩

theorem drawPutNum_any (a : Option Addr) (len cap : Nat) (zs : List Int) (w : World) (hr : IsRow .u8 w a len cap zs) (hn : len ≤ 1048576) :
    Calls Tryd.prog 9 #[.slice a len cap] w fun e w' => ∃ x : Int, e = .returned (.int .i64 x) ∧ x ∈ [0, 1, 127, 128, 300, 16384, 2147483647, 2147483648, -1, 9223372036854775807] ∧ Below w.heap.size w w' := by
  have N := l1New_any a len cap zs w hr hn
  have P := fun w1 (hc : IsCur w1 w.heap.size a len cap) (hb : Below w.heap.size w w1) => pick_new [0, 1, 127, 128, 300, 16384, 2147483647, 2147483648, -1, 9223372036854775807] w.heap.size a len cap zs w1 hc (hr.later hb) (by decide) (by decide)
  simp only [List.length_cons, List.length_nil, List.map_cons, List.map_nil] at P
  clear hr
  go_enter Tryd.func9, Tryd.ntmps9
  go_wp2_with fail
  refine N.mono ?_
  clear N
  rintro e w1 ⟨rfl, hc, hb, hsz⟩
  have P1 := P w1 hc hb
  have HP : Hid (Below w.heap.size w w1) := hb
  clear P hc hb hsz
  go_wp2_with fail
  refine P1.mono ?_
  clear P1
  rintro e w2 ⟨x, rfl, hx, _, _, hb2⟩
  go_wp2
  go_ret
  exact ⟨x, rfl, hx, HP.out.trans hb2⟩

theorem drawPutText_any (a : Option Addr) (len cap : Nat) (zs : List Int) (w : World) (hr : IsRow .u8 w a len cap zs) (hn : len ≤ 1048576) :
    Calls Tryd.prog 10 #[.slice a len cap] w fun e w' => ∃ x : ByteArray, e = .returned (.string x) ∧ x.size ≤ 9 ∧ Below w.heap.size w w' := by
  have N := l1New_any a len cap zs w hr hn
  have P := fun w1 (hc : IsCur w1 w.heap.size a len cap) (hb : Below w.heap.size w w1) => pick_newS [⟨#[]⟩, ⟨#[97]⟩, ⟨#[116, 119, 111, 32, 119, 111, 114, 100, 115]⟩, ⟨#[0, 255]⟩] w.heap.size a len cap zs w1 hc (hr.later hb) (by decide) (by decide)
  simp only [List.length_cons, List.length_nil, List.map_cons, List.map_nil] at P
  clear hr
  go_enter Tryd.func10, Tryd.ntmps10
  go_wp2_with fail
  refine N.mono ?_
  clear N
  rintro e w1 ⟨rfl, hc, hb, hsz⟩
  have P1 := P w1 hc hb
  have HP : Hid (Below w.heap.size w w1) := hb
  clear P hc hb hsz
  go_wp2_with fail
  refine P1.mono ?_
  clear P1
  rintro e w2 ⟨x, rfl, hx, _, _, hb2⟩
  have hsz : x.size ≤ 9 := by
    simp only [List.mem_cons, List.not_mem_nil, or_false] at hx
    rcases hx with rfl | rfl | rfl | rfl <;> decide
  clear hx
  go_wp2
  go_ret
  exact ⟨x, rfl, hsz, HP.out.trans hb2⟩

theorem at0_any (a : Option Addr) (len cap : Nat) (zs : List Int) (i : Nat) (w : World) (hr : IsRow .u8 w a len cap zs) (hn : len ≤ 1048576) (hi : i ≤ 1000) :
    Calls Tryd.prog 15 #[.slice a len cap, .int .i64 (i : Int)] w fun e w' => ∃ x : Int, e = .returned (.int .i64 x) ∧ 0 ≤ x ∧ x ≤ 255 ∧ w' = w := by
  by_cases hlt : i < len
  · obtain ⟨b, o, rfl, hbl, hcs⟩ := hr.at (by omega)
    have hcell := hcs i hlt
    have hbd := hr.bytes i
    generalize (zs.take len).getD i 0 = d at hcell hbd
    clear hcs hr
    obtain ⟨d0, d1⟩ := hbd
    go_enter Tryd.func15, Tryd.ntmps15
    go_wp2
    go_ret
    exact ⟨d, rfl, d0, d1, rfl⟩
  · clear hr
    go_enter Tryd.func15, Tryd.ntmps15
    go_wp2
    go_ret
    exact ⟨_, rfl, by omega, by omega, rfl⟩
end Go.Proofs.YtgekbbojhlcppaaDoor
