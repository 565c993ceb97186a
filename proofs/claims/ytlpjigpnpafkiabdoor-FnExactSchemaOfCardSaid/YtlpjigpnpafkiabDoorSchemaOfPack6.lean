/- Texts of this claim, put together: part 6. -/
import Derived.Test.YtlpjigpnpafkiabDoorSchemaOfPack5
import Derived.Test.YtlpjigpnpafkiabDoorRows
import Derived.WalkKit
import Derived.ProofKit
import Derived.OpenShut
import Derived.Laws.BytesArg
import Derived.Lib.ItoaNum
import Derived.Test.YtlpjigpnpafkiabDoorSchemaOfPack3
import Derived.WalkSmall
/- A copy of a schema that came in, by the laws' own helpers. (What is plain.) -/
namespace Go.Proofs.YtlpjigpnpafkiabDoor
open Go.RowKit
set_option maxRecDepth 100000
theorem atInfo : (Tryd.prog.info? 28).map (fun i => (i.zero, i.size, i.bytes)) = some (some (.agg #[.string ⟨#[]⟩, .slice none 0 0, .slice none 0 0]), 3, 64) := by kernel_rfl

/-- The first k attributes of a row of the call's own are these; their lists lie behind the row. -/
def DoneA (w : World) (b : Nat) (ys : List Value) (ls : List AttrD) (k : Nat) : Prop :=
  ∀ j, j < k → ∃ vc vv, ys[j * 3]? = some (.string (ad ls j).name) ∧ ys[j * 3 + 1]? = some vc ∧ ys[j * 3 + 2]? = some vv ∧
    w.ownsRow b 3 1 vc (ad ls j).cuts.length ((ad ls j).cuts.map (Value.int .i64)) ∧ w.ownsRow b 9 1 vv (ad ls j).vals.length ((ad ls j).vals.map Value.string)
theorem DoneA.below {w w' : World} {b : Nat} {ys : List Value} {ls : List AttrD} {k : Nat} (h : DoneA w b ys ls k) (hb : Below w.heap.size w w') : DoneA w' b ys ls k := by
  intro j hj
  obtain ⟨vc, vv, h0, h1, h2, h3, h4⟩ := h j hj
  exact ⟨vc, vv, h0, h1, h2, own_below h3 hb, own_below h4 hb⟩
theorem DoneA.base {w : World} {b b' : Nat} {ys : List Value} {ls : List AttrD} {k : Nat} (h : DoneA w b ys ls k) (hb : b' ≤ b) : DoneA w b' ys ls k := by
  intro j hj
  obtain ⟨vc, vv, h0, h1, h2, h3, h4⟩ := h j hj
  exact ⟨vc, vv, h0, h1, h2, own_base h3 hb, own_base h4 hb⟩
theorem DoneA.setCell {w : World} {b : Nat} {ys : List Value} {ls : List AttrD} {k : Nat} (h : DoneA w b ys ls k) (p : Addr) (u : Value) (hp : p.block < b) : DoneA (w.setCell p u) b ys ls k := by
  intro j hj
  obtain ⟨vc, vv, h0, h1, h2, h3, h4⟩ := h j hj
  exact ⟨vc, vv, h0, h1, h2, own_setCell h3 p u hp, own_setCell h4 p u hp⟩
theorem DoneA.setRow {w : World} {b : Nat} {ys : List Value} {ls : List AttrD} {k : Nat} (h : DoneA w b ys ls k) (p : Nat) (u : Array Value) (hp : p < b) : DoneA (w.setRow p u) b ys ls k := by
  intro j hj
  obtain ⟨vc, vv, h0, h1, h2, h3, h4⟩ := h j hj
  exact ⟨vc, vv, h0, h1, h2, own_setRow h3 p u hp, own_setRow h4 p u hp⟩
/-- A list of attributes that lies, with all that it has, in blocks from a base on. -/
def OwnL (base : Nat) (w : World) (v : Value) (ls : List AttrD) : Prop := ∃ ys, w.ownsRow base 28 3 v ls.length ys ∧ DoneA w base ys ls ls.length
theorem own3_setCell {w : World} {base e s n : Nat} {v : Value} {xs : List Value} (h : w.ownsRow base e s v n xs) (p : Addr) (u : Value) (hp : p.block < base) : (w.setCell p u).ownsRow base e s v n xs := by
  refine ⟨h.1, ?_⟩
  rcases h.2 with h' | ⟨g, cap, cur, hv, hg, hc, r⟩
  · exact .inl h'
  · refine .inr ⟨g, cap, cur, hv, hg, ?_, r⟩
    simp only [World.setCell, Array.getElem?_modify]
    rw [if_neg (by omega)]; exact hc
theorem own3_setRow {w : World} {base e s n : Nat} {v : Value} {xs : List Value} (h : w.ownsRow base e s v n xs) (k : Nat) (c : Array Value) (hp : k < base) : (w.setRow k c).ownsRow base e s v n xs := by
  refine ⟨h.1, ?_⟩
  rcases h.2 with h' | ⟨g, cap, cur, hv, hg, hc, r⟩
  · exact .inl h'
  · refine .inr ⟨g, cap, cur, hv, hg, ?_, r⟩
    rw [Go.setRow_other w k g c (by omega)]; exact hc
theorem OwnL.below {base : Nat} {w w' : World} {v : Value} {ls : List AttrD} (h : OwnL base w v ls) (hb : Below w.heap.size w w') : OwnL base w' v ls := by
  obtain ⟨ys, h1, h2⟩ := h
  exact ⟨ys, own_below h1 hb, h2.below hb⟩
theorem OwnL.base {b b' : Nat} {w : World} {v : Value} {ls : List AttrD} (h : OwnL b w v ls) (hb : b' ≤ b) : OwnL b' w v ls := by
  obtain ⟨ys, h1, h2⟩ := h
  exact ⟨ys, own_base h1 hb, h2.base hb⟩
theorem OwnL.setCell {base : Nat} {w : World} {v : Value} {ls : List AttrD} (h : OwnL base w v ls) (p : Addr) (u : Value) (hp : p.block < base) : OwnL base (w.setCell p u) v ls := by
  obtain ⟨ys, h1, h2⟩ := h
  exact ⟨ys, own3_setCell h1 p u hp, h2.setCell p u hp⟩
theorem OwnL.setRow {base : Nat} {w : World} {v : Value} {ls : List AttrD} (h : OwnL base w v ls) (k : Nat) (c : Array Value) (hp : k < base) : OwnL base (w.setRow k c) v ls := by
  obtain ⟨ys, h1, h2⟩ := h
  exact ⟨ys, own3_setRow h1 k c hp, h2.setRow k c hp⟩
theorem OwnL.at {base : Nat} {w : World} {v : Value} {ls : List AttrD} (h : OwnL base w v ls) : RowA w v ls := by
  obtain ⟨ys, ho, h⟩ := h
  rcases id ho.2 with ⟨rfl, h0⟩ | ⟨g, cap, cur, rfl, hg, hcur, hcap, r⟩
  · exact ⟨none, 0, by rw [h0], by omega, fun h1 => by omega⟩
  · refine ⟨_, _, rfl, hcap, fun h0 => ⟨g, 0, rfl, (ho.lt g rfl).2, fun j hj => ?_⟩⟩
    obtain ⟨vc, vv, h0, h1, h2, h3, h4⟩ := h j hj
    exact ⟨vc, vv, by rw [Nat.zero_add, ho.cellAt _ (by omega)]; exact h0, by rw [Nat.zero_add, ho.cellAt _ (by omega)]; exact h1, by rw [Nat.zero_add, ho.cellAt _ (by omega)]; exact h2, RowI.of_own h3 rfl, RowS.of_own h4 rfl⟩
theorem DoneA.stored {w : World} {g k : Nat} {ys : List Value} {ls : List AttrD} {x y z : Value} (h : DoneA w (g + 1) ys ls k) (hl : k * 3 + 2 < ys.length) (hx : x = .string (ad ls k).name)
    (hy : w.ownsRow (g + 1) 3 1 y (ad ls k).cuts.length ((ad ls k).cuts.map (Value.int .i64))) (hz : w.ownsRow (g + 1) 9 1 z (ad ls k).vals.length ((ad ls k).vals.map Value.string)) :
    DoneA (((w.setCell ⟨g, k * 3, none⟩ x).setCell ⟨g, k * 3 + 1, none⟩ y).setCell ⟨g, k * 3 + 2, none⟩ z) (g + 1) (((ys.set (k * 3) x).set (k * 3 + 1) y).set (k * 3 + 2) z) ls (k + 1) := by
  have key : ∀ {e n : Nat} {v : Value} {xs : List Value}, w.ownsRow (g + 1) e 1 v n xs → (((w.setCell ⟨g, k * 3, none⟩ x).setCell ⟨g, k * 3 + 1, none⟩ y).setCell ⟨g, k * 3 + 2, none⟩ z).ownsRow (g + 1) e 1 v n xs := fun h =>
    own_setCell (own_setCell (own_setCell h _ _ (by simp)) _ _ (by simp)) _ _ (by simp)
  intro j hj
  by_cases e : j = k
  · subst e
    refine ⟨y, z, ?_, ?_, ?_, key hy, key hz⟩
    · rw [List.getElem?_set_ne (by omega), List.getElem?_set_ne (by omega), List.getElem?_set_self (by omega), hx]
    · rw [List.getElem?_set_ne (by omega), List.getElem?_set_self (by simp; omega)]
    · rw [List.getElem?_set_self (by simp; omega)]
  · obtain ⟨vc, vv, h0, h1, h2, h3, h4⟩ := h j (by omega)
    refine ⟨vc, vv, ?_, ?_, ?_, key h3, key h4⟩
    · rw [List.getElem?_set_ne (by omega), List.getElem?_set_ne (by omega), List.getElem?_set_ne (by omega), h0]
    · rw [List.getElem?_set_ne (by omega), List.getElem?_set_ne (by omega), List.getElem?_set_ne (by omega), h1]
    · rw [List.getElem?_set_ne (by omega), List.getElem?_set_ne (by omega), List.getElem?_set_ne (by omega), h2]

theorem sch_size : (Tryd.prog.info? 43).map (·.size) = some 2 := by kernel_rfl
theorem wp_sc_load {ops : Array Oper} {rest : List Oper} {o : Oper} {a : Act} {w : World} {Q : Exit → Act → World → Prop} (hgd : o.guard = none) (x : Operand) (ho : o.op = .load 43 x)
    (h : ∃ g, a.eval x = .pointer (some ⟨g, 0, none⟩) ∧ ∃ c0 c1, Blk 43 w g #[c0, c1] ∧ wpList Tryd.prog ops Q rest (a.put o.dst (.agg #[c0, c1])) w) : wpList Tryd.prog ops Q (o :: rest) a w := by
  obtain ⟨g, hx, c0, c1, hA, hk⟩ := h
  exact wpList_load_row hgd 43 x ho g hx _ _ _ _ hA Tryd.underlying43 rfl sch_size hk
theorem wp_sc_store {ops : Array Oper} {rest : List Oper} {o : Oper} {a : Act} {w : World} {Q : Exit → Act → World → Prop} (hgd : o.guard = none) (x y : Operand) (ho : o.op = .store 43 x y)
    (h : ∃ g, a.eval x = .pointer (some ⟨g, 0, none⟩) ∧ ∃ o1 l1 k1 o2 l2 k2, a.eval y = .agg #[.slice o1 l1 k1, .slice o2 l2 k2] ∧ ∃ d0 d1, Blk 43 w g #[d0, d1] ∧ wpList Tryd.prog ops Q rest (a.put o.dst undef) (w.setRow g #[.slice o1 l1 k1, .slice o2 l2 k2])) : wpList Tryd.prog ops Q (o :: rest) a w := by
  obtain ⟨g, hx, o1, l1, k1, o2, l2, k2, hy, d0, d1, hA, hk⟩ := h
  exact wpList_store_row hgd 43 x y ho g _ hx hy _ _ hA sch_size rfl (by simp [Value.oneCell']) hk
theorem res_sc {fn : Func} {p : Tmp} (h : fn.results = #[.cell p 43]) (tmps : Array Value) (w : World) (g : Nat) (c0 c1 : Value)
    (hp : tmps.getD p undef = .pointer (some ⟨g, 0, none⟩)) (hg : Blk 43 w g #[c0, c1]) : (results fn tmps).run Tryd.prog w = .ok (.agg #[c0, c1]) w :=
  results_cell_row h tmps w g _ _ _ _ hp hg Tryd.underlying43 rfl sch_size

/-- A schema that lies in blocks from a base on. -/
def OwnS (base : Nat) (w : World) (v : Value) (s : SchemaD) : Prop :=
  ∃ va vc, v = .agg #[va, vc] ∧ OwnL base w va s.attrs ∧ w.ownsRow base 9 1 vc s.classes.length (s.classes.map Value.string)
theorem OwnS.at {base : Nat} {w : World} {v : Value} {s : SchemaD} (h : OwnS base w v s) : SchemaAt w v s := by
  obtain ⟨va, vc, rfl, h1, h2⟩ := h
  exact ⟨va, vc, rfl, h1.at, RowS.of_own h2 rfl⟩
end Go.Proofs.YtlpjigpnpafkiabDoor
/- The decimal digits of a number, one by one. -/
namespace Go.Proofs.YtlpjigpnpafkiabDoor
open Go.RowKit
set_option maxRecDepth 100000

def ds (u : Nat) : List UInt8 := if u = 0 then [] else Lib.decDigits u
theorem ds_pos (u : Nat) (h : 0 < u) : ds u = ds (u / 10) ++ [UInt8.ofNat (48 + u % 10)] := by
  unfold ds
  rw [if_neg (by omega), Lib.decDigits]
  by_cases h10 : u < 10
  · rw [dif_pos h10, if_pos (by omega), Nat.mod_eq_of_lt h10]; rfl
  · rw [dif_neg h10, if_neg (by omega)]
theorem ds_zero : ds 0 = [] := rfl
theorem ds_of (u : Nat) (h : 0 < u) : ds u = Lib.decDigits u := if_neg (by omega)

theorem one_text (wx : World) (b : Int) : (convert 69 9 (.slice (some ⟨wx.heap.size, 0, none⟩) 1 1)).run Tryd.prog (wx.alloc (.cells #[.int .u8 b] 5)) = .ok (.string ⟨#[UInt8.ofNat b.toNat]⟩) (wx.alloc (.cells #[.int .u8 b] 5)) :=
  run_convert_bytes_arg (P := Tryd.prog) _ 69 5 Tryd.underlying69 Tryd.underlying5 wx.heap.size 0 1 1 [b] rfl (fun i hi => by
    obtain rfl : i = 0 := by omega
    simp) _ Tryd.underlying9

theorem one_text_drew (wx : World) (b : Int) : (convert 69 9 (.slice (some ⟨wx.heap.size, 0, none⟩) 1 1)).run Tryd.prog (wx.alloc (.cells #[.int .u8 b] 5)).drew = .ok (.string ⟨#[UInt8.ofNat b.toNat]⟩) (wx.alloc (.cells #[.int .u8 b] 5)).drew :=
  run_convert_bytes_arg (P := Tryd.prog) _ 69 5 Tryd.underlying69 Tryd.underlying5 wx.heap.size 0 1 1 [b] rfl (fun i hi => by
    obtain rfl : i = 0 := by omega
    show (wx.alloc (.cells #[.int .u8 b] 5)).cell? _ = _
    simp) _ Tryd.underlying9

theorem pow_step (u k : Nat) (h0 : 0 < u) (h : u < 10 ^ (19 - k)) : k < 19 ∧ u / 10 < 10 ^ (19 - (k + 1)) := by
  have hk : k < 19 := by
    rcases Nat.lt_or_ge k 19 with h1 | h1
    · exact h1
    · rw [show 19 - k = 0 by omega] at h; simp at h; omega
  refine ⟨hk, Nat.div_lt_of_lt_mul ?_⟩
  rw [show 19 - k = 19 - (k + 1) + 1 by omega, Nat.pow_succ, Nat.mul_comm] at h
  exact h

theorem cat1 (b c : UInt8) (done : List UInt8) (h : b = c) : Value.string ((⟨#[b]⟩ : ByteArray) ++ ⟨done.toArray⟩) = .string ⟨(c :: done).toArray⟩ := by
  subst h
  congr 1

end Go.Proofs.YtlpjigpnpafkiabDoor
/- The decimal digits of a number, by the specification's own loop. -/
namespace Go.Proofs.YtlpjigpnpafkiabDoor
open Go.RowKit
set_option maxRecDepth 100000

set_option maxHeartbeats 800000 in
theorem digits_neg (u0 : Nat) (w : World) (h0 : 0 < u0) (h1 : u0 ≤ 9223372036854775808) :
    Calls Tryd.prog 29 #[.int .i64 (-(u0 : Int))] w fun e w' => e = .returned (.string ⟨(45 :: ds u0).toArray⟩) ∧ Below w.heap.size w w' := by
  have ot := one_text
  have hz0 : (-(u0 : Int) == 0) = false := by simp; omega
  have hn0 : decide (-(u0 : Int) < 0) = true := by simp; omega
  go_enter Tryd.func29, Tryd.ntmps29
  go_wp2
  go_loopw [0, 4, 5] (fun n v _ wr => ∃ (u : Nat) (done : List UInt8), n = .int .i64 (-(u : Int)) ∧ u ≤ 9223372036854775808 ∧ v = .string ⟨done.toArray⟩ ∧ done.length ≤ 19 ∧ u < 10 ^ (19 - done.length) ∧ ds u ++ done = ds u0 ∧ Below w.heap.size w wr) (fun n _ _ _ => (-(intOf n)).toNat)
  case atStart => exact ⟨u0, [], rfl, h1, rfl, by simp, by simp; omega, by simp, Below.refl _ _⟩
  case round =>
    obtain ⟨u, done, rfl, hu, rfl, hlen, hdn, hE, hb⟩ := hrel
    have HE : Hid (ds u ++ done = ds u0) := hE
    have HD : Hid (u < 10 ^ (19 - done.length)) := hdn
    clear hE hdn
    by_cases hz : 0 < u
    · have hm : (-(u : Int)).tmod 10 = -((u % 10 : Nat) : Int) := by rw [Int.neg_tmod, Int.tmod_eq_emod_of_nonneg (by omega)]; omega
      have hq : (-(u : Int)).tdiv 10 = -((u / 10 : Nat) : Int) := by rw [Int.neg_tdiv, Int.tdiv_eq_ediv_of_nonneg (by omega)]; omega
      have hne : (-(u : Int) != 0) = true := by simp; omega
      by_cases hr : 0 < u % 10
      all_goals
        go_wp2
        go_roundw
        case rel =>
          obtain ⟨p1, p2⟩ := pow_step u done.length hz HD.out
          refine ⟨u / 10, UInt8.ofNat (48 + u % 10) :: done, by go_num, by omega, ?_, by simp; omega, by simpa using p2, ?_, ?_⟩
          · exact cat1 _ _ _ (by first | (simp; done) | (congr 1; omega))
          · rw [← HE.out, ds_pos u hz]; simp
          · exact hb.alloc hb.size _
        case measure => simp [intOf]; omega
    · obtain rfl : u = 0 := by omega
      go_wp2
      go_ret
      refine ⟨?_, hb⟩
      have hE := HE.out
      rw [ds_zero, List.nil_append] at hE
      rw [← hE]
      exact congrArg Ending.returned (cat1 45 45 done rfl)

set_option maxHeartbeats 800000 in
theorem digits_pos (u0 : Nat) (w : World) (h0 : 0 < u0) (h1 : u0 ≤ 9223372036854775807) :
    Calls Tryd.prog 29 #[.int .i64 ((u0 : Int))] w fun e w' => e = .returned (.string ⟨(ds u0).toArray⟩) ∧ Below w.heap.size w w' := by
  have ot := one_text
  have hz0 : ((u0 : Int) == 0) = false := by simp; omega
  have hn0 : decide ((u0 : Int) < 0) = false := by simp
  go_enter Tryd.func29, Tryd.ntmps29
  go_wp2
  go_loopw [0, 4, 5] (fun n v _ wr => ∃ (u : Nat) (done : List UInt8), n = .int .i64 (u : Int) ∧ u ≤ 9223372036854775807 ∧ v = .string ⟨done.toArray⟩ ∧ done.length ≤ 19 ∧ u < 10 ^ (19 - done.length) ∧ ds u ++ done = ds u0 ∧ Below w.heap.size w wr) (fun n _ _ _ => (intOf n).toNat)
  case atStart => exact ⟨u0, [], rfl, h1, rfl, by simp, by simp; omega, by simp, Below.refl _ _⟩
  case round =>
    obtain ⟨u, done, rfl, hu, rfl, hlen, hdn, hE, hb⟩ := hrel
    have HE : Hid (ds u ++ done = ds u0) := hE
    have HD : Hid (u < 10 ^ (19 - done.length)) := hdn
    clear hE hdn
    by_cases hz : 0 < u
    · have hne : ((u : Int) != 0) = true := by simp; omega
      all_goals
        go_wp2
        go_roundw
        case rel =>
          obtain ⟨p1, p2⟩ := pow_step u done.length hz HD.out
          refine ⟨u / 10, UInt8.ofNat (48 + u % 10) :: done, by go_num, by omega, ?_, by simp; omega, by simpa using p2, ?_, ?_⟩
          · exact cat1 _ _ _ (by first | (simp; done) | (congr 1; omega))
          · rw [← HE.out, ds_pos u hz]; simp
          · exact hb.alloc hb.size _
        case measure => simp [intOf]; omega
    · obtain rfl : u = 0 := by omega
      go_wp2
      go_ret
      refine ⟨?_, hb⟩
      have hE := HE.out
      rw [ds_zero, List.nil_append] at hE
      rw [← hE]
      rfl

/-- Whatever the number. -/
theorem digits_any (n : Int) (w : World) (h0 : -9223372036854775808 ≤ n) (h1 : n ≤ 9223372036854775807) :
    Calls Tryd.prog 29 #[.int .i64 n] w fun e w' => e = .returned (.string ⟨(Lib.itoa n).toArray⟩) ∧ Below w.heap.size w w' := by
  by_cases hn : n < 0
  · obtain ⟨u, rfl⟩ : ∃ u : Nat, n = -(u : Int) := ⟨n.natAbs, by omega⟩
    have e : Lib.itoa (-(u : Int)) = 45 :: ds u := by rw [Lib.itoa, if_pos hn, ds_of u (by omega)]; simp
    rw [e]
    exact digits_neg u w (by omega) (by omega)
  · obtain ⟨u, rfl⟩ := Int.eq_ofNat_of_zero_le (show 0 ≤ n by omega)
    by_cases hu : u = 0
    · subst hu
      have e : Lib.itoa ((0 : Nat) : Int) = [48] := by rw [Lib.itoa, if_neg hn]; rw [Lib.decDigits]; rfl
      rw [e]
      go_enter Tryd.func29, Tryd.ntmps29
      go_wp2
      go_ret
      exact ⟨rfl, Below.refl _ _⟩
    · have e : Lib.itoa (u : Int) = ds u := by rw [Lib.itoa, if_neg hn, ds_of u (by omega)]; simp
      rw [e]
      exact digits_pos u w (by omega) (by omega)
end Go.Proofs.YtlpjigpnpafkiabDoor
/- The specification's readers of a decimal number. -/
namespace Go.Proofs.YtlpjigpnpafkiabDoor
open Go.RowKit
set_option maxRecDepth 100000

def gotInt : Option Int → Value
  | none => .tuple #[.int .i64 0, .bool false]
  | some v => .tuple #[.int .i64 v, .bool true]

theorem decFrom_bad (l : List UInt8) (k : Nat) (b : UInt8) (hb : l[k]? = some b) (hd : b.toNat < 48 ∨ 57 < b.toNat) : Lib.decFrom 0 l = none := by
  cases h : Lib.decFrom 0 l with
  | none => rfl
  | some n =>
    obtain ⟨d, hdv⟩ := Lib.digit_of_decFrom l 0 n h k b hb
    obtain ⟨h1, h2, _⟩ := digitVal_inv hdv
    omega
theorem digitVal_ok (b : UInt8) (h1 : 48 ≤ b.toNat) (h2 : b.toNat ≤ 57) : Lib.digitVal b = some (b.toNat - 48) := by rw [Lib.digitVal, if_pos ⟨h1, h2⟩]

theorem numSpec_bad {l : List UInt8} (h : Lib.decFrom 0 l = none) : numSpec l = none := by unfold numSpec; rw [h]; simp
theorem numSpec_no {l : List UInt8} {v : Nat} (h : Lib.decFrom 0 l = some v) (hi : ¬ Lib.itoa v = l) : numSpec l = none := by unfold numSpec; rw [h]; simp [hi]
theorem numSpec_yes {l : List UInt8} {v : Nat} (h1 : 1 ≤ l.length) (h6 : l.length ≤ 6) (h : Lib.decFrom 0 l = some v) (hi : Lib.itoa v = l) : numSpec l = some (v : Int) := by unfold numSpec; rw [if_pos ⟨h1, h6⟩, h]; simp [hi]
theorem numSpec_len {l : List UInt8} (h : ¬ (1 ≤ l.length ∧ l.length ≤ 6)) : numSpec l = none := if_neg h

set_option maxHeartbeats 800000 in
theorem specNumber_in (s : ByteArray) (l : List UInt8) (w : World) (h1 : 1 ≤ s.size) (h6 : s.size ≤ 6) (hl : s.data.toList = l) :
    Calls Tryd.prog 63 #[.string s] w fun e w' => e = .returned (gotInt (numSpec l)) ∧ Below w.heap.size w w' := by
  have hlen : l.length = s.size := by rw [← hl]; simp
  have HL : Hid (s.data.toList = l) := hl
  have HLen : Hid (l.length = s.size) := hlen
  clear hlen hl
  go_enter Tryd.func63, Tryd.ntmps63
  go_wp2
  go_loop [4, 5] (fun n i => ∃ (k m : Nat), k ≤ s.size ∧ i = .int .i64 k ∧ n = .int .i64 m ∧ m ≤ 999999 ∧ Lib.decFrom 0 (l.take k) = some m) (fun _ i => s.size - (intOf i).toNat)
  case atStart => exact ⟨0, 0, by omega, rfl, rfl, by omega, rfl⟩
  case round =>
    obtain ⟨k, m, hk, rfl, rfl, hm, hE⟩ := hrel
    have HE : Hid (Lib.decFrom 0 (l.take k) = some m) := hE
    clear hE
    by_cases hlt : k < s.size
    · have hbk : l[k]? = some s[k] := by rw [← HL.out]; simp [hlt]; rfl
      have HB : Hid (l[k]? = some s[k]) := hbk
      clear hbk
      by_cases hlo : s[k].toNat < 48
      · have HF : Hid (numSpec l = none) := numSpec_bad (decFrom_bad l k _ HB.out (.inl hlo))
        go_wp2
        go_ret2
        exact ⟨by rw [HF.out]; rfl, Below.refl _ _⟩
      · by_cases hhi : 57 < s[k].toNat
        · have HF : Hid (numSpec l = none) := numSpec_bad (decFrom_bad l k _ HB.out (.inr hhi))
          go_wp2
          go_ret2
          exact ⟨by rw [HF.out]; rfl, Below.refl _ _⟩
        · have hE2 := Lib.decFrom_take l k 0 m _ _ HE.out HB.out (digitVal_ok _ (by omega) (by omega))
          have hb := decFrom_lt _ _ _ hE2
          have HE2 : Hid (Lib.decFrom 0 (l.take (k + 1)) = some (m * 10 + (s[k].toNat - 48))) := hE2
          have hle : m * 10 + (s[k].toNat - 48) ≤ 999999 := by
            have h3 : 10 ^ (l.take (k + 1)).length ≤ 10 ^ 6 := Nat.pow_le_pow_right (by decide) (by rw [List.length_take, HLen.out]; omega)
            omega
          clear hE2 hb
          go_wp2
          go_round
          case rel => exact ⟨k + 1, m * 10 + (s[k].toNat - 48), by omega, by go_num, by go_num, hle, HE2.out⟩
          case measure => simp [intOf]; omega
    · have hall : Lib.decFrom 0 l = some m := by
        have := HE.out
        rwa [List.take_of_length_le (by rw [HLen.out]; omega)] at this
      have HA : Hid (Lib.decFrom 0 l = some m) := hall
      clear hall
      go_wp2_with fail
      refine (digits_any (m : Int) _ (by omega) (by omega)).mono ?_
      rintro e w1 ⟨rfl, hb⟩
      by_cases hi : Lib.itoa (m : Int) = l
      · have HF : Hid (numSpec l = some (m : Int)) := numSpec_yes (by rw [HLen.out]; exact h1) (by rw [HLen.out]; exact h6) HA.out hi
        have he : (⟨(Lib.itoa (m : Int)).toArray⟩ : ByteArray) = s := by
          apply ByteArray.ext
          rw [hi, ← HL.out]
        rw [he]
        clear he hi
        go_wp2
        go_ret2
        exact ⟨by rw [HF.out]; rfl, hb⟩
      · have HF : Hid (numSpec l = none) := numSpec_no HA.out hi
        have hne : (Lib.itoa (m : Int) == s.toList) = false := by rw [ByteArray.toList_eq, HL.out]; simpa using hi
        clear hi
        go_wp2
        go_ret2
        exact ⟨by rw [HF.out]; rfl, hb⟩

theorem specNumber_any (s : ByteArray) (w : World) (hs : s.size ≤ 9223372036854775807) :
    Calls Tryd.prog 63 #[.string s] w fun e w' => e = .returned (gotInt (numSpec s.data.toList)) ∧ Below w.heap.size w w' := by
  by_cases h1 : 1 ≤ s.size
  · by_cases h6 : s.size ≤ 6
    · exact specNumber_in s _ w h1 h6 rfl
    · have HF : Hid (numSpec s.data.toList = none) := numSpec_len (by simp; intro _; exact Nat.lt_of_not_le h6)
      go_enter Tryd.func63, Tryd.ntmps63
      go_wp2
      go_ret2
      exact ⟨by rw [HF.out]; rfl, Below.refl _ _⟩
  · have HF : Hid (numSpec s.data.toList = none) := numSpec_len (by simp; intro h; exact absurd h h1)
    go_enter Tryd.func63, Tryd.ntmps63
    go_wp2
    go_ret2
    exact ⟨by rw [HF.out]; rfl, Below.refl _ _⟩

theorem sig_len {l : List UInt8} (h : ¬ (1 ≤ l.length ∧ l.length ≤ 5)) : sigSpec l = none := if_neg h
theorem sig_plain {l : List UInt8} (h : 1 ≤ l.length ∧ l.length ≤ 5) (hh : ¬ l.head? = some 45) (o : Option Int) (ho : numSpec l = o) : sigSpec l = o.bind fun v => if v ≤ 9999 then some v else none := by
  unfold sigSpec; rw [if_pos h, if_neg hh, ho]; cases o <;> rfl
theorem sig_minus {l : List UInt8} (h : 1 ≤ l.length ∧ l.length ≤ 5) (hh : l.head? = some 45) (o : Option Int) (ho : numSpec l.tail = o) : sigSpec l = o.bind fun v => if 1 ≤ v ∧ v ≤ 9999 then some (0 - v) else none := by
  unfold sigSpec; rw [if_pos h, if_pos hh, ho]; cases o <;> rfl

set_option maxHeartbeats 800000 in
theorem specSigned_any (s : ByteArray) (w : World) (hs : s.size ≤ 9223372036854775807) :
    Calls Tryd.prog 39 #[.string s] w fun e w' => e = .returned (gotInt (sigSpec s.data.toList)) ∧ Below w.heap.size w w' := by
  by_cases h1 : 1 ≤ s.size
  · by_cases h5 : s.size ≤ 5
    · have hlen : 1 ≤ s.data.toList.length ∧ s.data.toList.length ≤ 5 := by simp; exact ⟨h1, h5⟩
      have h0 : s.data.toList.head? = some s[0] := by
        have hp : 0 < s.size := h1
        have : s.data.toList[0]? = some s[0] := by simp [hp]; rfl
        rw [List.head?_eq_getElem?]; exact this
      by_cases hm : s[0].toNat = 45
      · have hh : s.data.toList.head? = some 45 := by
          rw [h0]; congr 1; exact UInt8.toNat_inj.1 hm
        have htl : (s.extract 1 s.size).data.toList = s.data.toList.tail := by
          rw [ByteArray.data_extract, Array.toList_extract, List.extract_eq_take_drop]
          rw [List.take_of_length_le (by simp), List.drop_one]
        have SM := sig_minus hlen hh
        have M := specNumber_any (s.extract 1 s.size) w (by simp; omega)
        rw [htl] at M
        cases ho : numSpec s.data.toList.tail with
        | none =>
          have HF : Hid (sigSpec s.data.toList = none) := SM _ ho
          rw [ho] at M
          clear SM ho htl hh h0 hlen
          go_enter Tryd.func39, Tryd.ntmps39
          go_wp2_with fail
          refine M.mono ?_
          clear M
          rintro e w1 ⟨rfl, hb⟩
          simp only [gotInt]
          go_wp2
          go_ret2
          exact ⟨by rw [HF.out]; rfl, hb⟩
        | some v =>
          obtain ⟨b0, b1, _⟩ := (numSpec_iff _ _).1 ho
          rw [ho] at M
          by_cases hv : 1 ≤ v ∧ v ≤ 9999
          · have HF : Hid (sigSpec s.data.toList = some (0 - v)) := (SM _ ho).trans (if_pos hv)
            obtain ⟨c0, c1⟩ := hv
            clear SM ho htl hh h0 hlen
            go_enter Tryd.func39, Tryd.ntmps39
            go_wp2_with fail
            refine M.mono ?_
            clear M
            rintro e w1 ⟨rfl, hb⟩
            simp only [gotInt]
            go_wp2
            go_ret2
            exact ⟨by rw [HF.out]; simp [gotInt], hb⟩
          · have HF : Hid (sigSpec s.data.toList = none) := (SM _ ho).trans (if_neg hv)
            clear SM ho htl hh h0 hlen
            by_cases c0 : 1 ≤ v
            · have c1 : ¬ v ≤ 9999 := fun h => hv ⟨c0, h⟩
              clear hv
              go_enter Tryd.func39, Tryd.ntmps39
              go_wp2_with fail
              refine M.mono ?_
              clear M
              rintro e w1 ⟨rfl, hb⟩
              simp only [gotInt]
              go_wp2
              go_ret2
              exact ⟨by rw [HF.out]; rfl, hb⟩
            · clear hv
              go_enter Tryd.func39, Tryd.ntmps39
              go_wp2_with fail
              refine M.mono ?_
              clear M
              rintro e w1 ⟨rfl, hb⟩
              simp only [gotInt]
              go_wp2
              go_ret2
              exact ⟨by rw [HF.out]; rfl, hb⟩
      · have hh : ¬ s.data.toList.head? = some 45 := by
          rw [h0]
          intro e
          simp only [Option.some.injEq] at e
          exact hm (by rw [e]; rfl)
        have hmb : ((s[0].toNat : Int) != 45) = true := by simp; omega
        have SM := sig_plain hlen hh
        have M := specNumber_any s w hs
        cases ho : numSpec s.data.toList with
        | none =>
          have HF : Hid (sigSpec s.data.toList = none) := SM _ ho
          rw [ho] at M
          clear SM ho hh h0 hlen hm
          go_enter Tryd.func39, Tryd.ntmps39
          go_wp2_with fail
          refine M.mono ?_
          clear M
          rintro e w1 ⟨rfl, hb⟩
          simp only [gotInt]
          go_wp2
          go_ret2
          exact ⟨by rw [HF.out]; rfl, hb⟩
        | some v =>
          obtain ⟨b0, b1, _⟩ := (numSpec_iff _ _).1 ho
          rw [ho] at M
          by_cases hv : v ≤ 9999
          · have HF : Hid (sigSpec s.data.toList = some v) := (SM _ ho).trans (if_pos hv)
            clear SM ho hh h0 hlen hm
            go_enter Tryd.func39, Tryd.ntmps39
            go_wp2_with fail
            refine M.mono ?_
            clear M
            rintro e w1 ⟨rfl, hb⟩
            simp only [gotInt]
            go_wp2
            go_ret2
            exact ⟨by rw [HF.out]; rfl, hb⟩
          · have HF : Hid (sigSpec s.data.toList = none) := (SM _ ho).trans (if_neg hv)
            clear SM ho hh h0 hlen hm
            go_enter Tryd.func39, Tryd.ntmps39
            go_wp2_with fail
            refine M.mono ?_
            clear M
            rintro e w1 ⟨rfl, hb⟩
            simp only [gotInt]
            go_wp2
            go_ret2
            exact ⟨by rw [HF.out]; rfl, hb⟩
    · have HF : Hid (sigSpec s.data.toList = none) := sig_len (by simp; intro _; exact Nat.lt_of_not_le h5)
      go_enter Tryd.func39, Tryd.ntmps39
      go_wp2
      go_ret2
      exact ⟨by rw [HF.out]; rfl, Below.refl _ _⟩
  · have HF : Hid (sigSpec s.data.toList = none) := sig_len (by simp; intro h; exact absurd h h1)
    go_enter Tryd.func39, Tryd.ntmps39
    go_wp2
    go_ret2
    exact ⟨by rw [HF.out]; rfl, Below.refl _ _⟩
end Go.Proofs.YtlpjigpnpafkiabDoor
