/- Texts of this claim, put together: part 26. -/
import Derived.Test.YtmdmplphendpcaaFnCountedPack25
import Derived.Test.YtmdmplphendpcaaFnCountedPack6
import Derived.Test.YtmdmplphendpcaaFnCountedPack9
import Derived.Test.YtmdmplphendpcaaFnCountedPack8
import Derived.Test.YtmdmplphendpcaaFnCountedPack17
import Derived.Test.YtmdmplphendpcaaFnCountedPack7
import Derived.WideKeyEntry
/- The cell ahead of all others. -/
namespace Go.Proofs.Ytmdmplphendpcaa
open Go.RowKit Go.Maps
set_option maxRecDepth 100000
set_option linter.unusedSimpArgs false
theorem key_size : (Try.prog.info? 81).map (·.size) = some 2 := by kernel_rfl
theorem wp_key_load {ops : Array Oper} {rest : List Oper} {o : Oper} {a : Act} {w : World} {Q : Exit → Act → World → Prop} (hgd : o.guard = none) (x : Operand) (ho : o.op = .load 81 x)
    (h : ∃ g, a.eval x = .pointer (some ⟨g, 0, none⟩) ∧ ∃ c0 c1, Blk 81 w g #[c0, c1] ∧ wpList Try.prog ops Q rest (a.put o.dst (.agg #[c0, c1])) w) : wpList Try.prog ops Q (o :: rest) a w := by
  obtain ⟨g, hx, c0, c1, hA, hk⟩ := h
  exact wpList_load_row hgd 81 x ho g hx _ _ _ _ hA Try.underlying81 rfl key_size hk
theorem wp_key_store {ops : Array Oper} {rest : List Oper} {o : Oper} {a : Act} {w : World} {Q : Exit → Act → World → Prop} (hgd : o.guard = none) (x y : Operand) (ho : o.op = .store 81 x y)
    (h : ∃ g, a.eval x = .pointer (some ⟨g, 0, none⟩) ∧ ∃ b c, a.eval y = .agg #[.int .i64 b, .int .i64 c] ∧ ∃ d0 d1, Blk 81 w g #[d0, d1] ∧ wpList Try.prog ops Q rest (a.put o.dst undef) (w.setRow g #[.int .i64 b, .int .i64 c])) : wpList Try.prog ops Q (o :: rest) a w := by
  obtain ⟨g, hx, b, c, hy, d0, d1, hA, hk⟩ := h
  exact wpList_store_row hgd 81 x y ho g _ hx hy _ _ hA key_size rfl (by simp [Value.oneCell']) hk
theorem res_key {fn : Func} {p : Tmp} (h : fn.results = #[.cell p 81]) (tmps : Array Value) (w : World) (g : Nat) (c0 c1 : Value)
    (hp : tmps.getD p undef = .pointer (some ⟨g, 0, none⟩)) (hg : Blk 81 w g #[c0, c1]) : (results fn tmps).run Try.prog w = .ok (.agg #[c0, c1]) w :=
  results_cell_row h tmps w g _ _ _ _ hp hg Try.underlying81 rfl key_size
theorem grown_row_at (w : World) (k : Nat) (c : Array Value) : w.grownBy (w.setRow k c) (some k) :=
  ⟨rfl, rfl, rfl, by simp [World.setRow], fun j _ hne => Go.setRow_other w k j c (fun e => hne (by rw [e]))⟩
/-- What the walk has found: the first of those that have come. -/
structure Found (m lo hi : Nat) (left : Lit → Bool) (j : Nat) : Prop where
  le : lo ≤ j
  one : j < hi ∨ j = 4 * m
  least : ∀ i, lo ≤ i → i < hi → left (kat m i) = false → j ≤ i
theorem Found.start {D : DataW Unit} {m lo hi : Nat} {l : List Int} (h : Holds (kat m) D l lo hi) (hl : lo < hi) (hm : hi ≤ 4 * m) : Found m lo hi (Maps.has D) (4 * m) :=
  ⟨by omega, .inr rfl, fun i h1 h2 hf => by rw [(h.has _).2 ⟨i, h1, h2, rfl⟩] at hf; cases hf⟩
theorem Found.step {m lo hi i j : Nat} {left : Lit → Bool} (h : Found m lo hi left j) (hi1 : lo ≤ i) (hi2 : i < hi) (hb : hi ≤ 1099511627776) : Found m lo hi (fun z => left z && !z.sameKey (kat m i)) (if i < j then i else j) := by
  have hle := h.le
  refine ⟨by split <;> omega, ?_, fun q h1 h2 hf => ?_⟩
  · split
    · exact .inl hi2
    · exact h.one
  rw [Bool.and_eq_false_iff] at hf
  rcases hf with hf | hf
  · have := h.least q h1 h2 hf; split <;> omega
  · have hs : (kat m q).sameKey (kat m i) = true := by simpa using hf
    have := (kat_nos m).inj q i (by omega) (by omega) (WideAt.sameKey_eq hs)
    split <;> omega
theorem Found.end {m lo hi j : Nat} {left : Lit → Bool} (h : Found m lo hi left j) (hl : lo < hi) (h0 : ∀ kl, left kl = false) : j = lo :=
  Nat.le_antisymm (h.least lo (Nat.le_refl _) hl (h0 _)) h.le
set_option maxHeartbeats 1600000 in
theorem first_any (b n : Nat) (D : DataW Unit) (m lo hi : Nat) (l : List Int) (w : World) (hown : w.ownsMap Try.prog 81 (plainElem (H := Unit) Try.prog 3) b n D) (hD : Holds (kat m) D l lo hi) (hl : lo < hi) (hm0 : 0 < m) (hm : hi ≤ 4 * m) (hm2 : m ≤ 1048576) :
    Calls Try.prog 88 #[.map (some b)] w fun e w' => e = .returned (.agg #[.int .i64 ((lo / m : Nat) : Int), .int .i64 ((lo % m : Nat) : Int)]) ∧ Below w.heap.size w w' := by
  have hbl := hown.lt
  obtain ⟨K1, K2, B0⟩ := blk_2 81 81 w #[.int .i64 0, .int .i64 0] #[.int .i64 4, .int .i64 0]
  have hown2 := (hown.alloc (.cells #[.int .i64 0, .int .i64 0] 81)).alloc (.cells #[.int .i64 4, .int .i64 0] 81)
  have e1 : ((w.alloc (.cells #[.int .i64 0, .int .i64 0] 81)).alloc (.cells #[.int .i64 4, .int .i64 0] 81)).heap.size = w.heap.size + 2 := by simp
  have HD : Hid (Holds (kat m) D l lo hi) := hD
  clear hD hown
  go_enter Try.func88, Try.ntmps88
  go_wp2_with (at_range; refine wpList_range_own _ rfl _ 78 rfl 81 3 kLaw Try.underlying78 _ b n D rfl hown2 ?_; intro w0 hrg0 hg0 hs0)
  go_frame
  rw [e1] at hrg0 hs0 ⊢
  have B1 := B0.grown hg0 (by omega) (fun j hj => by cases hj)
  have HK1 := K1.kept hg0 (by simp)
  have HK2 := K2.kept hg0 (by simp)
  clear hown2 hg0 K1 K2 B0 e1
  go_loopw [4] (fun _ wr => ∃ (left : Lit → Bool) (cnt j : Nat) (bj cj : Int), wr.ranges Try.prog 81 (plainElem (H := Unit) Try.prog 3) b (w.heap.size + 2) n D left cnt ∧ Blk 81 wr w.heap.size #[.int .i64 0, .int .i64 0] ∧ Blk 81 wr (w.heap.size + 1) #[.int .i64 bj, .int .i64 cj] ∧ Hid (bj = ((j / m : Nat) : Int) ∧ cj = ((j % m : Nat) : Int) ∧ Found m lo hi left j) ∧ Below w.heap.size w wr ∧ w.heap.size + 3 ≤ wr.heap.size)
    (fun _ wr => wr.rangeLeft b (w.heap.size + 2))
  case atStart =>
    exact ⟨_, _, 4 * m, 4, 0, hrg0, HK1, HK2, ⟨by rw [Nat.mul_div_cancel _ hm0]; rfl, by rw [Nat.mul_mod_left]; rfl, Found.start HD.out hl hm⟩, B1, by omega⟩
  case round =>
    obtain ⟨left, cnt, j, bj, cj, hrg, k1, k2, HF, hbr, hsz⟩ := hrel
    clear hrg0 hs0 B1 HK1 HK2
    go_wp2_with (first
      | (at_next; refine wpList_next_ranges _ rfl _ rfl 81 kLaw (plainElem (H := Unit) Try.prog 3) (fun x : Int × Int => Value.agg #[.int .i64 x.1, .int .i64 x.2]) (Value.int .i64) (fun key kl hk => by obtain ⟨x, h, _⟩ := key_inv hk; exact ⟨x, h⟩) (fun v y hv => by obtain ⟨c, h, _⟩ := plainElem_int_inv Try.underlying3 hv; exact ⟨c, h⟩) b (w.heap.size + 2) n D left cnt rfl hrg ?_ ?_)
      | go_in)
    · intro hc0 hl0
      have hj := HF.out.2.2.end hl hl0
      have HE : Hid (bj = ((lo / m : Nat) : Int) ∧ cj = ((lo % m : Nat) : Int)) := by rw [← hj]; exact ⟨HF.out.1, HF.out.2.1⟩
      clear hj
      go_wp2_with (first
        | (with_reducible refine wp_key_load rfl _ rfl ?_; refine ⟨w.heap.size + 1, rfl, _, _, k2, ?_⟩)
        | (with_reducible refine wp_key_store rfl _ _ rfl ?_; refine ⟨w.heap.size, rfl, _, _, rfl, _, _, k1, ?_⟩)
        | go_in)
      exact bodyPost_ret (res_key rfl _ _ _ _ _ rfl (k1.setRow _)) rfl ⟨by rw [← HE.out.1, ← HE.out.2], below_row hbr (by omega) _⟩
    · intro x1 x2 c kl y ps w1 cnt1 hkey hlk hv hat hrg1 hlt hg1 hs1 hen
      obtain ⟨i, hi1, hi2, rfl⟩ := (HD.out.has kl).1 (Maps.has_true_of_atKey hat)
      have hx := kLaw.inj hkey (kat_of (m := m) (i := i) (by omega))
      simp only [Value.agg.injEq, Array.mk.injEq, List.cons.injEq, Value.int.injEq, true_and, and_true] at hx
      have HX : Hid (x1 = ((i / m : Nat) : Int) ∧ x2 = ((i % m : Nat) : Int)) := hx
      have hah : aheadB x1 x2 bj cj = decide (i < j) := by rw [hx.1, hx.2, HF.out.1, HF.out.2.1, ahead_lt]
      have HFN : Hid (Found m lo hi (fun z => left z && !z.sameKey (kat m i)) (if i < j then i else j)) := HF.out.2.2.step hi1 hi2 (by omega)
      have HBJ : Hid (bj = ((j / m : Nat) : Int) ∧ cj = ((j % m : Nat) : Int)) := ⟨HF.out.1, HF.out.2.1⟩
      have b1 := hbr.grown hg1 hbr.size (fun q hq => by cases hq; omega)
      replace k1 := k1.kept hg1 (by simp)
      replace k2 := k2.kept hg1 (by simp)
      have e1 : w1.heap.size = wr.heap.size := hs1
      obtain ⟨KA, BA⟩ := blk_1 81 w1 #[.int .i64 x1, .int .i64 x2]
      have k2A := k2.alloc (.cells #[.int .i64 x1, .int .i64 x2] 81)
      have k1A := k1.alloc (.cells #[.int .i64 x1, .int .i64 x2] 81)
      have bA := b1.trans (BA.mono (by omega))
      have ca := ahead_any x1 x2 bj cj (w1.alloc (.cells #[.int .i64 x1, .int .i64 x2] 81))
      rw [hah] at ca
      have HRG := hrg1.alloc (.cells #[.int .i64 x1, .int .i64 x2] 81)
      have HLE : Hid (cnt1 < wr.rangeLeft b (w.heap.size + 2)) := by rw [hrg.left_eq]; exact hlt
      have hszA : w.heap.size + 3 ≤ (w1.alloc (.cells #[.int .i64 x1, .int .i64 x2] 81)).heap.size := by simp; omega
      have hga : w1.heap.size ≠ w.heap.size + 1 ∧ w.heap.size + 1 < w1.heap.size := by omega
      clear hrg HF hg1 hs1 hlk hkey hv hat hbr b1 hrg1 hlt e1 BA hx hah
      go_wp2_with (with_reducible refine wp_key_load rfl _ rfl ?_; first | refine ⟨w.heap.size + 1, rfl, _, _, k2A, ?_⟩ | refine ⟨w1.heap.size, rfl, _, _, KA, ?_⟩)
      refine ca.mono ?_
      clear ca hen k1 k2
      generalize hka : w1.heap.size = gA at KA hga ⊢
      generalize (w1.alloc (.cells #[.int .i64 x1, .int .i64 x2] 81)) = wA at k1A k2A KA bA HRG hszA
      clear hka
      rintro e w2 ⟨rfl, hb2⟩
      have hg2 : wA.grownBy w2 none := grown_of_below hb2
      have HR2 := HRG.kept hg2 (by simp) (by simp)
      replace k1A := k1A.below hb2
      replace k2A := k2A.below hb2
      replace KA := KA.below hb2
      have b2 := bA.trans (hb2.mono bA.size)
      have hsz2 : w.heap.size + 3 ≤ w2.heap.size := Nat.le_trans hszA hb2.size
      clear HRG hg2 hb2 bA hszA
      by_cases hij : i < j
      · rw [decide_eq_true hij]
        have HFI : Hid (Found m lo hi (fun z => left z && !z.sameKey (kat m i)) i) := by have := HFN.out; rwa [if_pos hij] at this
        have hg3 : w2.grownBy (w2.setRow (w.heap.size + 1) #[.int .i64 x1, .int .i64 x2]) (some (w.heap.size + 1)) := grown_row_at _ _ _
        have HR3 := HR2.kept hg3 (by intro e; have := Option.some.inj e; omega) (by intro e; have := Option.some.inj e; omega)
        have b3 := below_row b2 (g := w.heap.size + 1) (by omega) #[.int .i64 x1, .int .i64 x2]
        have k1B := k1A.setRow_other (k := w.heap.size + 1) #[.int .i64 x1, .int .i64 x2] (by omega)
        have k2B := k2A.setRow #[.int .i64 x1, .int .i64 x2]
        go_wp2_with (first
          | (with_reducible refine wp_key_load rfl _ rfl ?_; refine ⟨gA, rfl, _, _, KA, ?_⟩)
          | (with_reducible refine wp_key_store rfl _ _ rfl ?_; refine ⟨w.heap.size + 1, rfl, _, _, rfl, _, _, k2A, ?_⟩)
          | go_in)
        go_frame
        go_roundw
        case rel => exact ⟨_, cnt1, i, x1, x2, HR3, k1B, k2B, ⟨HX.out.1, HX.out.2, HFI.out⟩, b3, by simpa [World.setRow] using hsz2⟩
        case measure => rw [HR3.left_eq]; exact HLE.out
      · rw [decide_eq_false hij]
        have HFI : Hid (Found m lo hi (fun z => left z && !z.sameKey (kat m i)) j) := by have := HFN.out; rwa [if_neg hij] at this
        go_wp2
        go_roundw
        case rel => exact ⟨_, cnt1, j, bj, cj, HR2, k1A, k2A, ⟨HBJ.out.1, HBJ.out.2, HFI.out⟩, b2, hsz2⟩
        case measure => rw [HR2.left_eq]; exact HLE.out
end Go.Proofs.Ytmdmplphendpcaa
/- The list that a map of cells was made of, told again. -/
namespace Go.Proofs.Ytmdmplphendpcaa
open Go.RowKit Go.Maps
set_option maxRecDepth 100000
set_option linter.unusedSimpArgs false
theorem intZero (w : World) : (zeroValue 3).run Try.prog w = .ok (.int .i64 0) w := by kernel_rfl
theorem newc1 (w : World) (cs : Array Value) (t : TypeId) : ∀ (j : Nat) (u : Value), cs.toList[j]? = some u → (w.alloc (.cells cs t)).cell? ((⟨w.heap.size, 0, none⟩ : Addr).add j) = some u := by
  intro j u hj
  have e : (⟨w.heap.size, 0, none⟩ : Addr).add j = ⟨w.heap.size, j, none⟩ := by cases j <;> simp [Addr.add]
  rw [e, (Blk.new t w cs).cell j]
  simpa using hj
theorem Holds.done {κ : Nat → Lit} {D : DataW Unit} {l : List Int} {k n : Nat} (h : Holds κ D l k n) (x : Int) (hk : k < n) (z : DataW Unit) (hx : D.atKey (κ k) z = .lit (.int .i64 x)) : x = l.getD k 0 := by
  have := (h.at' k (Nat.le_refl _) hk z).symm.trans hx
  simpa using this.symm
set_option maxHeartbeats 1600000 in
theorem list_any (b : Nat) (D : DataW Unit) (m : Nat) (l : List Int) (w : World) (hown : w.ownsMap Try.prog 81 (plainElem (H := Unit) Try.prog 3) b l.length D) (hD : Holds (kat m) D l 0 l.length) (hm0 : 0 < m) (hm : l.length ≤ 4 * m) (hm2 : m ≤ 1048576) :
    Calls Try.prog 48 #[.map (some b)] w fun e w' => ∃ v, e = .returned v ∧ w'.ownsRow w.heap.size 3 1 v l.length (l.map (Value.int .i64)) ∧ w.grownBy w' (some b) := by
  obtain ⟨i0, hi0, hz0, hz1, hz2⟩ := info_parts intInfo
  have hbl := hown.lt
  have hsd : Maps.size D = l.length := by rw [hD.size]; omega
  have HD : Hid (Holds (kat m) D l 0 l.length) := hD
  clear hD
  go_enter Try.func48, Try.ntmps48
  go_wp2_with (first
    | (at_len; refine wpList_len_own _ rfl _ 78 rfl 81 3 Try.underlying78 _ b l.length D rfl hown ?_; rw [hsd])
    | (at_make; refine wpList_make_own _ rfl _ _ 28 rfl w.heap.size 3 i0 (.int .i64 0) 1 Try.underlying28 hi0 hz0 hz1 .i64 .i64 _ l.length rfl rfl rfl (by rw [hz2]; omega) (by unfold maxLen; omega) (Nat.le_refl _) ?_)
    | go_in)
  intro w1 ho1 hg1
  have hown1 := hown.kept hg1 (by simp)
  have hG1 : w.grownBy w1 (some b) := hg1.but _
  have hbg : b ≠ w.heap.size := by omega
  clear hown hg1
  go_wp2_with (first
    | (at_len; refine wpList_len_own _ rfl _ 78 rfl 81 3 Try.underlying78 _ b l.length D rfl hown1 ?_; rw [hsd])
    | go_in)
  go_loopw [3, 10] (fun v i wr => ∃ (k : Nat) (Dk : DataW Unit), i = .int .i64 k ∧ v = .slice (some ⟨w.heap.size, 0, none⟩) k l.length ∧ k ≤ l.length ∧ wr.ownsRow w.heap.size 3 1 (.slice (some ⟨w.heap.size, 0, none⟩) k l.length) k ((l.take k).map (Value.int .i64)) ∧ wr.ownsMap Try.prog 81 (plainElem (H := Unit) Try.prog 3) b l.length Dk ∧ Hid (Holds (kat m) Dk l k l.length) ∧ w.grownBy wr (some b)) (fun _ i _ => l.length - (intOf i).toNat)
  case atStart => exact ⟨0, D, rfl, rfl, by omega, ho1, hown1, HD.out, hG1⟩
  case round =>
    obtain ⟨k, Dk, rfl, rfl, hk, hrow, hmap, HK, hgr⟩ := hrel
    clear ho1 hown1 hG1 HD hsd
    by_cases hlt : k < l.length
    · have c1 := first_any b l.length Dk m k l.length l wr hmap HK.out hlt hm0 hm hm2
      have hkey := kat_of (m := m) (i := k) (by omega)
      obtain ⟨bk, hbk⟩ : ∃ bk : Int, bk = ((k / m : Nat) : Int) := ⟨_, rfl⟩
      obtain ⟨ck, hck⟩ : ∃ ck : Int, ck = ((k % m : Nat) : Int) := ⟨_, rfl⟩
      rw [← hbk, ← hck] at c1 hkey
      have HNEXT : Hid (∀ x : Int, Dk.atKey (kat m k) (.lit (.int .i64 0)) = .lit (.int .i64 x) → (l.take (k + 1)).map (Value.int .i64) = (l.take k).map (Value.int .i64) ++ [.int .i64 x]) := fun x hx => by
        rw [HK.out.done x hlt _ hx, List.take_succ_eq_append_getElem hlt, List.map_append, List.map_singleton, List.getD_eq_getElem?_getD, List.getElem?_eq_getElem hlt]; rfl
      have HDEL : Hid (Holds (kat m) (Dk.del (kat m k)) l (k + 1) l.length) := HK.out.del (kat_nos m) (by omega) hlt
      clear hbk hck
      generalize kat m k = kl at hkey HNEXT HDEL
      go_wp2_with fail
      refine c1.mono ?_
      clear c1
      rintro e w2 ⟨rfl, hb2⟩
      have hg2 : wr.grownBy w2 none := grown_of_below hb2
      have hsz : w.heap.size + 1 ≤ w2.heap.size := Nat.le_trans (hrow.lt w.heap.size rfl).2 hb2.size
      obtain ⟨KA, BA⟩ := blk_1 81 w2 #[.int .i64 bk, .int .i64 ck]
      have mapA := (hmap.kept hg2 (by simp)).alloc (.cells #[.int .i64 bk, .int .i64 ck] 81)
      have rowA := (own_below hrow hb2).alloc (.cells #[.int .i64 bk, .int .i64 ck] 81)
      have hgA := (hgr.andThen hg2 (fun j hj => by cases hj)).andThen (World.grownBy_alloc w2 (.cells #[.int .i64 bk, .int .i64 ck] 81) none) (fun j hj => by cases hj)
      have hszA : (w2.alloc (.cells #[.int .i64 bk, .int .i64 ck] 81)).heap.size = w2.heap.size + 1 := by simp
      clear hg2 hmap hrow hgr hb2 HK BA
      go_wp2_with (first
        | (at_lookup; refine wpList_lookup_own_int _ rfl _ _ 78 rfl 81 3 .i64 kLaw Try.underlying78 Try.underlying3 (intZero _) b l.length _ rfl mapA _ _ rfl hkey ?_)
        | go_in)
      intro x hat hwx
      have HN := HNEXT.out x hat
      have hnw := newc1 (w2.alloc (.cells #[.int .i64 bk, .int .i64 ck] 81)) #[.int .i64 x] 3
      rw [hszA] at hnw
      clear hat HNEXT
      go_wp2_with (at_builtin; refine wpList_append_fits _ rfl _ _ 28 rfl w.heap.size 3 i0 1 Try.underlying28 hi0 hz1 w.heap.size k l.length _ rfl (rowA.alloc _) ⟨w2.heap.size + 1, 0, none⟩ 1 1 [.int .i64 x] rfl rfl hnw (ints_oneCell .i64 [x]) (by omega) ?_)
      intro w3 ho3 hg3
      have hgx := (World.grownBy_alloc (w2.alloc (.cells #[.int .i64 bk, .int .i64 ck] 81)) (.cells #[.int .i64 x] 3) (some w.heap.size)).andThen hg3 (fun j hj => .inr hj)
      have KA3 := KA.kept hgx (by intro e; have := Option.some.inj e; omega)
      have map3 := mapA.kept hgx (by intro e; have := Option.some.inj e; omega)
      have hg33 := hgA.andThen hgx (fun j hj => by cases hj; exact .inl (Nat.le_refl _))
      rw [← List.map_take, ← HN] at ho3
      clear KA mapA rowA hgA hg3 hgx hnw hszA HN
      go_wp2_with (first
        | (with_reducible refine wp_key_load rfl _ rfl ?_; refine ⟨w2.heap.size, rfl, _, _, KA3, ?_⟩)
        | (at_delete; refine wpList_delete_own _ rfl _ _ 78 81 rfl 3 kLaw Try.underlying78 _ b l.length _ rfl map3 _ _ rfl hkey ?_)
        | go_in)
      intro w4 map4 hturn
      have hg4 := hturn.grown
      have row4 := ho3.kept hg4 (.inr (by simp [Value.ownBlock]; omega))
      have hgr4 := hg33.andThen hg4 (fun j hj => .inr hj)
      clear KA3 map3 ho3 hg33 hturn hg4 hkey
      go_wp2
      go_roundw
      case rel => exact ⟨k + 1, _, by go_num, rfl, by omega, row4, map4, HDEL, hgr4⟩
      case measure => simp [intOf]; omega
    · obtain rfl : k = l.length := by omega
      have HT : Hid ((l.take l.length).map (Value.int .i64) = l.map (Value.int .i64)) := by rw [List.take_length]; rfl
      rw [HT.out] at hrow
      go_wp2
      go_ret
      exact ⟨_, rfl, hrow, hgr⟩
end Go.Proofs.Ytmdmplphendpcaa
/- A map of cells made of a list. -/
namespace Go.Proofs.Ytmdmplphendpcaa
open Go.RowKit Go.Maps
set_option maxRecDepth 100000
set_option linter.unusedSimpArgs false
theorem run_makeMap_sized {P : Program} {t k e : TypeId} (ht : P.underlying t = some (.map k e)) (n : Int) (w : World) : (Instr.makeMap t (some (.int .i64 n))).run P w = .ok (.map (some w.heap.size)) (w.alloc (.map #[] 0)) := by
  simp [Instr.makeMap, run_underlying ht, asInt, asIntOf, Result.andThen]
theorem buildKey (a b : Int) (w : World) : (Instr.build 81 #[(0, .int .i64 a), (1, .int .i64 b)]).run Try.prog w = .ok (.agg #[.int .i64 a, .int .i64 b]) w := run_build w 81 _ _ (by kernel_rfl)
theorem wp_mapUpdate_own {H : Type} {P : Program} (w : World) {o : Oper} {a : Act} {K0 : Act → World → Prop} {Q : Exit → Act → World → Prop}
    (m x v : Operand) (t : TypeId) (hop : o.op = Op.mapUpdate t m x v)
    (k e : TypeId) (K : Keyed P k) (ht : P.underlying t = some (.map k e)) (R : Value → Option (DataW H × List MemPlace)) (b n : Nat) (D : DataW H)
    (hm : a.eval m = .map (some b)) (hown : w.ownsMap P k R b n D) (hn : n < maxLen) (key val : Value) (kl : Lit) (hx : a.eval x = key) (hv : a.eval v = val) (hkey : keyOf P k key = some kl)
    (d : DataW H) (ps : List MemPlace) (hval : R val = some (d, ps))
    (hK : ∀ w', w'.ownsMap P k R b (n + 1) (D.put kl d) → w.grownBy w' (some b) → K0 (a.put o.dst undef) w') :
    Oper.wp P o a w K0 Q := by
  obtain ⟨w', hrun, r1, r2⟩ := hown.update K ht hn hkey hval
  unfold Oper.wp
  simp [execOp, hop, hm, hx, hv, hrun, Result.andThen]
  exact hK _ r1 r2
theorem yields_rem {ops : Array Oper} {S : World → Prop} {op : Oper} {a : Act} (hw : Region.wanted op (yielded ops a.tmps) = true) (x y : Operand) (ho : op.op = .binOp .rem 3 x y 3) (m n : Nat) (hx : a.eval x = .int .i64 (m : Int)) (hy : a.eval y = .int .i64 (n : Int))
    (_ : m ≤ 1099511627776) (h2 : 0 < n) : YieldsIf Try.prog ops S op (.int .i64 ((m % n : Nat) : Int)) a :=
  .inl ⟨hw, fun w hw' => by
    have e0 : (m : Int).tmod (n : Int) = ((m % n : Nat) : Int) := rfl
    have hle : m % n ≤ m := Nat.mod_le _ _
    unfold execOp
    simp only [ho, hx, hy]
    go_simp
    omega⟩
set_option maxHeartbeats 1600000 in
theorem cellsOf_any (v : Value) (l : List Int) (m : Nat) (w : World) (h : RowI w v l) (hn : l.length ≤ 1048576) (hm : 0 < m) (hm2 : m ≤ 1048576) (hw : l.all inW = true) :
    Calls Try.prog 47 #[v, .int .i64 (m : Int)] w fun e w' => ∃ D, e = .returned (.map (some w.heap.size)) ∧ w'.ownsMap Try.prog 81 (plainElem (H := Unit) Try.prog 3) w.heap.size l.length D ∧ Holds (kat m) D l 0 l.length ∧ Below w.heap.size w w' := by
  have hmm := fun n w => run_makeMap_sized (P := Try.prog) Try.underlying78 n w
  obtain ⟨oa, cap, rfl, hc, hr⟩ := h
  have HR : Hid (0 < l.length → ∃ g o, oa = some ⟨g, o, none⟩ ∧ g < w.heap.size ∧ ∀ j, j < l.length → w.cell? ⟨g, o + j, none⟩ = some (.int .i64 (l.getD j 0))) := hr
  have HW : Hid (l.all inW = true) := hw
  clear hr hw
  go_enter Try.func47, Try.ntmps47
  go_wp2
  go_loopw [13] (fun i wr => ∃ (k : Nat) (D : DataW Unit), i = .int .i64 k ∧ k ≤ l.length ∧ Hid (wr.ownsMap Try.prog 81 (plainElem (H := Unit) Try.prog 3) w.heap.size k D ∧ Holds (kat m) D l 0 k) ∧ Below w.heap.size w wr) (fun i _ => l.length - (intOf i).toNat)
  case atStart => exact ⟨0, .map [], rfl, by omega, ⟨World.ownsMap_made _ _ _ _, Holds.empty _ _⟩, (Below.refl _ _).alloc (Nat.le_refl _) _⟩
  case round =>
    obtain ⟨k, D, rfl, hk, HD, hbr⟩ := hrel
    by_cases hlt : k < l.length
    · obtain ⟨g, o, rfl, hg, hj⟩ := HR.out (by omega)
      have ha : wr.cell? ⟨g, o + k, none⟩ = some (.int .i64 (l.getD k 0)) := (hbr.cell (p := ⟨g, o + k, none⟩) hg).trans (hj k hlt)
      obtain ⟨hx0, hx1⟩ := all_at HW.out hlt
      obtain ⟨x, hx⟩ : ∃ x, x = l.getD k 0 := ⟨_, rfl⟩
      have HXK : Hid (x = l.getD k 0) := hx
      rw [← hx] at ha hx0 hx1
      clear hj hx
      go_wp2_with fail
      refine wp_region_held_drew (S := fun _ => True) (by kernel_rfl) trivial ?_
      intro hS
      have hb3 := hbr.drew
      have HD3 : Hid (wr.drew.ownsMap Try.prog 81 (plainElem (H := Unit) Try.prog 3) w.heap.size k D) := HD.out.1.drew
      clear ha hbr
      generalize wr.drew = w3 at hb3 HD3 hS
      have hquo : (k : Int) / (m : Int) = ((k / m : Nat) : Int) := rfl
      refine takeL 0 (.map (some w.heap.size)) rfl (by kernel_rfl) (by kernel_rfl) (by kernel_rfl) (fun _ _ _ h => h) (.inl ⟨by rfl, fun w _ => by rfl⟩) hS ?_
      simp only [Act.put, List.setIfInBounds_toArray, List.set_cons_zero, List.set_cons_succ]
      refine takeL 1 (.int .i64 (k : Int)) rfl (by kernel_rfl) (by kernel_rfl) (by kernel_rfl) (fun _ _ _ h => h) (.inl ⟨by rfl, fun w _ => by rfl⟩) hS ?_
      simp only [Act.put, List.setIfInBounds_toArray, List.set_cons_zero, List.set_cons_succ]
      refine takeL 2 (.int .i64 (m : Int)) rfl (by kernel_rfl) (by kernel_rfl) (by kernel_rfl) (fun _ _ _ h => h) (.inl ⟨by rfl, fun w _ => by rfl⟩) hS ?_
      simp only [Act.put, List.setIfInBounds_toArray, List.set_cons_zero, List.set_cons_succ]
      refine takeL 3 (.int .i64 ((k : Int) / (m : Int))) rfl (by kernel_rfl) (by kernel_rfl) (by kernel_rfl) (fun _ _ _ h => h) (yields_quo (by rfl) _ _ rfl (k : Int) (m : Int) rfl rfl (by omega) (by omega) (by omega)) hS ?_
      simp only [Act.put, List.setIfInBounds_toArray, List.set_cons_zero, List.set_cons_succ, hquo]
      refine takeL 4 (.int .i64 (k : Int)) rfl (by kernel_rfl) (by kernel_rfl) (by kernel_rfl) (fun _ _ _ h => h) (.inl ⟨by rfl, fun w _ => by rfl⟩) hS ?_
      simp only [Act.put, List.setIfInBounds_toArray, List.set_cons_zero, List.set_cons_succ]
      refine takeL 5 (.int .i64 (m : Int)) rfl (by kernel_rfl) (by kernel_rfl) (by kernel_rfl) (fun _ _ _ h => h) (.inl ⟨by rfl, fun w _ => by rfl⟩) hS ?_
      simp only [Act.put, List.setIfInBounds_toArray, List.set_cons_zero, List.set_cons_succ]
      refine takeL 6 (.int .i64 ((k % m : Nat) : Int)) rfl (by kernel_rfl) (by kernel_rfl) (by kernel_rfl) (fun _ _ _ h => h) (yields_rem (by rfl) _ _ rfl k m rfl rfl (by omega) hm) hS ?_
      simp only [Act.put, List.setIfInBounds_toArray, List.set_cons_zero, List.set_cons_succ]
      refine takeL 7 (.agg #[.int .i64 ((k / m : Nat) : Int), .int .i64 ((k % m : Nat) : Int)]) rfl (by kernel_rfl) (by kernel_rfl) (by kernel_rfl) (fun _ _ _ h => h) (.inl ⟨by rfl, fun w _ => by have e := buildKey ((k / m : Nat) : Int) ((k % m : Nat) : Int) w; unfold execOp; simp only [List.map_toArray, List.map_cons, List.map_nil, Sem.run_bind]; exact (congrArg (fun r => Result.andThen r fun z w' => (pure (Next.value z) : Sem Next).run Try.prog w') e)⟩) hS ?_
      simp only [Act.put, List.setIfInBounds_toArray, List.set_cons_zero, List.set_cons_succ]
      refine takeL 8 (.int .i64 x) rfl (by kernel_rfl) (by kernel_rfl) (by kernel_rfl) (fun _ _ _ h => h) (.inl ⟨by rfl, fun w _ => by rfl⟩) hS ?_
      simp only [Act.put, List.setIfInBounds_toArray, List.set_cons_zero, List.set_cons_succ]
      refine nextL 9 rfl (by kernel_rfl) (by rfl) fun K hK => ?_
      refine wp_mapUpdate_own w3 _ _ _ 78 rfl 81 3 kLaw Try.underlying78 _ w.heap.size k D rfl HD3.out (by unfold maxLen; omega) _ _ (kat m k) rfl rfl (kat_of (by omega)) _ [] (plainElem_int Try.underlying3 (WalkArith.wf_i64 (by omega))) ?_
      intro w4 hown4 hg4
      refine hK _ _ trivial ?_
      clear hK K
      intro hS
      simp only [Act.put]
      refine wpAnyH_done (by kernel_rfl) ?_ _
      have hb4 := hb3.grown hg4 hb3.size (fun j hj => by cases hj; exact Nat.le_refl _)
      have HN : Hid (w4.ownsMap Try.prog 81 (plainElem (H := Unit) Try.prog 3) w.heap.size (k + 1) (D.put (kat m k) (.lit (.int .i64 x))) ∧ Holds (kat m) (D.put (kat m k) (.lit (.int .i64 x))) l 0 (k + 1)) := ⟨hown4, HD.out.2.put_new (kat_nos m) (by omega) x HXK.out⟩
      clear hown4 hg4 HD3 HD hb3
      go_wp2
      go_roundw
      case rel => exact ⟨k + 1, _, by go_num, by omega, HN, hb4⟩
      case measure => simp [intOf]; omega
    · obtain rfl : k = l.length := by omega
      go_wp2
      go_ret
      exact ⟨_, rfl, HD.out.1, HD.out.2, hbr⟩
end Go.Proofs.Ytmdmplphendpcaa
/- 'm[k] += v' where the key is there: the entry is found, then stored into. -/
namespace Go.Proofs.Ytmdmplphendpcaa
open Go.RowKit Go.Maps Go.ChangeMaps Go.WideElems
set_option maxRecDepth 100000
theorem setBlock_self {w : World} {b clock : Nat} {es : Array MapEntry} (h : w.heap[b]? = some (.map es clock)) : setBlock w b (.map es clock) = w := by
  have e : w.heap.setIfInBounds b (.map es clock) = w.heap := by
    apply Array.ext_getElem?
    intro i
    by_cases hi : i = b
    · subst hi
      exact (heap_setBlock_same h _).trans h.symm
    · exact heap_setBlock_other h _ hi
  unfold setBlock
  rw [e]
theorem entry_there {H : Type} {P : Program} {w : World} {t k e : TypeId} {R : Value → Option (DataW H × List MemPlace)} {b n : Nat} {D : DataW H} (h : w.ownsMap P k R b n D) (K : WideMaps.KeyLaw P k) (ht : P.underlying t = some (.map k e))
    (hn : n < maxLen) {key : Value} {kl : Lit} (hkey : keyOf P k key = some kl) (hhas : Maps.has D kl = true) :
    ∃ (v0 : Value) (st : Nat), (Instr.mapEntry t (.map (some b)) key).run P w = .ok (.tuple #[v0, goInt st]) w ∧
      ∀ {val : Value} {d : DataW H} {ps : List MemPlace}, R val = some (d, ps) → ∃ w3, (Instr.entryStore t (.map (some b)) (goInt st) val).run P w = .ok () w3 ∧ w3.ownsMap P k R b (n + 1) (D.put kl d) ∧ w.grownBy w3 (some b) := by
  have hup := fun {val : Value} {d : DataW H} {ps : List MemPlace} (hv : R val = some (d, ps)) => h.update (Keyed.of_law K) ht hn hkey hv
  obtain ⟨es, clock, hb, F, hs, hD⟩ := h
  obtain ⟨s1, s2, _⟩ := F.stamped
  rcases K.find w hkey es.toList F.keys with ⟨h1, h2⟩ | ⟨j, e0, h1, h2, h3⟩
  · exfalso
    rw [hD] at hhas
    obtain ⟨p, hp, hpk⟩ := List.any_eq_true.1 hhas
    obtain ⟨x, hx, rfl⟩ := List.mem_map.1 (mem_sorted.1 hp)
    obtain ⟨y, hy⟩ := F.reads x hx
    have m1 := rd_key hy
    have hks := WideAt.sameKey_eq hpk
    rw [rg_of hy] at hks
    rw [hks] at m1
    exact h2 x hx (K.inj m1 hkey)
  · have hj : es[j]? = some e0 := by simpa using h2
    have hsame : es.modify j (fun e => { e with key := key }) = es := by
      apply Array.ext'
      rw [Array.toList_modify, modify_eq_set _ _ _ _ h2]
      have : ({ e0 with key := key } : MapEntry) = e0 := by rw [← h3]
      rw [this]
      exact set_self _ _ _ h2
    refine ⟨e0.val, e0.born, ?_, fun {val d ps} hv => ?_⟩
    · have : (Instr.mapEntry t (.map (some b)) key).run P w = .ok (.tuple #[e0.val, goInt e0.born]) (setBlock w b (.map es clock)) := by
        simp [Instr.mapEntry, run_underlying ht, MapKept.run_getObj_map hb, K.check w false hkey, h1, hj, h3, K.stays w hkey, hsame, MapKept.run_setObj_map _ hb, Result.andThen, setBlock]
      rw [this, setBlock_self hb]
    · obtain ⟨w3, r1, r2, r3⟩ := hup hv
      refine ⟨w3, ?_, r2, r3⟩
      have hidx : es.findIdx? (fun e => ((e.born : Nat) : Int) == ((e0.born : Nat) : Int)) = some j := by
        rw [findIdx_arr]
        exact findIdx_born s2 h2
      have hmod : es.modify j (fun e => { e with val := val }) = es.modify j (fun e' => { e' with key := key, val := val }) := by
        apply Array.ext'
        rw [Array.toList_modify, Array.toList_modify, modify_eq_set _ _ _ _ h2, modify_eq_set _ _ _ _ h2, ← h3]
      have e1 : (Instr.entryStore t (.map (some b)) (goInt e0.born) val).run P w = .ok () (setBlock w b (.map (es.modify j (fun e' => { e' with key := key, val := val })) clock)) := by
        simp [Instr.entryStore, MapKept.run_getObj_map hb, asInt, asIntOf, goInt, hidx, hmod, MapKept.run_setObj_map _ hb, Result.andThen, setBlock]
      have e2 : (Instr.mapUpdate t (.map (some b)) key val).run P w = .ok () (setBlock w b (.map (es.modify j (fun e' => { e' with key := key, val := val })) clock)) := by
        simp [Instr.mapUpdate, run_underlying ht, MapKept.run_getObj_map hb, K.check w false hkey, h1, hj, h3, K.stays w hkey, MapKept.run_setObj_map _ hb, Result.andThen, setBlock]
      rw [e1, ← e2, r1]
theorem kLaw0 : WideMaps.KeyLaw Try.prog 81 := deep_law_laid kLaid (m := 2) (by omega) kRow (by kernel_rfl) kWide
theorem owns_tight {H : Type} {P : Program} {w : World} {k : TypeId} {R : Value → Option (DataW H × List MemPlace)} {b n : Nat} {D : DataW H} (h : w.ownsMap P k R b n D) : w.ownsMap P k R b (Maps.size D) D := by
  obtain ⟨es, clock, hb, F, hs, rfl⟩ := h
  exact ⟨es, clock, hb, F, by simp [Maps.size, length_sorted], rfl⟩
theorem intZ (w : World) : (zeroValue 3).run Try.prog w = .ok (.int .i64 0) w := by kernel_rfl
theorem yields_look {ops : Array Oper} {S : World → Prop} {op : Oper} {a : Act} (hw : Region.wanted op (yielded ops a.tmps) = true) (m x : Operand) (ho : op.op = .lookup 78 m x false) (b : Nat) (hm : a.eval m = .map (some b)) (key : Value) (hx : a.eval x = key) (z : Int)
    (hS : ∀ w, S w → ∃ (n : Nat) (D : DataW Unit) (kl : Lit), w.ownsMap Try.prog 81 (plainElem (H := Unit) Try.prog 3) b n D ∧ keyOf Try.prog 81 key = some kl ∧ D.atKey kl (.lit (.int .i64 0)) = .lit (.int .i64 z)) : YieldsIf Try.prog ops S op (.int .i64 z) a :=
  .inl ⟨hw, fun w hw' => by
    obtain ⟨n, D, kl, h1, h2, h3⟩ := hS w hw'
    obtain ⟨c, hrun, hat, _⟩ := h1.lookup_int kLaw Try.underlying78 Try.underlying3 (intZ w) h2
    have hc : c = z := by rw [h3] at hat; simpa using hat.symm
    subst hc
    unfold execOp
    simp [ho, hm, hx, hrun, Result.andThen]⟩
theorem wp_entry {o : Oper} {a : Act} {w : World} {K : Act → World → Prop} {Q : Exit → Act → World → Prop} (m x : Operand) (t : TypeId) (ho : o.op = .mapEntry t m x) (mv key v : Value) (hm : a.eval m = mv) (hx : a.eval x = key)
    (h : (Instr.mapEntry t mv key).run Try.prog w = .ok v w) (hK : K (a.put o.dst v) w) : Oper.wp Try.prog o a w K Q := by
  unfold Oper.wp
  simp [execOp, ho, hm, hx, h, Result.andThen]
  exact hK
theorem wp_entryStore {o : Oper} {a : Act} {w w3 : World} {K : Act → World → Prop} {Q : Exit → Act → World → Prop} (m x y : Operand) (t : TypeId) (ho : o.op = .entryStore t m x y) (mv st val : Value) (hm : a.eval m = mv) (hx : a.eval x = st) (hy : a.eval y = val)
    (h : (Instr.entryStore t mv st val).run Try.prog w = .ok () w3) (hK : K (a.put o.dst undef) w3) : Oper.wp Try.prog o a w K Q := by
  unfold Oper.wp
  simp [execOp, ho, hm, hx, hy, h, Result.andThen]
  exact hK
end Go.Proofs.Ytmdmplphendpcaa
