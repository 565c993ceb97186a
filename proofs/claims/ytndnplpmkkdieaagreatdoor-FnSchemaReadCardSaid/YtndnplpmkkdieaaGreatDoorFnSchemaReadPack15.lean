/- Texts of this claim, put together: part 15. -/
import Derived.Test.YtndnplpmkkdieaaGreatDoorRows
import Derived.WalkKit
import Derived.ProofKit
import Derived.OpenShut
import Derived.Deep.RegionHeld3
import Derived.Test.YtndnplpmkkdieaaGreatDoorFnSchemaReadPack14
import Derived.Test.YtndnplpmkkdieaaGreatDoorFnSchemaReadPack5
import Derived.WalkSpells
import Derived.Test.YtndnplpmkkdieaaGreatDoorFnSchemaReadPack3
import Derived.Test.YtndnplpmkkdieaaGreatDoorFnSchemaReadPack2
/- In a region that draws its order: what may be taken first, what comes next. -/
namespace Go.Proofs.YtndnplpmkkdieaaGreatDoor
open Go.RowKit
set_option maxRecDepth 100000

section
variable {Pr : Program} {ops : Array Oper} {Q : Exit → Act → World → Prop} {md : Region.Mode} {S : World → Prop}
/-- An operation that may come up now is taken first; it is read off the list, so that it stands written out. -/
theorem takeL (i : Nat) {oi : Oper} (v : Value) {fuel : Nat} {listed : Array Bool} {a : Act} {w : World} (hi : ops.toList[i]? = some oi)
    (hs : Region.noSelect ops = true) (hf : Region.free md ops listed i = true) (hr : (Region.ready md ops listed).contains i = true)
    (hQ : ∀ c a w, Q (.panic c) (a.put oi.dst v) w → Q (.panic c) a w) (hy : YieldsIf Pr ops S oi v a) (hS : S w)
    (h : wpAnyH Pr md ops Q S fuel (listed.setIfInBounds i true) (a.put oi.dst v) w) : wpAnyH Pr md ops Q S (fuel + 1) listed a w :=
  wpAnyH_take (by simpa using hi) hs hf hr hQ hy hS h
/-- The one operation that may come up now. -/
theorem nextL (i : Nat) {oi : Oper} {fuel : Nat} {listed : Array Bool} {a : Act} {w : World} (hi : ops.toList[i]? = some oi) (hr : Region.ready md ops listed = [i])
    (hw : Region.wanted oi (yielded ops a.tmps) = true)
    (h : ∀ K' : Act → World → Prop, (∀ a w, S w → (S w → wpAnyH Pr md ops Q S fuel (listed.setIfInBounds i true) a w) → K' a w) → Oper.wp Pr oi a w K' Q) : wpAnyH Pr md ops Q S (fuel + 1) listed a w := by
  refine wpAnyH_ready hr (by simp) (AllReadyH.cons (o := oi) (by simpa using hi) (fun K hK => ?_) AllReadyH.nil)
  rw [if_pos hw]
  exact h K hK.out
/-- Two may come up now, in either order. -/
theorem next2L (i j : Nat) {oi oj : Oper} {fuel : Nat} {listed : Array Bool} {a : Act} {w : World} (hi : ops.toList[i]? = some oi) (hj : ops.toList[j]? = some oj) (hr : Region.ready md ops listed = [i, j])
    (hw : Region.wanted oi (yielded ops a.tmps) = true) (hw2 : Region.wanted oj (yielded ops a.tmps) = true)
    (h : ∀ K' : Act → World → Prop, (∀ a w, S w → (S w → wpAnyH Pr md ops Q S fuel (listed.setIfInBounds i true) a w) → K' a w) → Oper.wp Pr oi a w K' Q)
    (h2 : ∀ K' : Act → World → Prop, (∀ a w, S w → (S w → wpAnyH Pr md ops Q S fuel (listed.setIfInBounds j true) a w) → K' a w) → Oper.wp Pr oj a w K' Q) : wpAnyH Pr md ops Q S (fuel + 1) listed a w := by
  refine wpAnyH_ready hr (by simp) (AllReadyH.cons (o := oi) (by simpa using hi) (fun K hK => ?_) (AllReadyH.cons (o := oj) (by simpa using hj) (fun K hK => ?_) AllReadyH.nil))
  · rw [if_pos hw]
    exact h K hK.out
  · rw [if_pos hw2]
    exact h2 K hK.out
end

section
variable {ops : Array Oper} {S : World → Prop} {op : Oper} {a : Act}
/-- The load of one integer. -/
theorem yields_int (hw : Region.wanted op (yielded ops a.tmps) = true) (x : Operand) (ho : op.op = .load 3 x) (p : Addr) (hx : a.eval x = .pointer (some p)) (n : Int)
    (hS : ∀ w, S w → w.cell? p = some (.int .i64 n)) : YieldsIf Tryz.prog ops S op (.int .i64 n) a :=
  .inl ⟨hw, fun w hw' => by
    have h := hS w hw'
    unfold execOp
    simp only [ho, hx]
    go_simp⟩
/-- A quotient. -/
theorem yields_quo (hw : Region.wanted op (yielded ops a.tmps) = true) (x y : Operand) (ho : op.op = .binOp .quo 3 x y 3) (m n : Int) (hx : a.eval x = .int .i64 m) (hy : a.eval y = .int .i64 n)
    (h0 : 0 ≤ m) (h1 : m ≤ 9223372036854775807) (h2 : 0 < n) : YieldsIf Tryz.prog ops S op (.int .i64 (m / n)) a :=
  .inl ⟨hw, fun w hw' => by
    have hle : m / n ≤ m := Int.ediv_le_self _ h0
    have hge : 0 ≤ m / n := Int.ediv_nonneg h0 (by omega)
    unfold execOp
    simp only [ho, hx, hy]
    go_simp
    have e : IntKind.i64.wrap (m.tdiv n) = m / n := by rw [IntKind.wrap_i64, Int.tdiv_eq_ediv_of_nonneg h0]; omega
    rw [if_neg (by omega), e]⟩
/-- Two texts, one behind the other. -/
theorem yields_cat (hw : Region.wanted op (yielded ops a.tmps) = true) (x y : Operand) (ho : op.op = .binOp .add 9 x y 9) (s t : ByteArray) (hx : a.eval x = .string s) (hy : a.eval y = .string t)
    (h : s.size + t.size ≤ 1000000) : YieldsIf Tryz.prog ops S op (.string (s ++ t)) a :=
  .inl ⟨hw, fun w hw' => by
    unfold execOp
    simp only [ho, hx, hy]
    go_simp
    omega⟩
end
end Go.Proofs.YtndnplpmkkdieaaGreatDoor
/- An attribute's text taken apart at its first sign, by the program. -/
namespace Go.Proofs.YtndnplpmkkdieaaGreatDoor
open Go.RowKit
set_option maxRecDepth 100000

theorem cont_high {s : ByteArray} {p : Nat} (h : (decide (p < s.size) && (s.get! p).toNat / 64 == 2) = true) : ∃ hk : p < s.size, 128 ≤ (s[p]'hk).toNat := by
  rw [Bool.and_eq_true, decide_eq_true_eq, beq_iff_eq] at h
  refine ⟨h.1, ?_⟩
  have e : s.get! p = s[p]'h.1 := get_at s p h.1
  have h2 := h.2
  rw [e] at h2
  omega
/-- A character of several bytes: none of them is a sign of ASCII. -/
def Skips (s : ByteArray) (pos n : Nat) : Prop := pos + n ≤ s.size ∧ ∀ j (hj : j < s.size), pos ≤ j → j < pos + n → 128 ≤ (s[j]'hj).toNat
theorem skips_one {s : ByteArray} {pos : Nat} (h : pos < s.size) (ha : 128 ≤ (s[pos]'h).toNat) : Skips s pos 1 := by
  refine ⟨by omega, fun j hj h1 h2 => ?_⟩
  obtain rfl : j = pos := by omega
  exact ha
theorem skips_more {s : ByteArray} {pos n : Nat} (h : Skips s pos n) (hc : (decide (pos + n < s.size) && (s.get! (pos + n)).toNat / 64 == 2) = true) : Skips s pos (n + 1) := by
  obtain ⟨hk, hb⟩ := cont_high hc
  refine ⟨by omega, fun j hj h1 h2 => ?_⟩
  by_cases e : j = pos + n
  · subst e; exact hb
  · exact h.2 j hj h1 (by omega)
theorem decode_skip (s : ByteArray) (pos : Nat) (h : pos < s.size) (ha : 128 ≤ (s[pos]'h).toNat) : Skips s pos (Utf8.decode s pos).2 := by
  have hn : ¬ (s[pos]'h).toNat < 128 := by omega
  have one := skips_one h ha
  simp only [Utf8.decode, get_at s pos h, hn, if_false]
  repeat' split
  all_goals first | exact one | skip
  · rename_i c _
    rw [Bool.and_eq_true] at c
    exact skips_more one c.2
  · rename_i c _
    rw [Bool.and_eq_true, Bool.and_eq_true] at c
    exact skips_more (skips_more one c.1.2) c.2
  · rename_i c _
    rw [Bool.and_eq_true, Bool.and_eq_true, Bool.and_eq_true] at c
    exact skips_more (skips_more (skips_more one c.1.1.2) c.1.2) c.2

theorem get_list (s : ByteArray) (k : Nat) (h : k < s.size) : s.data.toList[k]? = some (s[k]'h) := by
  have h2 : k < s.data.toList.length := by simpa using h
  rw [List.getElem?_eq_getElem h2]; rfl
theorem sign_none {s : ByteArray} (h : ∀ j (hj : j < s.size), isSign (s[j]'hj) = false) : s.data.toList.findIdx? isSign = none := by
  rw [List.findIdx?_eq_none_iff]
  intro c hc
  obtain ⟨j, hj, rfl⟩ := List.mem_iff_getElem.1 hc
  exact h j (by simpa using hj)
theorem sign_some {s : ByteArray} {k : Nat} (hk : k < s.size) (h : ∀ j (hj : j < s.size), j < k → isSign (s[j]'hj) = false) (hs : isSign (s[k]'hk) = true) : s.data.toList.findIdx? isSign = some k := by
  rw [List.findIdx?_eq_some_iff_getElem]
  refine ⟨by simpa using hk, hs, fun j hj => ?_⟩
  have := h j (by omega) hj
  rw [Bool.not_eq_true]
  exact this
theorem read_sign {s : ByteArray} {k : Nat} (hk : k < s.size) (h : ∀ j (hj : j < s.size), j < k → isSign (s[j]'hj) = false) (hs : isSign (s[k]'hk) = true) : attrReadI s = readI s k := by
  unfold attrReadI; rw [sign_some hk h hs]
theorem read_eq {s : ByteArray} {k : Nat} (hk : k < s.size) (hs : s[k]'hk = 61) : readI s k = (⟨s.extract 0 k, [], pieces 44 (s.extract (k + 1) s.size)⟩, true) := by
  unfold readI
  rw [if_pos (by rw [List.getD_eq_getElem?_getD, get_list s k hk, hs]; rfl)]
theorem read_col0 {s : ByteArray} {k : Nat} (hk : k < s.size) (hs : s[k]'hk = 58) (hn : numsOf (pieces 44 (s.extract (k + 1) s.size)) = none) : readI s k = (⟨s.extract 0 k, [], []⟩, false) := by
  unfold readI
  rw [if_neg (by rw [List.getD_eq_getElem?_getD, get_list s k hk, hs]; decide), hn]
theorem read_col1 {s : ByteArray} {k : Nat} {zs : List Int} (hk : k < s.size) (hs : s[k]'hk = 58) (hn : numsOf (pieces 44 (s.extract (k + 1) s.size)) = some zs) : readI s k = (⟨s.extract 0 k, zs, []⟩, true) := by
  unfold readI
  rw [if_neg (by rw [List.getD_eq_getElem?_getD, get_list s k hk, hs]; decide), hn]
theorem read_none {s : ByteArray} (h : ∀ j (hj : j < s.size), isSign (s[j]'hj) = false) : attrReadI s = (⟨⟨#[]⟩, [], []⟩, false) := by
  unfold attrReadI; rw [sign_none h]

section
variable {ops : Array Oper} {S : World → Prop} {op : Oper} {a : Act}
theorem yields_move (hw : Region.wanted op (yielded ops a.tmps) = true) (x : Operand) (ho : op.op = .move x) (v : Value) (hx : a.eval x = v) : YieldsIf Tryz.prog ops S op v a :=
  .inl ⟨hw, fun w _ => by unfold execOp; simp only [ho, hx]; go_simp⟩
theorem yields_to (hw : Region.wanted op (yielded ops a.tmps) = true) (x y : Operand) (ho : op.op = .slice 9 x none (some y) none) (s : ByteArray) (k : Nat) (hx : a.eval x = .string s) (hy : a.eval y = .int .i64 k) (hk : k ≤ s.size) :
    YieldsIf Tryz.prog ops S op (.string (s.extract 0 k)) a :=
  .inl ⟨hw, fun w _ => by unfold execOp; simp only [ho, Option.map, hx, hy]; go_simp⟩
theorem yields_from (hw : Region.wanted op (yielded ops a.tmps) = true) (x y : Operand) (ho : op.op = .slice 9 x (some y) none none) (s : ByteArray) (k : Nat) (n : Int) (hn : n = (k : Int)) (hx : a.eval x = .string s) (hy : a.eval y = .int .i64 n) (hk : k ≤ s.size) :
    YieldsIf Tryz.prog ops S op (.string (s.extract k s.size)) a :=
  .inl ⟨hw, fun w _ => by subst hn; unfold execOp; simp only [ho, Option.map, hx, hy]; go_simp⟩
theorem yields_inc (hw : Region.wanted op (yielded ops a.tmps) = true) (x y : Operand) (ho : op.op = .binOp .add 3 x y 3) (m : Int) (hx : a.eval x = .int .i64 m) (hy : a.eval y = .int .i64 1) (h0 : 0 ≤ m) (h1 : m ≤ 1048576) :
    YieldsIf Tryz.prog ops S op (.int .i64 (m + 1)) a :=
  .inl ⟨hw, fun w _ => by
    unfold execOp
    simp only [ho, hx, hy]
    go_simp
    rw [IntKind.wrap_i64]; omega⟩
end
end Go.Proofs.YtndnplpmkkdieaaGreatDoor
/- An attribute's text taken apart at its first sign, by the program: the walk. -/
namespace Go.Proofs.YtndnplpmkkdieaaGreatDoor
open Go.RowKit
set_option maxRecDepth 100000

theorem sg_no {c : UInt8} (h1 : ¬ (c.toNat : Int) = 61) (h2 : ¬ (c.toNat : Int) = 58) : isSign c = false := by
  unfold isSign
  rw [Bool.or_eq_false_iff, beq_eq_false_iff_ne, beq_eq_false_iff_ne]
  exact ⟨fun e => h1 (by rw [e]; rfl), fun e => h2 (by rw [e]; rfl)⟩
theorem sg_high {c : UInt8} (h : 128 ≤ c.toNat) : isSign c = false := sg_no (by omega) (by omega)
theorem sg_eq {c : UInt8} (h : (c.toNat : Int) = 61) : c = 61 := by
  apply UInt8.toNat_inj.1
  show c.toNat = 61
  omega
theorem sg_col {c : UInt8} (h : (c.toNat : Int) = 58) : c = 58 := by
  apply UInt8.toNat_inj.1
  show c.toNat = 58
  omega
theorem below_it (w : World) (o : Obj) (s : ByteArray) (p : Nat) : Below w.heap.size w ((w.alloc o).iter s p) := ((Below.refl _ _).alloc (Nat.le_refl _) _).alloc (by simp) _
theorem blk_it {t : TypeId} (w : World) (c : Array Value) (s : ByteArray) (p : Nat) : Blk t ((w.alloc (.cells c t)).iter s p) w.heap.size c := (Blk.new t w c).alloc _

theorem nx_end (w : World) (o : Obj) (s : ByteArray) (k : Nat) (h : ¬ k < s.size) (ty : TypeId) : (Instr.next (.pointer (some ⟨w.heap.size + 1, 0, none⟩)) true ty).run Tryz.prog ((w.alloc o).iter s k) = .ok (.tuple #[.bool false]) ((w.alloc o).iter s k) := by
  have := run_next_end (P := Tryz.prog) (w.alloc o) s k ty h
  rwa [World.size_alloc] at this
theorem nx_ascii (w : World) (o : Obj) (s : ByteArray) (k : Nat) (h : k < s.size) (ha : (s[k]'h).toNat < 128) (ty : TypeId) : (Instr.next (.pointer (some ⟨w.heap.size + 1, 0, none⟩)) true ty).run Tryz.prog ((w.alloc o).iter s k) = .ok (.tuple #[.bool true, .int .i64 k, .int .i32 (s[k]'h).toNat]) ((w.alloc o).iter s (k + 1)) := by
  have := run_next_ascii (P := Tryz.prog) (w.alloc o) s k ty h ha
  rwa [World.size_alloc] at this
theorem nx_any (w : World) (o : Obj) (s : ByteArray) (k : Nat) (h : k < s.size) (ty : TypeId) : (Instr.next (.pointer (some ⟨w.heap.size + 1, 0, none⟩)) true ty).run Tryz.prog ((w.alloc o).iter s k) = .ok (.tuple #[.bool true, .int .i64 k, .int .i32 (Utf8.decode s k).1]) ((w.alloc o).iter s (k + (Utf8.decode s k).2)) := by
  have := run_next_any (P := Tryz.prog) (w.alloc o) s k ty h
  rwa [World.size_alloc] at this

theorem res_at1 {fn : Func} {p q : Tmp} (h : fn.results = #[.cell p 41, .tmp q]) (tmps : Array Value) (w : World) (g : Nat) (c0 c1 c2 v : Value)
    (hp : tmps.getD p undef = .pointer (some ⟨g, 0, none⟩)) (hq : tmps.getD q undef = v) (hg : Blk 41 w g #[c0, c1, c2]) : (results fn tmps).run Tryz.prog w = .ok (.tuple #[.agg #[c0, c1, c2], v]) w := by
  have hp' : tmps[p]?.getD undef = .pointer (some ⟨g, 0, none⟩) := by simpa using hp
  have hq' : tmps[q]?.getD undef = v := by simpa using hq
  simp [results, h, hp', hq', asAddr, run_loadVar_row w g _ 41 _ _ _ hg Tryz.underlying41 rfl attr_size]
theorem it_pos (w : World) (o : Obj) (s : ByteArray) (k : Nat) : ((w.alloc o).iter s k).iterPos (w.heap.size + 1) = k := by
  have h := World.iterPos_iter (w.alloc o) s k
  rwa [World.size_alloc] at h
theorem own_nilI (w : World) (b : Nat) : w.ownsRow b 3 1 (.slice none 0 0) ([] : List Int).length (([] : List Int).map (Value.int .i64)) := ⟨by simp, .inl ⟨rfl, rfl⟩⟩
theorem own_nilS (w : World) (b : Nat) : w.ownsRow b 9 1 (.slice none 0 0) ([] : List ByteArray).length (([] : List ByteArray).map Value.string) := ⟨by simp, .inl ⟨rfl, rfl⟩⟩

/-- One of the two lists is nil. -/
def OneNil (v : Value) : Prop := ∃ n vc vv, v = .agg #[n, vc, vv] ∧ (vc = .slice none 0 0 ∨ vv = .slice none 0 0)
set_option maxHeartbeats 3200000 in
theorem attrRead_any (s : ByteArray) (u : TypeId) (ev : Value) (m : Int) (w : World) (hs : s.size ≤ 1048576) (hE : Env u ev m w) :
    Calls Tryz.prog 41 #[.string s] w fun e w' => ∃ v, e = .returned (.tuple #[v, .bool (attrReadI s).2]) ∧ OwnA w.heap.size w' v (attrReadI s).1 ∧ OneNil v ∧ Below w.heap.size w w' := by
  have HE : Hid (Env u ev m w) := hE
  clear hE
  go_enter Tryz.func41, Tryz.ntmps41
  go_wp2
  go_loopw [] (fun wr => ∃ k : Nat, k ≤ s.size ∧ (∀ j (hj : j < s.size), j < k → isSign (s[j]'hj) = false) ∧ wr = (w.alloc (.cells #[.string ⟨#[]⟩, .slice none 0 0, .slice none 0 0] 41)).iter s k) (fun wr => s.size - wr.iterPos (w.heap.size + 1))
  case atStart => exact ⟨0, by omega, by omega, rfl⟩
  case round =>
    obtain ⟨k, hk, hal, rfl⟩ := hrel
    have HA : Hid (∀ j (hj : j < s.size), j < k → isSign (s[j]'hj) = false) := hal
    clear hal
    by_cases hlt : k < s.size
    rotate_left
    · have HF : Hid (attrReadI s = (⟨⟨#[]⟩, [], []⟩, false)) := read_none fun j hj => HA.out j hj (by omega)
      have hnx := nx_end w (.cells #[.string ⟨#[]⟩, .slice none 0 0, .slice none 0 0] 41) s k hlt
      have HB : Hid (Blk 41 ((w.alloc (.cells #[.string ⟨#[]⟩, .slice none 0 0, .slice none 0 0] 41)).iter s k) w.heap.size #[.string ⟨#[]⟩, .slice none 0 0, .slice none 0 0]) := blk_it w _ s k
      go_wp2_with (with_reducible refine wp_at_store rfl _ _ rfl ?_; refine ⟨_, rfl, _, _, _, _, _, _, _, rfl, _, _, _, HB.out, ?_⟩)
      refine bodyPost_ret (res_at1 Tryz.results41 _ _ _ _ _ _ _ rfl rfl (HB.out.setRow _)) rfl ?_
      rw [HF.out]
      exact ⟨_, rfl, ⟨_, _, rfl, own_nilI _ _, own_nilS _ _⟩, ⟨_, _, _, rfl, .inl rfl⟩, below_row (below_it _ _ _ _) (Nat.le_refl _) _⟩
    by_cases ha : s[k].toNat < 128
    rotate_left
    · have hnx := nx_any w (.cells #[.string ⟨#[]⟩, .slice none 0 0, .slice none 0 0] 41) s k hlt
      obtain ⟨hd1, hd2⟩ := decode_high s k hlt (by omega)
      obtain ⟨hk1, hk2⟩ := decode_skip s k hlt (by omega)
      have HK2 : Hid (∀ j (hj : j < s.size), k ≤ j → j < k + (Utf8.decode s k).2 → 128 ≤ (s[j]'hj).toNat) := hk2
      clear hk2
      generalize (Utf8.decode s k).1 = r at hnx hd1
      generalize (Utf8.decode s k).2 = d at hnx hd2 hk1 HK2
      have g1 : ((r : Int) == 61) = false := by rw [beq_eq_false_iff_ne]; omega
      have g2 : ((r : Int) == 58) = false := by rw [beq_eq_false_iff_ne]; omega
      go_wp2
      go_roundw
      case rel =>
        refine ⟨k + d, hk1, ?_, rfl⟩
        intro j hj hjk
        by_cases e : j < k
        · exact HA.out j hj e
        · exact sg_high (HK2.out j hj (by omega) hjk)
      case measure => rw [it_pos, it_pos]; omega
    have hnx := nx_ascii w (.cells #[.string ⟨#[]⟩, .slice none 0 0, .slice none 0 0] 41) s k hlt ha
    by_cases c1 : (s[k].toNat : Int) = 61
    · have hc := sg_eq c1
      have HF : Hid (attrReadI s = (⟨s.extract 0 k, [], pieces 44 (s.extract (k + 1) s.size)⟩, true)) := (read_sign hlt HA.out (by rw [hc]; decide)).trans (read_eq hlt hc)
      have hq : ((s[k].toNat : Int) == 61) = true := by rw [c1]; rfl
      clear c1 hc
      generalize (s[k].toNat : Int) = n at hnx hq
      go_wp2
      clear hnx hq
      have K0 : Blk 41 ((w.alloc (.cells #[.string ⟨#[]⟩, .slice none 0 0, .slice none 0 0] 41)).iter s (k + 1)) w.heap.size #[.string ⟨#[]⟩, .slice none 0 0, .slice none 0 0] := blk_it w _ s (k + 1)
      have B0 := below_it w (.cells #[.string ⟨#[]⟩, .slice none 0 0, .slice none 0 0] 41) s (k + 1)
      generalize (w.alloc (.cells #[.string ⟨#[]⟩, .slice none 0 0, .slice none 0 0] 41)).iter s (k + 1) = W1 at K0 B0
      refine wp_region_held_drew (S := fun w' => ∃ c0 c1 c2, Blk 41 w' w.heap.size #[c0, c1, c2]) (by kernel_rfl) ⟨_, _, _, K0⟩ ?_
      intro hS
      have K1 : Blk 41 W1.drew w.heap.size #[.string ⟨#[]⟩, .slice none 0 0, .slice none 0 0] := K0
      have B1 := B0.drew
      clear K0 B0
      generalize W1.drew = W2 at hS K1 B1
      refine takeL 0 (.string s) rfl (by kernel_rfl) (by kernel_rfl) (by kernel_rfl) (fun _ _ _ h => h) (yields_move (by rfl) _ rfl _ rfl) hS ?_
      simp only [Act.put, List.setIfInBounds_toArray, List.set_cons_zero, List.set_cons_succ]
      refine takeL 1 (.int .i64 k) rfl (by kernel_rfl) (by kernel_rfl) (by kernel_rfl) (fun _ _ _ h => h) (yields_move (by rfl) _ rfl _ rfl) hS ?_
      simp only [Act.put, List.setIfInBounds_toArray, List.set_cons_zero, List.set_cons_succ]
      refine takeL 2 (.string (s.extract 0 k)) rfl (by kernel_rfl) (by kernel_rfl) (by kernel_rfl) (fun _ _ _ h => h) (yields_to (by rfl) _ _ rfl s k rfl rfl hk) hS ?_
      simp only [Act.put, List.setIfInBounds_toArray, List.set_cons_zero, List.set_cons_succ]
      refine takeL 4 (.string s) rfl (by kernel_rfl) (by kernel_rfl) (by kernel_rfl) (fun _ _ _ h => h) (yields_move (by rfl) _ rfl _ rfl) hS ?_
      simp only [Act.put, List.setIfInBounds_toArray, List.set_cons_zero, List.set_cons_succ]
      refine takeL 5 (.int .i64 k) rfl (by kernel_rfl) (by kernel_rfl) (by kernel_rfl) (fun _ _ _ h => h) (yields_move (by rfl) _ rfl _ rfl) hS ?_
      simp only [Act.put, List.setIfInBounds_toArray, List.set_cons_zero, List.set_cons_succ]
      refine takeL 6 (.int .i64 ((k : Int) + 1)) rfl (by kernel_rfl) (by kernel_rfl) (by kernel_rfl) (fun _ _ _ h => h) (yields_inc (by rfl) _ _ rfl k rfl rfl (by omega) (by omega)) hS ?_
      simp only [Act.put, List.setIfInBounds_toArray, List.set_cons_zero, List.set_cons_succ]
      refine takeL 7 (.string (s.extract (k + 1) s.size)) rfl (by kernel_rfl) (by kernel_rfl) (by kernel_rfl) (fun _ _ _ h => h) (yields_from (by rfl) _ _ rfl s (k + 1) _ (by omega) rfl rfl hlt) hS ?_
      simp only [Act.put, List.setIfInBounds_toArray, List.set_cons_zero, List.set_cons_succ]
      have z1 : (s.extract 0 k).size ≤ 1048576 := by rw [ByteArray.size_extract]; omega
      have z2 : (s.extract (k + 1) s.size).size ≤ 1048576 := by rw [ByteArray.size_extract]; omega
      refine nextL 3 rfl (by kernel_rfl) (by rfl) fun K hK => ?_
      have dd := clone_any (s.extract 0 k) W2 z1
      go_simp
      refine dd.mono ?_
      rintro e W3 ⟨rfl, hb3⟩
      refine hK _ _ ⟨_, _, _, K1.below hb3⟩ ?_
      clear hK K dd hS
      intro hS
      have B3 := B1.trans (hb3.mono B1.size)
      have K3 := K1.below hb3
      clear B1 hb3 K1
      refine nextL 8 rfl (by kernel_rfl) (by rfl) fun K hK => ?_
      have dd := iParts_any (s.extract (k + 1) s.size) 44 u ev m W3 z2 (HE.out.later B3)
      generalize pieces 44 (s.extract (k + 1) s.size) = ps at dd HF
      go_simp
      refine dd.mono ?_
      rintro e W4 ⟨v4, rfl, ho4, hb4⟩
      refine hK _ _ ⟨_, _, _, K3.below hb4⟩ ?_
      clear hK K dd hS
      intro hS
      have B4 := B3.trans (hb4.mono B3.size)
      have K4 := K3.below hb4
      have l3 := K3.lt
      have ho4 := own_base ho4 (b' := w.heap.size + 1) (by omega)
      clear B3 hb4 K3
      obtain ⟨oa, ca, rfl, -, -⟩ := RowS.of_own ho4 rfl
      refine takeL 9 (.agg #[.string (s.extract 0 k), .slice none 0 0, .slice oa ps.length ca]) rfl (by kernel_rfl) (by kernel_rfl) (by kernel_rfl) (fun _ _ _ h => h) (.inl ⟨by rfl, fun w _ => by unfold execOp; go_simp⟩) hS ?_
      simp only [Act.put, List.setIfInBounds_toArray, List.set_cons_zero, List.set_cons_succ]
      refine nextL 10 rfl (by kernel_rfl) (by rfl) fun K hK => ?_
      refine wp_store_row 41 _ _ rfl w.heap.size #[.string (s.extract 0 k), .slice none 0 0, .slice oa ps.length ca] rfl rfl _ _ K4 attr_size rfl (by simp [Value.oneCell']) ?_
      refine hK _ _ ⟨_, _, _, K4.setRow _⟩ ?_
      clear hK K hS
      intro hS
      refine takeL 11 (.bool true) rfl (by kernel_rfl) (by kernel_rfl) (by kernel_rfl) (fun _ _ _ h => h) (.inl ⟨by rfl, fun w _ => by rfl⟩) hS ?_
      simp only [Act.put, List.setIfInBounds_toArray, List.set_cons_zero, List.set_cons_succ]
      clear hS
      refine wpAnyH_done (by kernel_rfl) ?_ _
      go_wp2
      refine bodyPost_ret (res_at1 Tryz.results41 _ _ _ _ _ _ _ rfl rfl (K4.setRow _)) rfl ?_
      rw [HF.out]
      refine ⟨_, rfl, ⟨_, _, rfl, own_nilI _ _, ?_⟩, ⟨_, _, _, rfl, .inl rfl⟩, below_row B4 (Nat.le_refl _) _⟩
      exact own_base (own_setRow ho4 _ _ (by omega)) (by omega)
    by_cases c2 : (s[k].toNat : Int) = 58
    · have hc := sg_col c2
      have HR : Hid (attrReadI s = readI s k) := read_sign hlt HA.out (by rw [hc]; decide)
      have HC0 : Hid (numsOf (pieces 44 (s.extract (k + 1) s.size)) = none → readI s k = (⟨s.extract 0 k, [], []⟩, false)) := fun h => read_col0 hlt hc h
      have HC1 : Hid (∀ zs, numsOf (pieces 44 (s.extract (k + 1) s.size)) = some zs → readI s k = (⟨s.extract 0 k, zs, []⟩, true)) := fun zs h => read_col1 hlt hc h
      have hq1 : ((s[k].toNat : Int) == 61) = false := by rw [beq_eq_false_iff_ne]; exact c1
      have hq : ((s[k].toNat : Int) == 58) = true := by rw [c2]; rfl
      clear c1 c2 hc
      generalize (s[k].toNat : Int) = n at hnx hq hq1
      have K0 : Blk 41 ((w.alloc (.cells #[.string ⟨#[]⟩, .slice none 0 0, .slice none 0 0] 41)).iter s (k + 1)) w.heap.size #[.string ⟨#[]⟩, .slice none 0 0, .slice none 0 0] := blk_it w _ s (k + 1)
      have B0 := below_it w (.cells #[.string ⟨#[]⟩, .slice none 0 0, .slice none 0 0] 41) s (k + 1)
      have z1 : (s.extract 0 k).size ≤ 1048576 := by rw [ByteArray.size_extract]; omega
      have z2 : (s.extract (k + 1) s.size).size ≤ 1048576 := by rw [ByteArray.size_extract]; omega
      have cR := cutsRead_any (s.extract (k + 1) s.size) u ev m _ z2 (HE.out.later B0)
      generalize numsOf (pieces 44 (s.extract (k + 1) s.size)) = oz at cR HC0 HC1
      go_wp2_with fail
      refine cR.mono ?_
      rintro e w2 ⟨v2, rfl, hg2, hb2⟩
      clear cR hnx hq hq1
      have B2 := B0.trans (hb2.mono B0.size)
      have K2 := K0.below hb2
      have l0 := K0.lt
      clear K0 B0 hb2
      have cC := fun W => clone_any (s.extract 0 k) W z1
      cases oz with
      | none =>
        have HF : Hid (attrReadI s = (⟨s.extract 0 k, [], []⟩, false)) := HR.out.trans (HC0.out rfl)
        obtain rfl : v2 = _ := hg2
        go_wp2_with fail
        refine (cC _).mono ?_
        rintro e w3 ⟨rfl, hb3⟩
        clear cC
        have B3 := B2.trans (hb3.mono B2.size)
        have HB : Hid (Blk 41 w3 w.heap.size #[.string ⟨#[]⟩, .slice none 0 0, .slice none 0 0]) := K2.below hb3
        clear K2 B2 hb3
        go_wp2_with (with_reducible refine wp_at_store rfl _ _ rfl ?_; refine ⟨_, rfl, _, _, _, _, _, _, _, rfl, _, _, _, HB.out, ?_⟩)
        refine bodyPost_ret (res_at1 Tryz.results41 _ _ _ _ _ _ _ rfl rfl (HB.out.setRow _)) rfl ?_
        rw [HF.out]
        exact ⟨_, rfl, ⟨_, _, rfl, own_nilI _ _, own_nilS _ _⟩, ⟨_, _, _, rfl, .inl rfl⟩, below_row B3 (Nat.le_refl _) _⟩
      | some zs =>
        have HF : Hid (attrReadI s = (⟨s.extract 0 k, zs, []⟩, true)) := HR.out.trans (HC1.out zs rfl)
        obtain ⟨cv, hv2, ho2⟩ := hg2
        have ho2 := own_base ho2 (b' := w.heap.size + 1) (by omega)
        obtain ⟨oa, ca, hcv, -, -⟩ := RowI.of_own ho2 rfl
        subst hcv
        subst hv2
        go_wp2_with fail
        refine (cC _).mono ?_
        rintro e w3 ⟨rfl, hb3⟩
        clear cC
        have B3 := B2.trans (hb3.mono B2.size)
        have ho3 := own_below ho2 hb3
        have HB : Hid (Blk 41 w3 w.heap.size #[.string ⟨#[]⟩, .slice none 0 0, .slice none 0 0]) := K2.below hb3
        clear K2 B2 hb3 ho2
        go_wp2_with (with_reducible refine wp_at_store rfl _ _ rfl ?_; refine ⟨_, rfl, _, _, _, _, _, _, _, rfl, _, _, _, HB.out, ?_⟩)
        refine bodyPost_ret (res_at1 Tryz.results41 _ _ _ _ _ _ _ rfl rfl (HB.out.setRow _)) rfl ?_
        rw [HF.out]
        refine ⟨_, rfl, ⟨_, _, rfl, ?_, own_nilS _ _⟩, ⟨_, _, _, rfl, .inr rfl⟩, below_row B3 (Nat.le_refl _) _⟩
        exact own_base (own_setRow ho3 _ _ (by omega)) (by omega)
    · have HF : Hid (isSign s[k] = false) := sg_no c1 c2
      have hq1 : ((s[k].toNat : Int) == 61) = false := by rw [beq_eq_false_iff_ne]; exact c1
      have hq : ((s[k].toNat : Int) == 58) = false := by rw [beq_eq_false_iff_ne]; exact c2
      clear c1 c2
      generalize (s[k].toNat : Int) = n at hnx hq hq1
      go_wp2
      go_roundw
      case rel =>
        refine ⟨k + 1, by omega, ?_, rfl⟩
        intro j hj hjk
        by_cases e : j = k
        · subst e; exact HF.out
        · exact HA.out j hj (by omega)
      case measure => rw [it_pos, it_pos]; omega
end Go.Proofs.YtndnplpmkkdieaaGreatDoor
/- Cuts: whether they are right, by the program. -/
namespace Go.Proofs.YtndnplpmkkdieaaGreatDoor
open Go.RowKit
set_option maxRecDepth 100000
set_option maxHeartbeats 400000 in
theorem implCuts_any (v : Value) (cs : List Int) (w : World) (h : RowI w v cs) (hn : cs.length ≤ 1099511627776) (h0 : cs.length ≠ 0) :
    Calls Tryz.prog 54 #[v] w fun e w' => e = .returned (.bool (decide (cs.length ≤ 3) && cutsRise cs)) ∧ Below w.heap.size w w' := by
  obtain ⟨oa, cap, rfl, hc, hr⟩ := h
  obtain ⟨g, o, rfl, hg, hj⟩ := hr (by omega)
  have HJ : Hid (∀ j, j < cs.length → w.cell? ⟨g, o + j, none⟩ = some (.int .i64 (cs.getD j 0))) := hj
  clear hj hr
  have l1 : ¬ (cs.length : Int) < 1 := by omega
  by_cases h3 : (cs.length : Int) ≤ 3
  rotate_left
  · have HF : Hid ((decide (cs.length ≤ 3) && cutsRise cs) = false) := by rw [decide_eq_false (by omega)]; rfl
    go_enter Tryz.func54, Tryz.ntmps54
    go_wp2
    go_ret
    exact ⟨by rw [HF.out]; rfl, Below.refl _ _⟩
  have HC : Hid ((decide (cs.length ≤ 3) && cutsRise cs) = cutsRise cs) := by rw [decide_eq_true (by omega)]; rfl
  go_enter Tryz.func54, Tryz.ntmps54
  go_wp2
  go_loopw [3, 16] (fun l i wr => ∃ k : Nat, i = .int .i64 k ∧ l = .int .i64 (leastAt cs k) ∧ k ≤ cs.length ∧ (∀ j, j < k → cutAt cs j = true) ∧ wr = w) (fun _ i _ => cs.length - (intOf i).toNat)
  case atStart => exact ⟨0, rfl, rfl, by omega, by omega, rfl⟩
  case round =>
    obtain ⟨k, rfl, rfl, hk, hal, rfl⟩ := hrel
    have HA : Hid (∀ j, j < k → cutAt cs j = true) := hal
    clear hal
    by_cases hlt : k < cs.length
    · have hcell := HJ.out k hlt
      have HL : Hid (∀ c, cs.getD k 0 = c → (leastAt cs k ≤ c ∧ c ≤ 9998 → cutAt cs k = true) ∧ (¬ (leastAt cs k ≤ c ∧ c ≤ 9998) → cutAt cs k = false)) := by
        intro c hc
        unfold leastAt cutAt
        rw [hc]
        by_cases hk0 : k = 0
        · subst hk0; simp
        · have hp := HA.out (k - 1) (by omega)
          unfold cutAt at hp
          simp at hp
          simp [hk0]
          constructor
          · intro a b; omega
          · intro a b c; omega
      generalize hcc : cs.getD k 0 = c at hcell
      have HK := HL.out c hcc
      have HKK : Hid ((leastAt cs k ≤ c ∧ c ≤ 9998 → cutAt cs k = true) ∧ (¬ (leastAt cs k ≤ c ∧ c ≤ 9998) → cutAt cs k = false)) := HK
      have HN : Hid (c + 1 = leastAt cs (k + 1)) := by unfold leastAt; rw [if_neg (by omega), Nat.add_sub_cancel, hcc]; rfl
      have hlo : -9999 ≤ leastAt cs k := by
        unfold leastAt
        by_cases hk0 : k = 0
        · rw [if_pos hk0]; omega
        · rw [if_neg hk0]
          have hp := cutAt_in (HA.out (k - 1) (by omega))
          omega
      clear HL HK hcc
      generalize leastAt cs k = L at HKK hlo
      by_cases c1 : c < L
      · have HF : Hid (cutsRise cs = false) := rise_no k hlt (HKK.out.2 (by omega))
        go_wp2
        go_ret
        exact ⟨by rw [HC.out, HF.out]; rfl, Below.refl _ _⟩
      · by_cases c2 : c ≤ 9998
        · have HF : Hid (cutAt cs k = true) := HKK.out.1 (by omega)
          go_wp2
          go_roundw
          case rel =>
            refine ⟨k + 1, by go_num, by rw [← HN.out], by omega, ?_, by first | rfl | trivial⟩
            intro j hj
            by_cases e : j = k
            · subst e; exact HF.out
            · exact HA.out j (by omega)
          case measure => simp [intOf]; omega
        · have HF : Hid (cutsRise cs = false) := rise_no k hlt (HKK.out.2 (by omega))
          go_wp2
          go_ret
          exact ⟨by rw [HC.out, HF.out]; rfl, Below.refl _ _⟩
    · have HF : Hid (cutsRise cs = true) := rise_yes fun j hj => HA.out j (by omega)
      go_wp2
      go_ret
      exact ⟨by rw [HC.out, HF.out]; rfl, Below.refl _ _⟩
end Go.Proofs.YtndnplpmkkdieaaGreatDoor
