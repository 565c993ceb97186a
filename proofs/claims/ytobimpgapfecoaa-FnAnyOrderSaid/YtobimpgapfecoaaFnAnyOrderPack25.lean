/- Texts of this claim, put together: part 25. -/
import Derived.Test.YtobimpgapfecoaaFnAnyOrderPack17
import Derived.Test.YtobimpgapfecoaaFnAnyOrderPack3
import Derived.Test.YtobimpgapfecoaaFnAnyOrderPack24
import Derived.Test.YtobimpgapfecoaaFnAnyOrderPack7
import Derived.Test.YtobimpgapfecoaaFnAnyOrderPack5
import Derived.WideKeyEntry
import Derived.Test.YtobimpgapfecoaaFnAnyOrderPack1
/- What is counted at a place of a list of cells, by the program. -/
namespace Go.Proofs.Ytobimpgapfecoaa
open Go.RowKit
set_option maxRecDepth 100000
set_option linter.unusedSimpArgs false
theorem buildKeyA (a b : Int) (w : World) : (Instr.build 87 #[(0, .int .i64 a), (1, .int .i64 b)]).run Try.prog w = .ok (.agg #[.int .i64 a, .int .i64 b]) w := run_build w 87 _ _ (by kernel_rfl)
theorem key_size : (Try.prog.info? 87).map (·.size) = some 2 := by kernel_rfl
theorem yields_remA {ops : Array Oper} {S : World → Prop} {op : Oper} {a : Act} (hw : Region.wanted op (yielded ops a.tmps) = true) (x y : Operand) (ho : op.op = .binOp .rem 3 x y 3) (m n : Nat) (hx : a.eval x = .int .i64 (m : Int)) (hy : a.eval y = .int .i64 (n : Int))
    (_ : m ≤ 1099511627776) (h2 : 0 < n) : YieldsIf Try.prog ops S op (.int .i64 ((m % n : Nat) : Int)) a :=
  .inl ⟨hw, fun w hw' => by
    have e0 : (m : Int).tmod (n : Int) = ((m % n : Nat) : Int) := rfl
    have hle : m % n ≤ m := Nat.mod_le _ _
    unfold execOp
    simp only [ho, hx, hy]
    go_simp
    omega⟩
set_option maxHeartbeats 1600000 in
theorem keyAt_any (k m : Nat) (w : World) (hk : k ≤ 1099511627776) (hm : 0 < m) (hm2 : m ≤ 1099511627776) :
    Calls Try.prog 71 #[.int .i64 (k : Int), .int .i64 (m : Int)] w fun e w' => e = .returned (.agg #[.int .i64 ((k / m : Nat) : Int), .int .i64 ((k % m : Nat) : Int)]) ∧ Below w.heap.size w w' := by
  have hquo : (k : Int) / (m : Int) = ((k / m : Nat) : Int) := rfl
  have K0 := Blk.new 87 w #[.int .i64 0, .int .i64 0]
  have B : Below w.heap.size w (w.alloc (.cells #[.int .i64 0, .int .i64 0] 87)) := (Below.refl _ _).alloc (Nat.le_refl _) _
  go_enter Try.func71, Try.ntmps71
  go_wp2_with fail
  refine wp_region_held_drew (S := fun w' => Below w.heap.size w w') (by kernel_rfl) B.drew ?_
  intro hS
  have K3 := K0.below (Below.refl _ _).drew
  clear K0 B
  generalize (w.alloc (.cells #[.int .i64 0, .int .i64 0] 87)).drew = w3 at hS K3 ⊢
  refine takeL 0 (.int .i64 (k : Int)) rfl (by kernel_rfl) (by kernel_rfl) (by kernel_rfl) (fun _ _ _ h => h) (.inl ⟨by rfl, fun w _ => by rfl⟩) hS ?_
  simp only [Act.put, List.setIfInBounds_toArray, List.set_cons_zero, List.set_cons_succ]
  refine takeL 1 (.int .i64 (m : Int)) rfl (by kernel_rfl) (by kernel_rfl) (by kernel_rfl) (fun _ _ _ h => h) (.inl ⟨by rfl, fun w _ => by rfl⟩) hS ?_
  simp only [Act.put, List.setIfInBounds_toArray, List.set_cons_zero, List.set_cons_succ]
  refine takeL 2 (.int .i64 ((k : Int) / (m : Int))) rfl (by kernel_rfl) (by kernel_rfl) (by kernel_rfl) (fun _ _ _ h => h) (yields_quo (by rfl) _ _ rfl (k : Int) (m : Int) rfl rfl (by omega) (by omega) (by omega)) hS ?_
  simp only [Act.put, List.setIfInBounds_toArray, List.set_cons_zero, List.set_cons_succ, hquo]
  refine takeL 3 (.int .i64 (k : Int)) rfl (by kernel_rfl) (by kernel_rfl) (by kernel_rfl) (fun _ _ _ h => h) (.inl ⟨by rfl, fun w _ => by rfl⟩) hS ?_
  simp only [Act.put, List.setIfInBounds_toArray, List.set_cons_zero, List.set_cons_succ]
  refine takeL 4 (.int .i64 (m : Int)) rfl (by kernel_rfl) (by kernel_rfl) (by kernel_rfl) (fun _ _ _ h => h) (.inl ⟨by rfl, fun w _ => by rfl⟩) hS ?_
  simp only [Act.put, List.setIfInBounds_toArray, List.set_cons_zero, List.set_cons_succ]
  refine takeL 5 (.int .i64 ((k % m : Nat) : Int)) rfl (by kernel_rfl) (by kernel_rfl) (by kernel_rfl) (fun _ _ _ h => h) (yields_remA (by rfl) _ _ rfl k m rfl rfl (by omega) hm) hS ?_
  simp only [Act.put, List.setIfInBounds_toArray, List.set_cons_zero, List.set_cons_succ]
  refine takeL 6 (.agg #[.int .i64 ((k / m : Nat) : Int), .int .i64 ((k % m : Nat) : Int)]) rfl (by kernel_rfl) (by kernel_rfl) (by kernel_rfl) (fun _ _ _ h => h) (.inl ⟨by rfl, fun w _ => by have e := buildKeyA ((k / m : Nat) : Int) ((k % m : Nat) : Int) w; unfold execOp; simp only [List.map_toArray, List.map_cons, List.map_nil, Sem.run_bind]; exact (congrArg (fun r => Result.andThen r fun z w' => (pure (Next.value z) : Sem Next).run Try.prog w') e)⟩) hS ?_
  simp only [Act.put, List.setIfInBounds_toArray, List.set_cons_zero, List.set_cons_succ]
  refine nextL 7 rfl (by kernel_rfl) (by rfl) fun K hK => ?_
  refine wp_store_row 87 _ _ rfl w.heap.size #[.int .i64 ((k / m : Nat) : Int), .int .i64 ((k % m : Nat) : Int)] rfl rfl _ _ K3 key_size rfl (by simp [Value.oneCell']) ?_
  have K4 := K3.setRow #[.int .i64 ((k / m : Nat) : Int), .int .i64 ((k % m : Nat) : Int)]
  have hb4 := below_row hS (Nat.le_refl _) #[.int .i64 ((k / m : Nat) : Int), .int .i64 ((k % m : Nat) : Int)]
  clear K3
  refine hK _ _ hb4 ?_
  clear hK K hS
  generalize w3.setRow w.heap.size #[.int .i64 ((k / m : Nat) : Int), .int .i64 ((k % m : Nat) : Int)] = w4 at hb4 K4 ⊢
  intro hS
  simp only [Act.put]
  refine wpAnyH_done (by kernel_rfl) ?_ _
  go_wp2
  exact bodyPost_ret (results_cell_row Try.results71 _ _ w.heap.size _ _ _ _ rfl K4 Try.underlying87 rfl key_size) rfl ⟨rfl, hb4⟩
end Go.Proofs.Ytobimpgapfecoaa
/- A map of cells made of a list. -/
namespace Go.Proofs.Ytobimpgapfecoaa
open Go.RowKit Go.Maps
set_option maxRecDepth 100000
set_option linter.unusedSimpArgs false
theorem run_makeMap_sized {P : Program} {t k e : TypeId} (ht : P.underlying t = some (.map k e)) (n : Int) (w : World) : (Instr.makeMap t (some (.int .i64 n))).run P w = .ok (.map (some w.heap.size)) (w.alloc (.map #[] 0)) := by
  simp [Instr.makeMap, run_underlying ht, asInt, asIntOf, Result.andThen]
theorem wp_mapUpdate_own {H : Type} {P : Program} (w : World) {o : Oper} {a : Act} {K0 : Act → World → Prop} {Q : Exit → Act → World → Prop}
    (m x v : Operand) (t : TypeId) (hop : o.op = Op.mapUpdate t m x v)
    (k e : TypeId) (K : Keyed P k) (ht : P.underlying t = some (.map k e)) (R : Value → Option (DataW H × List MemPlace)) (b n : Nat) (D : DataW H)
    (hm : a.eval m = .map (some b)) (hown : w.ownsMap P k R b n D) (hn : n < maxLen) (key val : Value) (kl : Lit) (hx : a.eval x = key) (hv : a.eval v = val) (hkey : keyOf P k key = some kl)
    (d : DataW H) (ps : List MemPlace) (hval : R val = some (d, ps))
    (hK : ∀ w', w'.ownsMap P k R b (n + 1) (D.put kl d) → w.grownBy w' (some b) → K0 (a.put o.dst undef) w') :
    Oper.wp P o a w K0 Q := by
  obtain ⟨w', hrun, r1, r2⟩ := hown.update K ht hn hkey hval
  unfold Oper.wp
  simp [execOp, hop, hm, hx, hv, hrun, Result.andThen]
  exact hK _ r1 r2
set_option maxHeartbeats 1600000 in
theorem cellsOf_any (v : Value) (l : List Int) (m : Nat) (w : World) (h : RowI w v l) (hn : l.length ≤ 1048576) (hm : 0 < m) (hm2 : m ≤ 1048576) (hw : l.all inW = true) :
    Calls Try.prog 51 #[v, .int .i64 (m : Int)] w fun e w' => ∃ D, e = .returned (.map (some w.heap.size)) ∧ w'.ownsMap Try.prog 87 (plainElem (H := Unit) Try.prog 3) w.heap.size l.length D ∧ Holds (kat m) D l 0 l.length ∧ Below w.heap.size w w' := by
  have hmm := fun n w => run_makeMap_sized (P := Try.prog) Try.underlying84 n w
  obtain ⟨oa, cap, rfl, hc, hr⟩ := h
  have HR : Hid (0 < l.length → ∃ g o, oa = some ⟨g, o, none⟩ ∧ g < w.heap.size ∧ ∀ j, j < l.length → w.cell? ⟨g, o + j, none⟩ = some (.int .i64 (l.getD j 0))) := hr
  have HW : Hid (l.all inW = true) := hw
  clear hr hw
  go_enter Try.func51, Try.ntmps51
  go_wp2
  go_loopw [13] (fun i wr => ∃ (k : Nat) (D : DataW Unit), i = .int .i64 k ∧ k ≤ l.length ∧ Hid (wr.ownsMap Try.prog 87 (plainElem (H := Unit) Try.prog 3) w.heap.size k D ∧ Holds (kat m) D l 0 k) ∧ Below w.heap.size w wr) (fun i _ => l.length - (intOf i).toNat)
  case atStart => exact ⟨0, .map [], rfl, by omega, ⟨World.ownsMap_made _ _ _ _, Holds.empty _ _⟩, (Below.refl _ _).alloc (Nat.le_refl _) _⟩
  case round =>
    obtain ⟨k, D, rfl, hk, HD, hbr⟩ := hrel
    by_cases hlt : k < l.length
    · obtain ⟨g, o, rfl, hg, hj⟩ := HR.out (by omega)
      have ha : wr.cell? ⟨g, o + k, none⟩ = some (.int .i64 (l.getD k 0)) := (hbr.cell (p := ⟨g, o + k, none⟩) hg).trans (hj k hlt)
      obtain ⟨hx0, hx1⟩ := all_at HW.out hlt
      obtain ⟨x, hx⟩ : ∃ x, x = l.getD k 0 := ⟨_, rfl⟩
      have HXK : Hid (x = l.getD k 0) := hx
      rw [← hx] at ha hx0 hx1
      clear hj hx
      have cc := keyAt_any k m wr (by omega) hm (by omega)
      go_wp2_with fail
      refine cc.mono ?_
      clear cc
      rintro e w3 ⟨rfl, hbk⟩
      have hb3 := hbr.trans (hbk.mono hbr.size)
      have HD3 : Hid (w3.ownsMap Try.prog 87 (plainElem (H := Unit) Try.prog 3) w.heap.size k D) := HD.out.1.kept (grown_of_below hbk) (by simp)
      clear ha hbr hbk
      go_wp2_with (refine wpList_plain rfl fun _ hK => ?_; refine wp_mapUpdate_own w3 _ _ _ 84 rfl 87 3 kLaw Try.underlying84 _ w.heap.size k D rfl HD3.out (by unfold maxLen; omega) _ _ (kat m k) rfl rfl (kat_of (by omega)) _ [] (plainElem_int Try.underlying3 (WalkArith.wf_i64 (by omega))) ?_; intro w4 hown4 hg4; refine hK _ _ ?_)
      have hb4 := hb3.grown hg4 hb3.size (fun j hj => by cases hj; exact Nat.le_refl _)
      have HN : Hid (w4.ownsMap Try.prog 87 (plainElem (H := Unit) Try.prog 3) w.heap.size (k + 1) (D.put (kat m k) (.lit (.int .i64 x))) ∧ Holds (kat m) (D.put (kat m k) (.lit (.int .i64 x))) l 0 (k + 1)) := ⟨hown4, HD.out.2.put_new (kat_nos m) (by omega) x HXK.out⟩
      clear hown4 hg4 HD3 HD hb3
      go_wp2
      go_roundw
      case rel => exact ⟨k + 1, _, by go_num, by omega, HN, hb4⟩
      case measure => simp [intOf]; omega
    · obtain rfl : k = l.length := by omega
      go_wp2
      go_ret
      exact ⟨_, rfl, HD.out.1, HD.out.2, hbr⟩
end Go.Proofs.Ytobimpgapfecoaa
/- 'm[k] += v' where the key is there: the entry is found, then stored into. -/
namespace Go.Proofs.Ytobimpgapfecoaa
open Go.RowKit Go.Maps Go.ChangeMaps Go.WideElems
set_option maxRecDepth 100000
theorem setBlock_self {w : World} {b clock : Nat} {es : Array MapEntry} (h : w.heap[b]? = some (.map es clock)) : setBlock w b (.map es clock) = w := by
  have e : w.heap.setIfInBounds b (.map es clock) = w.heap := by
    apply Array.ext_getElem?
    intro i
    by_cases hi : i = b
    · subst hi
      exact (heap_setBlock_same h _).trans h.symm
    · exact heap_setBlock_other h _ hi
  unfold setBlock
  rw [e]
theorem entry_there {H : Type} {P : Program} {w : World} {t k e : TypeId} {R : Value → Option (DataW H × List MemPlace)} {b n : Nat} {D : DataW H} (h : w.ownsMap P k R b n D) (K : WideMaps.KeyLaw P k) (ht : P.underlying t = some (.map k e))
    (hn : n < maxLen) {key : Value} {kl : Lit} (hkey : keyOf P k key = some kl) (hhas : Maps.has D kl = true) :
    ∃ (v0 : Value) (st : Nat), (Instr.mapEntry t (.map (some b)) key).run P w = .ok (.tuple #[v0, goInt st]) w ∧
      ∀ {val : Value} {d : DataW H} {ps : List MemPlace}, R val = some (d, ps) → ∃ w3, (Instr.entryStore t (.map (some b)) (goInt st) val).run P w = .ok () w3 ∧ w3.ownsMap P k R b (n + 1) (D.put kl d) ∧ w.grownBy w3 (some b) := by
  have hup := fun {val : Value} {d : DataW H} {ps : List MemPlace} (hv : R val = some (d, ps)) => h.update (Keyed.of_law K) ht hn hkey hv
  obtain ⟨es, clock, hb, F, hs, hD⟩ := h
  obtain ⟨s1, s2, _⟩ := F.stamped
  rcases K.find w hkey es.toList F.keys with ⟨h1, h2⟩ | ⟨j, e0, h1, h2, h3⟩
  · exfalso
    rw [hD] at hhas
    obtain ⟨p, hp, hpk⟩ := List.any_eq_true.1 hhas
    obtain ⟨x, hx, rfl⟩ := List.mem_map.1 (mem_sorted.1 hp)
    obtain ⟨y, hy⟩ := F.reads x hx
    have m1 := rd_key hy
    have hks := WideAt.sameKey_eq hpk
    rw [rg_of hy] at hks
    rw [hks] at m1
    exact h2 x hx (K.inj m1 hkey)
  · have hj : es[j]? = some e0 := by simpa using h2
    have hsame : es.modify j (fun e => { e with key := key }) = es := by
      apply Array.ext'
      rw [Array.toList_modify, modify_eq_set _ _ _ _ h2]
      have : ({ e0 with key := key } : MapEntry) = e0 := by rw [← h3]
      rw [this]
      exact set_self _ _ _ h2
    refine ⟨e0.val, e0.born, ?_, fun {val d ps} hv => ?_⟩
    · have : (Instr.mapEntry t (.map (some b)) key).run P w = .ok (.tuple #[e0.val, goInt e0.born]) (setBlock w b (.map es clock)) := by
        simp [Instr.mapEntry, run_underlying ht, MapKept.run_getObj_map hb, K.check w false hkey, h1, hj, h3, K.stays w hkey, hsame, MapKept.run_setObj_map _ hb, Result.andThen, setBlock]
      rw [this, setBlock_self hb]
    · obtain ⟨w3, r1, r2, r3⟩ := hup hv
      refine ⟨w3, ?_, r2, r3⟩
      have hidx : es.findIdx? (fun e => ((e.born : Nat) : Int) == ((e0.born : Nat) : Int)) = some j := by
        rw [findIdx_arr]
        exact findIdx_born s2 h2
      have hmod : es.modify j (fun e => { e with val := val }) = es.modify j (fun e' => { e' with key := key, val := val }) := by
        apply Array.ext'
        rw [Array.toList_modify, Array.toList_modify, modify_eq_set _ _ _ _ h2, modify_eq_set _ _ _ _ h2, ← h3]
      have e1 : (Instr.entryStore t (.map (some b)) (goInt e0.born) val).run P w = .ok () (setBlock w b (.map (es.modify j (fun e' => { e' with key := key, val := val })) clock)) := by
        simp [Instr.entryStore, MapKept.run_getObj_map hb, asInt, asIntOf, goInt, hidx, hmod, MapKept.run_setObj_map _ hb, Result.andThen, setBlock]
      have e2 : (Instr.mapUpdate t (.map (some b)) key val).run P w = .ok () (setBlock w b (.map (es.modify j (fun e' => { e' with key := key, val := val })) clock)) := by
        simp [Instr.mapUpdate, run_underlying ht, MapKept.run_getObj_map hb, K.check w false hkey, h1, hj, h3, K.stays w hkey, MapKept.run_setObj_map _ hb, Result.andThen, setBlock]
      rw [e1, ← e2, r1]
theorem kLaw0 : WideMaps.KeyLaw Try.prog 87 := deep_law_laid kLaid (m := 2) (by omega) kRow (by kernel_rfl) kWide
theorem owns_tight {H : Type} {P : Program} {w : World} {k : TypeId} {R : Value → Option (DataW H × List MemPlace)} {b n : Nat} {D : DataW H} (h : w.ownsMap P k R b n D) : w.ownsMap P k R b (Maps.size D) D := by
  obtain ⟨es, clock, hb, F, hs, rfl⟩ := h
  exact ⟨es, clock, hb, F, by simp [Maps.size, length_sorted], rfl⟩
theorem intZ (w : World) : (zeroValue 3).run Try.prog w = .ok (.int .i64 0) w := by kernel_rfl
theorem yields_look {ops : Array Oper} {S : World → Prop} {op : Oper} {a : Act} (hw : Region.wanted op (yielded ops a.tmps) = true) (m x : Operand) (ho : op.op = .lookup 84 m x false) (b : Nat) (hm : a.eval m = .map (some b)) (key : Value) (hx : a.eval x = key) (z : Int)
    (hS : ∀ w, S w → ∃ (n : Nat) (D : DataW Unit) (kl : Lit), w.ownsMap Try.prog 87 (plainElem (H := Unit) Try.prog 3) b n D ∧ keyOf Try.prog 87 key = some kl ∧ D.atKey kl (.lit (.int .i64 0)) = .lit (.int .i64 z)) : YieldsIf Try.prog ops S op (.int .i64 z) a :=
  .inl ⟨hw, fun w hw' => by
    obtain ⟨n, D, kl, h1, h2, h3⟩ := hS w hw'
    obtain ⟨c, hrun, hat, _⟩ := h1.lookup_int kLaw Try.underlying84 Try.underlying3 (intZ w) h2
    have hc : c = z := by rw [h3] at hat; simpa using hat.symm
    subst hc
    unfold execOp
    simp [ho, hm, hx, hrun, Result.andThen]⟩
theorem wp_entry {o : Oper} {a : Act} {w : World} {K : Act → World → Prop} {Q : Exit → Act → World → Prop} (m x : Operand) (t : TypeId) (ho : o.op = .mapEntry t m x) (mv key v : Value) (hm : a.eval m = mv) (hx : a.eval x = key)
    (h : (Instr.mapEntry t mv key).run Try.prog w = .ok v w) (hK : K (a.put o.dst v) w) : Oper.wp Try.prog o a w K Q := by
  unfold Oper.wp
  simp [execOp, ho, hm, hx, h, Result.andThen]
  exact hK
theorem wp_entryStore {o : Oper} {a : Act} {w w3 : World} {K : Act → World → Prop} {Q : Exit → Act → World → Prop} (m x y : Operand) (t : TypeId) (ho : o.op = .entryStore t m x y) (mv st val : Value) (hm : a.eval m = mv) (hx : a.eval x = st) (hy : a.eval y = val)
    (h : (Instr.entryStore t mv st val).run Try.prog w = .ok () w3) (hK : K (a.put o.dst undef) w3) : Oper.wp Try.prog o a w K Q := by
  unfold Oper.wp
  simp [execOp, ho, hm, hx, hy, h, Result.andThen]
  exact hK
end Go.Proofs.Ytobimpgapfecoaa
/- A list of texts that a function is handed; whether it holds a text. -/
namespace Go.Proofs.Ytobimpgapfecoaa
open Go.RowKit
set_option maxRecDepth 100000
set_option maxHeartbeats 400000 in
theorem index_any (v : Value) (ss : List ByteArray) (t : ByteArray) (w : World) (h : RowS w v ss) (hn : ss.length ≤ 1099511627776) :
    Calls Try.prog 118 #[v, .string t] w fun e w' => ∃ i : Int, e = .returned (.int .i64 i) ∧ (decide (0 ≤ i) = hasT ss t) ∧ Below w.heap.size w w' := by
  obtain ⟨oa, cap, rfl, hc, hr⟩ := h
  have HR : Hid (0 < ss.length → ∃ g o, oa = some ⟨g, o, none⟩ ∧ g < w.heap.size ∧ ∀ j, j < ss.length → w.cell? ⟨g, o + j, none⟩ = some (.string (tx ss j))) := hr
  clear hr
  go_enter Try.func118, Try.ntmps118
  go_wp2
  go_loopw [8] (fun i wr => ∃ k : Nat, i = .int .i64 k ∧ k ≤ ss.length ∧ (∀ j, j < k → t ≠ tx ss j) ∧ Below w.heap.size w wr) (fun i _ => ss.length - (intOf i).toNat)
  case atStart => exact ⟨0, rfl, by omega, by omega, Below.refl _ _⟩
  case round =>
    obtain ⟨k, rfl, hk, hne, hb⟩ := hrel
    have HN : Hid (∀ j, j < k → t ≠ tx ss j) := hne
    clear hne
    by_cases hlt : k < ss.length
    · obtain ⟨g, o, rfl, hg, hj⟩ := HR.out (by omega)
      have hcell : wr.cell? ⟨g, o + k, none⟩ = some (.string (tx ss k)) := (hb.cell (p := ⟨g, o + k, none⟩) hg).trans (hj k hlt)
      clear hj
      by_cases he : t = tx ss k
      · have HM : Hid (hasT ss t = true) := hasT_yes hlt he
        have hq : (t.toList == (tx ss k).toList) = true := by rw [← he]; simp
        generalize tx ss k = u at hcell hq he
        clear he
        go_wp2
        go_ret
        exact ⟨_, rfl, by rw [HM.out]; simp, hb⟩
      · have hq : (t.toList == (tx ss k).toList) = false := by
          rw [beq_eq_false_iff_ne]; exact fun h => he (bytes_eq_iff.1 h)
        have HE : Hid (t ≠ tx ss k) := he
        clear he
        generalize hu : tx ss k = u at hcell hq
        clear hu
        go_wp2
        go_roundw
        case rel =>
          refine ⟨k + 1, by go_num, by omega, ?_, hb⟩
          intro j hj
          by_cases e : j = k
          · subst e; exact HE.out
          · exact HN.out j (by omega)
        case measure => simp [intOf]; omega
    · have HM : Hid (hasT ss t = false) := hasT_no fun j hj => HN.out j (by omega)
      go_wp2
      go_ret
      exact ⟨_, rfl, by rw [HM.out]; simp, hb⟩

theorem contains_any (v : Value) (ss : List ByteArray) (t : ByteArray) (w : World) (h : RowS w v ss) (hn : ss.length ≤ 1099511627776) :
    Calls Try.prog 99 #[v, .string t] w fun e w' => e = .returned (.bool (hasT ss t)) ∧ Below w.heap.size w w' := by
  have c := index_any v ss t w h hn
  generalize hasT ss t = G at c
  clear h hn
  go_enter Try.func99, Try.ntmps99
  go_wp2_with fail
  refine c.mono ?_
  rintro e w1 ⟨i, rfl, hi, hb⟩
  clear c
  subst hi
  go_wp2
  go_ret
  exact ⟨rfl, hb⟩
end Go.Proofs.Ytobimpgapfecoaa
