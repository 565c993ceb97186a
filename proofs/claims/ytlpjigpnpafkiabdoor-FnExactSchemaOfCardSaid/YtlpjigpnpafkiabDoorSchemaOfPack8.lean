/- Texts of this claim, put together: part 8. -/
import Derived.Shelf.Strconv.Clone
import Derived.Shelf.Strings.Split
import Derived.Shelf.Strings.SplitShaped
import Derived.Test.YtlpjigpnpafkiabDoorProg
import Derived.Test.YtlpjigpnpafkiabDoorSchemaOfPack4
import Derived.Test.YtlpjigpnpafkiabDoorSchemaOfPack1
import Derived.Test.YtlpjigpnpafkiabDoorSchemaOfPack6
import Derived.Test.YtlpjigpnpafkiabDoorSchemaOfPack7
import Derived.Test.YtlpjigpnpafkiabDoorSchemaOfPack5
import Derived.Test.YtlpjigpnpafkiabDoorRows
import Derived.WalkKit
import Derived.ProofKit
import Derived.OpenShut
import Derived.Deep.RegionHeld3
/- Contracts of the library that this seat calls, laid at its own numbers out of the kit. -/
namespace Go.Proofs
open Go.Shelf
def Tryd.lays146_ren : Go.Shelf.Ren := ⟨fun | 146 => 68 | 221 => 75 | 268 => 81 | 138 => 82 | 143 => 83 | 195 => 89 | 197 => 90 | 218 => 91 | 219 => 92 | 260 => 100 | 217 => 101 | 225 => 102 | 224 => 103 | 267 => 104 | 266 => 112 | 314 => 113 | n => n, fun | 9 => 9 | 31 => 23 | 3 => 3 | 4 => 4 | 0 => 0 | 105 => 103 | 21 => 21 | 5 => 5 | 46 => 112 | 119 => 122 | 139 => 125 | 138 => 124 | 146 => 126 | 51 => 109 | n => n, fun | 1 => 0 | 3 => 3 | 4 => 4 | n => n⟩
theorem Tryd.lays146 : Go.Proofs.Lays.n146 Tryd.prog Tryd.lays146_ren := {
  mixed := by kernel_rfl
  f138 := Tryd.func82.trans (congrArg some (by kernel_rfl))
  f143 := Tryd.func83.trans (congrArg some (by kernel_rfl))
  f146 := Tryd.func68.trans (congrArg some (by kernel_rfl))
  f195 := Tryd.func89.trans (congrArg some (by kernel_rfl))
  f197 := Tryd.func90.trans (congrArg some (by kernel_rfl))
  f217 := Tryd.func101.trans (congrArg some (by kernel_rfl))
  f218 := Tryd.func91.trans (congrArg some (by kernel_rfl))
  f219 := Tryd.func92.trans (congrArg some (by kernel_rfl))
  f221 := Tryd.func75.trans (congrArg some (by kernel_rfl))
  f224 := Tryd.func103.trans (congrArg some (by kernel_rfl))
  f225 := Tryd.func102.trans (congrArg some (by kernel_rfl))
  f260 := Tryd.func100.trans (congrArg some (by kernel_rfl))
  f266 := Tryd.func112.trans (congrArg some (by kernel_rfl))
  f267 := Tryd.func104.trans (congrArg some (by kernel_rfl))
  f268 := Tryd.func81.trans (congrArg some (by kernel_rfl))
  f314 := Tryd.func113.trans (congrArg some (by kernel_rfl))
  t0 := Tryd.underlying0
  a0 := Tryd.isAgg0
  z0 := Tryd.sizeOf0
  v0 := Tryd.zeroValue0
  t3 := Tryd.underlying3
  a3 := Tryd.isAgg3
  z3 := Tryd.sizeOf3
  v3 := Tryd.zeroValue3
  t4 := Tryd.underlying4
  a4 := Tryd.isAgg4
  z4 := Tryd.sizeOf4
  v4 := Tryd.zeroValue4
  t5 := Tryd.underlying5
  a5 := Tryd.isAgg5
  z5 := Tryd.sizeOf5
  v5 := Tryd.zeroValue5
  t9 := Tryd.underlying9
  a9 := Tryd.isAgg9
  z9 := Tryd.sizeOf9
  v9 := Tryd.zeroValue9
  t21 := Tryd.underlying21
  a21 := Tryd.isAgg21
  z21 := Tryd.sizeOf21
  v21 := Tryd.zeroValue21
  t31 := Tryd.underlying23
  a31 := Tryd.isAgg23
  z31 := Tryd.sizeOf23
  v31 := Tryd.zeroValue23
  t46 := Tryd.underlying112
  a46 := Tryd.isAgg112
  z46 := Tryd.sizeOf112
  v46 := Tryd.zeroValue112
  t51 := Tryd.underlying109
  a51 := Tryd.isAgg109
  z51 := Tryd.sizeOf109
  v51 := Tryd.zeroValue109
  t105 := Tryd.underlying103
  a105 := Tryd.isAgg103
  z105 := Tryd.sizeOf103
  v105 := Tryd.zeroValue103
  t119 := Tryd.underlying122
  a119 := Tryd.isAgg122
  z119 := Tryd.sizeOf122
  t138 := Tryd.underlying124
  a138 := Tryd.isAgg124
  z138 := Tryd.sizeOf124
  v138 := Tryd.zeroValue124
  t139 := Tryd.underlying125
  a139 := Tryd.isAgg125
  z139 := Tryd.sizeOf125
  v139 := Tryd.zeroValue125
  t146 := Tryd.underlying126
  a146 := Tryd.isAgg126
  z146 := Tryd.sizeOf126
  v146 := Tryd.zeroValue126
  g1 := by kernel_rfl
  g3 := by kernel_rfl
  g4 := by kernel_rfl }
open Go.RowKit Go.Lib in
theorem Tryd.strings_Split (s sep : ByteArray) (m : Int) (w : World) (hs : s.size < 4294967281) (hm : w.cell? ⟨0, 0, none⟩ = some (.int .i64 m)) (h1 : 1 ≤ sep.size) :
    Calls Tryd.prog 68 #[.string s, .string sep] w fun e w' =>
      e = .returned (.slice (some ⟨w.heap.size, 0, none⟩) (Lib.countB s sep + 1) (Lib.countB s sep + 1)) ∧ w' = w.alloc (.cells ((Lib.splitB sep 0 (Lib.countB s sep) s).map Value.string).toArray 9) := Any.strings_Split Tryd.lays146 (by kernel_rfl) s sep m w hs hm h1
def Tryd.laysM146_ren : Go.Shelf.Ren := ⟨fun | 146 => 68 | 221 => 75 | 268 => 81 | 138 => 82 | 143 => 83 | 195 => 89 | 197 => 90 | 218 => 91 | 219 => 92 | 260 => 100 | 217 => 101 | 225 => 102 | 224 => 103 | 267 => 104 | 266 => 112 | 314 => 113 | n => n, fun | 9 => 9 | 31 => 23 | 3 => 3 | 4 => 4 | 0 => 0 | 105 => 103 | 21 => 21 | 5 => 5 | 46 => 112 | 119 => 122 | 139 => 125 | 138 => 124 | 146 => 126 | 51 => 109 | n => n, fun | 1 => 0 | 3 => 3 | 4 => 4 | n => n⟩
theorem Tryd.laysM146 : Go.Proofs.LaysM.n146 Tryd.prog Tryd.laysM146_ren := {
  mixed := by kernel_rfl
  f138 := Tryd.func82.trans (congrArg some (by kernel_rfl))
  f143 := Tryd.func83.trans (congrArg some (by kernel_rfl))
  f146 := Tryd.func68.trans (congrArg some (by kernel_rfl))
  f195 := Tryd.func89.trans (congrArg some (by kernel_rfl))
  f197 := Tryd.func90.trans (congrArg some (by kernel_rfl))
  f217 := Tryd.func101.trans (congrArg some (by kernel_rfl))
  f218 := Tryd.func91.trans (congrArg some (by kernel_rfl))
  f219 := Tryd.func92.trans (congrArg some (by kernel_rfl))
  f221 := Tryd.func75.trans (congrArg some (by kernel_rfl))
  f224 := Tryd.func103.trans (congrArg some (by kernel_rfl))
  f225 := Tryd.func102.trans (congrArg some (by kernel_rfl))
  f260 := Tryd.func100.trans (congrArg some (by kernel_rfl))
  f266 := Tryd.func112.trans (congrArg some (by kernel_rfl))
  f267 := Tryd.func104.trans (congrArg some (by kernel_rfl))
  f268 := Tryd.func81.trans (congrArg some (by kernel_rfl))
  f314 := Tryd.func113.trans (congrArg some (by kernel_rfl))
  t0 := Tryd.underlying0
  a0 := Tryd.isAgg0
  z0 := Tryd.sizeOf0
  v0 := Tryd.zeroValue0
  t3 := Tryd.underlying3
  a3 := Tryd.isAgg3
  z3 := Tryd.sizeOf3
  v3 := Tryd.zeroValue3
  t4 := Tryd.underlying4
  a4 := Tryd.isAgg4
  z4 := Tryd.sizeOf4
  v4 := Tryd.zeroValue4
  t5 := Tryd.underlying5
  a5 := Tryd.isAgg5
  z5 := Tryd.sizeOf5
  v5 := Tryd.zeroValue5
  t9 := Tryd.underlying9
  a9 := Tryd.isAgg9
  z9 := Tryd.sizeOf9
  v9 := Tryd.zeroValue9
  t21 := Tryd.underlying21
  a21 := Tryd.isAgg21
  z21 := Tryd.sizeOf21
  v21 := Tryd.zeroValue21
  t31 := Tryd.underlying23
  a31 := Tryd.isAgg23
  z31 := Tryd.sizeOf23
  v31 := Tryd.zeroValue23
  t46 := Tryd.underlying112
  a46 := Tryd.isAgg112
  z46 := Tryd.sizeOf112
  v46 := Tryd.zeroValue112
  t51 := Tryd.underlying109
  a51 := Tryd.isAgg109
  z51 := Tryd.sizeOf109
  v51 := Tryd.zeroValue109
  t105 := Tryd.underlying103
  a105 := Tryd.isAgg103
  z105 := Tryd.sizeOf103
  v105 := Tryd.zeroValue103
  t119 := Tryd.underlying122
  a119 := Tryd.isAgg122
  z119 := Tryd.sizeOf122
  t138 := Tryd.underlying124
  a138 := Tryd.isAgg124
  z138 := Tryd.sizeOf124
  v138 := Tryd.zeroValue124
  t139 := Tryd.underlying125
  a139 := Tryd.isAgg125
  z139 := Tryd.sizeOf125
  v139 := Tryd.zeroValue125
  t146 := Tryd.underlying126
  a146 := Tryd.isAgg126
  z146 := Tryd.sizeOf126
  v146 := Tryd.zeroValue126
  g1 := by kernel_rfl
  g3 := by kernel_rfl
  g4 := by kernel_rfl
  i0 := by kernel_rfl
  i3 := by kernel_rfl
  i4 := by kernel_rfl
  i5 := by kernel_rfl
  i9 := by kernel_rfl
  i21 := by kernel_rfl
  i31 := by kernel_rfl
  i46 := by kernel_rfl
  i51 := by kernel_rfl
  i105 := by kernel_rfl
  i138 := by kernel_rfl
  i139 := by kernel_rfl
  i146 := by kernel_rfl
  m1 := by kernel_rfl
  s1_3 := fun w h => Go.Proofs.cell_of_shapedOpen_int (zero := #[.int .i64 0]) (t := 3) h (of_decide_eq_true (by kernel_rfl)) (by kernel_rfl) rfl (by kernel_rfl) (by kernel_rfl) Tryd.underlying3
  m3 := by kernel_rfl
  m4 := by kernel_rfl }
open Go.RowKit Go.Lib in
theorem Tryd.strings_Split_shaped (s sep : ByteArray) (w : World) (h : w.ShapedOpen Tryd.prog) (hs : s.size < 4294967281) (h1 : 1 ≤ sep.size) :
    Calls Tryd.prog 68 #[.string s, .string sep] w fun e w' =>
      e = .returned (.slice (some ⟨w.heap.size, 0, none⟩) (Lib.countB s sep + 1) (Lib.countB s sep + 1)) ∧ w' = w.alloc (.cells ((Lib.splitB sep 0 (Lib.countB s sep) s).map Value.string).toArray 9) := Any.strings_Split_shaped Tryd.laysM146 s sep w h hs h1
def Tryd.laysM316_ren : Go.Shelf.Ren := ⟨fun | 316 => 72 | n => n, fun | 9 => 9 | 3 => 3 | 4 => 4 | 37 => 69 | 0 => 0 | 127 => 86 | 5 => 5 | n => n, fun | n => n⟩
theorem Tryd.laysM316 : Go.Proofs.LaysM.n316 Tryd.prog Tryd.laysM316_ren := {
  mixed := by kernel_rfl
  f316 := Tryd.func72.trans (congrArg some (by kernel_rfl))
  t0 := Tryd.underlying0
  a0 := Tryd.isAgg0
  z0 := Tryd.sizeOf0
  v0 := Tryd.zeroValue0
  t3 := Tryd.underlying3
  a3 := Tryd.isAgg3
  z3 := Tryd.sizeOf3
  v3 := Tryd.zeroValue3
  t4 := Tryd.underlying4
  a4 := Tryd.isAgg4
  z4 := Tryd.sizeOf4
  v4 := Tryd.zeroValue4
  t9 := Tryd.underlying9
  a9 := Tryd.isAgg9
  z9 := Tryd.sizeOf9
  v9 := Tryd.zeroValue9
  t37 := Tryd.underlying69
  a37 := Tryd.isAgg69
  z37 := Tryd.sizeOf69
  v37 := Tryd.zeroValue69
  t127 := Tryd.underlying86
  a127 := Tryd.isAgg86
  z127 := Tryd.sizeOf86
  v127 := Tryd.zeroValue86
  t5 := Tryd.underlying5
  a5 := Tryd.isAgg5
  z5 := Tryd.sizeOf5
  v5 := Tryd.zeroValue5
  i0 := by kernel_rfl
  i3 := by kernel_rfl
  i4 := by kernel_rfl
  i5 := by kernel_rfl
  i9 := by kernel_rfl
  i37 := by kernel_rfl
  i127 := by kernel_rfl }
open Go.RowKit in
theorem Tryd.stringslite_Clone (s : ByteArray) (w : World) (hlim : s.size ≤ 281474976710656) :
    Calls Tryd.prog 72 #[.string s] w fun e w' => e = .returned (.string s) ∧ Below w.heap.size w w' := Any.stringslite_Clone Tryd.laysM316 s w hlim
end Go.Proofs
/- Parts: the program's Split answers the pieces, each in memory of its own. -/
namespace Go.Proofs.YtlpjigpnpafkiabDoor
open Go.RowKit
set_option maxRecDepth 100000

theorem t9info : (Tryd.prog.info? 9).map (fun i => (i.zero, i.size, i.bytes)) = some (some (.string ⟨#[]⟩), 1, 16) := by kernel_rfl

theorem ownsRow_litS (w : World) : (w.alloc (.cells #[] 9)).ownsRow w.heap.size 9 1 (.slice (some ⟨w.heap.size, 0, none⟩) 0 0) 0 [] :=
  World.ownsRow_lit (base := w.heap.size) (e := 9) (size := 1) w #[] 0 (Nat.le_refl _) (by decide) rfl

theorem rel_stepS {w wr w1 : World} {v v' : Value} {done : List ByteArray} {b : ByteArray} {o : Obj} (hs : w.heap.size ≤ wr.heap.size) (hb : Below w.heap.size w wr) (hown : wr.ownsRow w.heap.size 9 1 v done.length (done.map Value.string))
    (hown' : w1.ownsRow w.heap.size 9 1 v' (done.length + 1) (done.map Value.string ++ [.string b])) (hgrow : (wr.alloc o).grownBy w1 v.ownBlock) :
    w1.ownsRow w.heap.size 9 1 v' (done ++ [b]).length ((done ++ [b]).map Value.string) ∧ Below w.heap.size w w1 := by
  refine ⟨by simpa using hown', (hb.alloc hs o).grown hgrow (by simp; omega) fun k hk => (hown.lt k hk).1⟩

theorem new_cellS (w : World) (u : Value) (e : TypeId) : ∀ (j : Nat) (x : Value), [u][j]? = some x → (w.alloc (.cells #[u] e)).cell? ((⟨w.heap.size, 0, none⟩ : Addr).add j) = some x := by
  intro j x hj
  match j, hj with
  | 0, hj => simp at hj; subst hj; simp [Addr.add]

theorem clone_any (s : ByteArray) (w : World) (hs : s.size ≤ 1048576) : Calls Tryd.prog 64 #[.string s] w fun e w' => e = .returned (.string s) ∧ Below w.heap.size w w' := by
  go_enter Tryd.func64, Tryd.ntmps64
  go_wp2_with fail
  refine (Tryd.stringslite_Clone s w (by omega)).mono ?_
  rintro e w' ⟨rfl, hb⟩
  go_wp2
  go_ret
  exact ⟨rfl, hb⟩

theorem pieces_small (b : UInt8) (s : ByteArray) (p : ByteArray) (h : p ∈ pieces b s) : p.size ≤ s.size := by
  unfold pieces at h
  obtain ⟨x, hx, rfl⟩ := List.mem_map.1 h
  have key : ∀ (r cu : List UInt8), x ∈ cuts b cu r → x.length ≤ cu.length + r.length := by
    intro r
    induction r with
    | nil => intro cu h; simp [cuts] at h; subst h; simp
    | cons c r ih =>
      intro cu h
      unfold cuts at h
      split at h
      · rcases List.mem_cons.1 h with rfl | h
        · simp
        · have := ih [] h; simp at this ⊢; omega
      · have := ih _ h; simp at this ⊢; omega
  have h2 := key _ _ hx
  have h3 : (mkB x).size = x.length := by simp [mkB, ByteArray.size]
  rw [h3]
  simpa using h2

set_option maxHeartbeats 1600000 in
theorem implParts_any (s : ByteArray) (b : UInt8) (m : Int) (w : World) (hs : s.size ≤ 1048576) (hg : 0 < w.heap.size) (hm : w.cell? ⟨0, 0, none⟩ = some (.int .i64 m)) :
    Calls Tryd.prog 50 #[.string s, .int .u8 (b.toNat : Int)] w fun e w' => ∃ v, e = .returned v ∧ w'.ownsRow w.heap.size 9 1 v (pieces b s).length ((pieces b s).map Value.string) ∧ Below w.heap.size w w' := by
  have ot := one_text
  have S : ∀ o, Calls Tryd.prog 68 #[.string s, .string ⟨#[b]⟩] (w.alloc o) fun e w' => e = .returned (.slice (some ⟨w.heap.size + 1, 0, none⟩) (pieces b s).length (pieces b s).length) ∧ w'.ownsRow w.heap.size 9 1 (.slice (some ⟨w.heap.size + 1, 0, none⟩) (pieces b s).length (pieces b s).length) (pieces b s).length ((pieces b s).map Value.string) ∧ Below w.heap.size w w' := by
    intro o
    refine (Tryd.strings_Split s ⟨#[b]⟩ m (w.alloc o) (by omega) ((World.cell?_alloc_past _ _ _ hg).trans hm) (by exact Nat.le_refl _)).mono ?_
    rintro e w' ⟨rfl, rfl⟩
    rw [count_pieces, split_all]
    have hb := pieces_len b s
    refine ⟨by simp, ?_, ((Below.refl _ _).alloc (Nat.le_refl _) _).alloc (by simp) _⟩
    have := World.ownsRow_lit (base := w.heap.size) (e := 9) (size := 1) (w.alloc o) ((pieces b s).map Value.string).toArray (pieces b s).length (by simp) (by unfold maxLen; omega) (by simp)
    simpa using this
  have hpl := pieces_len b s
  have hps := pieces_small b s
  generalize pieces b s = ps at S hpl hps ⊢
  have HPS : Hid (∀ p, p ∈ ps → p.size ≤ s.size) := hps
  clear hps hm hg
  go_enter Tryd.func50, Tryd.ntmps50
  go_wp2_with fail
  refine (S _).mono ?_
  clear S ot
  rintro e w1 ⟨rfl, ho, hb⟩
  go_wp2
  go_loopw [15] (fun i wr => ∃ k : Nat, i = .int .i64 k ∧ k ≤ ps.length ∧ wr.ownsRow w.heap.size 9 1 (.slice (some ⟨w.heap.size + 1, 0, none⟩) ps.length ps.length) ps.length (ps.map Value.string) ∧ Below w.heap.size w wr) (fun i _ => ps.length - (intOf i).toNat)
  case atStart => exact ⟨0, rfl, by omega, ho, hb⟩
  case round =>
    obtain ⟨k, rfl, hk, hown, hbr⟩ := hrel
    clear ho hb
    by_cases hlt : k < ps.length
    · have hck : wr.cell? ⟨w.heap.size + 1, k, none⟩ = some (.string ps[k]) := by rw [hown.cellAt k (by omega)]; simp [hlt]
      have hpk : ps[k].size ≤ s.size := HPS.out _ (List.getElem_mem hlt)
      have hset : (ps.map Value.string).set k (.string ps[k]) = ps.map Value.string := by
        apply List.ext_getElem?
        intro j
        rw [List.getElem?_set]
        split
        · next e => subst e; simp [hlt]
        · rfl
      have HSet : Hid ((ps.map Value.string).set k (.string ps[k]) = ps.map Value.string) := hset
      clear hset
      generalize ps[k] = t at hck hpk HSet
      go_wp2_with fail
      refine (clone_any t wr (by omega)).mono ?_
      rintro e w2 ⟨rfl, hb2⟩
      have hown2 := own_below hown hb2
      have hs2 := hbr.size
      have hc2 : w2.cell? ⟨w.heap.size + 1, k, none⟩ = some (.string t) := (hb2.cell (p := ⟨w.heap.size + 1, k, none⟩) (hown.lt _ rfl).2).trans hck
      have hf2 : w2.frozen? ⟨w.heap.size + 1, k, none⟩ = false := hown2.frozenAt k
      have hst := hown2.stored k (.string t)
      rw [HSet.out] at hst
      have hbs : Below w.heap.size w (w2.setCell ⟨w.heap.size + 1, k, none⟩ (.string t)) := (hbr.trans (hb2.mono hs2)).setCell (p := ⟨w.heap.size + 1, k, none⟩) (by simp) _
      have HST : Hid ((w2.setCell ⟨w.heap.size + 1, k, none⟩ (.string t)).ownsRow w.heap.size 9 1 (.slice (some ⟨w.heap.size + 1, 0, none⟩) ps.length ps.length) ps.length (ps.map Value.string) ∧ Below w.heap.size w (w2.setCell ⟨w.heap.size + 1, k, none⟩ (.string t))) := ⟨hst.1, hbs⟩
      clear hst hbs hown hown2 hbr hck hb2
      go_wp2
      go_roundw
      case rel => exact ⟨k + 1, by go_num, by omega, HST.out.1, HST.out.2⟩
      case measure => simp [intOf]; omega
    · go_wp2
      go_ret
      exact ⟨_, rfl, hown, hbr⟩
end Go.Proofs.YtlpjigpnpafkiabDoor
/- The cuts of an attribute's text, read by the program. -/
namespace Go.Proofs.YtlpjigpnpafkiabDoor
open Go.RowKit
set_option maxRecDepth 100000

/-- What the readers want of the package's variables and the library's. -/
def Env (u : TypeId) (ev : Value) (m : Int) (w : World) : Prop :=
  Ready u ev w ∧ 0 < w.heap.size ∧ w.cell? ⟨0, 0, none⟩ = some (.int .i64 m)
theorem Env.later {u : TypeId} {ev : Value} {m : Int} {w w' : World} (h : Env u ev m w) (hb : Below w.heap.size w w') : Env u ev m w' :=
  ⟨h.1.later hb, Nat.lt_of_lt_of_le h.2.1 hb.size, (hb.cell (p := ⟨0, 0, none⟩) h.2.1).trans h.2.2⟩

theorem iParts_any (s : ByteArray) (b : UInt8) (u : TypeId) (ev : Value) (m : Int) (w : World) (hs : s.size ≤ 1048576) (hE : Env u ev m w) :
    Calls Tryd.prog 50 #[.string s, .int .u8 (b.toNat : Int)] w fun e w' => ∃ v, e = .returned v ∧ w'.ownsRow w.heap.size 9 1 v (pieces b s).length ((pieces b s).map Value.string) ∧ Below w.heap.size w w' :=
  implParts_any s b m w hs hE.2.1 hE.2.2
theorem iSigned_any (s : ByteArray) (u : TypeId) (ev : Value) (m : Int) (w : World) (hs : s.size ≤ 1048576) (hE : Env u ev m w) :
    Calls Tryd.prog 73 #[.string s] w fun e w' => e = .returned (gotInt (sigSpec s.data.toList)) ∧ Below w.heap.size w w' := by
  rw [signed_one]
  exact implSigned_any s u ev w hs hE.1

theorem nums_app : ∀ (ps qs : List ByteArray) (zs : List Int), numsOf ps = some zs → numsOf (ps ++ qs) = (numsOf qs).map (zs ++ ·)
  | [], qs, zs, h => by
    simp [numsOf] at h; subst h
    rw [List.nil_append]
    cases numsOf qs <;> rfl
  | p :: r, qs, zs, h => by
    unfold numsOf at h
    cases hp : sigSpec p.data.toList with
    | none => rw [hp] at h; cases h
    | some x =>
      rw [hp] at h
      cases hr : numsOf r with
      | none => rw [hr] at h; cases h
      | some l =>
        rw [hr] at h
        simp only [Option.some.injEq] at h
        subst h
        rw [List.cons_append, numsOf, hp, nums_app r qs l hr]
        cases numsOf qs <;> rfl
theorem nums_len : ∀ {ps : List ByteArray} {zs : List Int}, numsOf ps = some zs → zs.length = ps.length := by
  intro ps zs h
  have := congrArg List.length (nums_map h)
  simpa using this
theorem nums_step {ps : List ByteArray} {k : Nat} {zs : List Int} {x : Int} (hk : k < ps.length) (h : numsOf (ps.take k) = some zs) (hx : sigSpec (tx ps k).data.toList = some x) : numsOf (ps.take (k + 1)) = some (zs ++ [x]) := by
  rw [List.take_succ_eq_append_getElem hk, ← tx_eq hk, nums_app _ _ zs h]
  unfold numsOf
  rw [hx]
  rfl
theorem nums_stop {ps : List ByteArray} {k : Nat} {zs : List Int} (hk : k < ps.length) (h : numsOf (ps.take k) = some zs) (hx : sigSpec (tx ps k).data.toList = none) : numsOf ps = none := by
  have e : ps = ps.take k ++ (tx ps k :: ps.drop (k + 1)) := by rw [tx_eq hk, ← List.drop_eq_getElem_cons hk, List.take_append_drop]
  rw [e, nums_app _ _ zs h]
  unfold numsOf
  rw [hx]
  rfl
theorem sig_in {l : List UInt8} {x : Int} (h : sigSpec l = some x) : -9999 ≤ x ∧ x ≤ 9999 := ⟨((sigSpec_iff _ _).1 h).1, ((sigSpec_iff _ _).1 h).2.1⟩

/-- What the reader of cuts hands back. -/
def CutsGot (base : Nat) (w : World) (o : Option (List Int)) (v : Value) : Prop := match o with
  | none => v = .tuple #[.slice none 0 0, .bool false]
  | some zs => ∃ c, v = .tuple #[c, .bool true] ∧ w.ownsRow base 3 1 c zs.length (zs.map (Value.int .i64))

set_option maxHeartbeats 1600000 in
theorem cutsRead_any (s : ByteArray) (u : TypeId) (ev : Value) (m : Int) (w : World) (hs : s.size ≤ 1048576) (hE : Env u ev m w) :
    Calls Tryd.prog 65 #[.string s] w fun e w' => ∃ v, e = .returned v ∧ CutsGot w.heap.size w' (numsOf (pieces 44 s)) v ∧ Below w.heap.size w w' := by
  obtain ⟨i0, hi, hz0, hz1, hz2⟩ := info_parts intInfo
  have cP := iParts_any s 44 u ev m w hs hE
  have hpl := pieces_len 44 s
  have HPS : Hid (∀ p ∈ pieces 44 s, p.size ≤ 1048576) := fun p hp => Nat.le_trans (pieces_small 44 s p hp) hs
  have HE : Hid (Env u ev m w) := hE
  clear hE
  generalize pieces 44 s = ps at cP hpl HPS
  have hps : ps.length ≤ 1048577 := by omega
  clear hpl
  go_enter Tryd.func65, Tryd.ntmps65
  go_wp2_with fail
  refine cP.mono ?_
  rintro e w1 ⟨v1, rfl, ho1, hb1⟩
  clear cP
  have hrow := RowS.of_own ho1 rfl
  obtain ⟨oa, ca, rfl, hca, hr⟩ := hrow
  have HR : Hid (0 < ps.length → ∃ g o, oa = some ⟨g, o, none⟩ ∧ g < w1.heap.size ∧ ∀ j, j < ps.length → w1.cell? ⟨g, o + j, none⟩ = some (.string (tx ps j))) := hr
  have HB1 : Hid (Below w.heap.size w w1) := hb1
  have hsz1 := hb1.size
  clear hr ho1 hb1
  go_wp2
  go_loopw [4, 12] (fun v i wr => ∃ (k : Nat) (zs : List Int), i = .int .i64 k ∧ k ≤ ps.length ∧ numsOf (ps.take k) = some zs ∧ wr.ownsRow w1.heap.size 3 1 v k (zs.map (Value.int .i64)) ∧ Below w1.heap.size w1 wr) (fun _ i _ => ps.length - (intOf i).toNat)
  case atStart => exact ⟨0, [], rfl, by omega, rfl, ⟨by simp, .inl ⟨rfl, rfl⟩⟩, Below.refl _ _⟩
  case round =>
    obtain ⟨k, zs, rfl, hk, hzs, hown, hbr⟩ := hrel
    have HZ : Hid (numsOf (ps.take k) = some zs) := hzs
    have HBW : Hid (Below w1.heap.size w1 wr) := hbr
    have hbw := HB1.out.trans (hbr.mono HB1.out.size)
    clear hzs
    by_cases hlt : k < ps.length
    · obtain ⟨g, o, rfl, hg, hj⟩ := HR.out (by omega)
      have hcell : wr.cell? ⟨g, o + k, none⟩ = some (.string (tx ps k)) := (hbr.cell (p := ⟨g, o + k, none⟩) hg).trans (hj k hlt)
      clear hj
      have cS := iSigned_any (tx ps k) u ev m wr (HPS.out _ (tx_mem hlt)) (HE.out.later hbw)
      cases hx : sigSpec (tx ps k).data.toList with
      | none =>
        have HF : Hid (numsOf ps = none) := nums_stop hlt HZ.out hx
        rw [hx] at cS
        unfold gotInt at cS
        clear hx
        go_wp2_with fail
        refine cS.mono ?_
        rintro e w2 ⟨rfl, hb2⟩
        clear cS hcell
        go_wp2
        go_ret2
        exact ⟨_, rfl, by rw [HF.out]; rfl, hbw.trans (hb2.mono hbw.size)⟩
      | some x =>
        have HN : Hid (numsOf (ps.take (k + 1)) = some (zs ++ [x])) := nums_step hlt HZ.out hx
        obtain ⟨x0, x1⟩ := sig_in hx
        rw [hx] at cS
        unfold gotInt at cS
        clear hx
        go_wp2_with fail
        refine cS.mono ?_
        rintro e w2 ⟨rfl, hb2⟩
        clear cS hcell hbw
        have hbr2 := hbr.trans (hb2.mono hbr.size)
        have hown2 := own_below hown hb2
        have hsz2 := hbr2.size
        have HB2 : Hid (Below w1.heap.size w1 w2) := hbr2
        clear hown hb2 hbr hbr2
        go_wp2_with (at_builtin; refine wpList_append_own _ rfl _ _ 22 rfl w1.heap.size 3 i0 (.int .i64 0) 1 8 Tryd.underlying22 hi hz0 hz1 hz2 rfl (by decide) _ _ _ rfl (hown2.alloc _) ⟨w2.heap.size, 0, none⟩ 1 1 [_] rfl rfl (newc _ _ _) ?d2 ?d3 ?d4 ?d5 ?_)
        case d2 => intro u hu; simp at hu; subst hu; rfl
        case d3 => unfold maxLen; omega
        case d4 => omega
        case d5 => simp; omega
        intro v' w3 hown' hgrow _
        have R : w3.ownsRow w1.heap.size 3 1 v' (k + 1) ((zs ++ [x]).map (Value.int .i64)) := by simpa using hown'
        have BB : Below w1.heap.size w1 w3 := (HB2.out.alloc hsz2 _).grown hgrow (by simp; omega) fun j hj => (hown2.lt j hj).1
        clear hown' hgrow hown2
        go_wp2
        go_roundw
        case rel => exact ⟨k + 1, _, by go_num, by omega, HN.out, R, BB⟩
        case measure => simp [intOf]; omega
    · obtain rfl : k = ps.length := by omega
      have hN := HZ.out
      rw [List.take_length] at hN
      have hln := nums_len hN
      have HF : Hid (numsOf ps = some zs) := hN
      clear hN
      go_wp2
      go_ret2
      refine ⟨_, rfl, ?_, hbw⟩
      rw [HF.out]
      refine ⟨_, rfl, ?_⟩
      rw [hln]
      exact own_base hown (by omega)
end Go.Proofs.YtlpjigpnpafkiabDoor
/- In a region that draws its order: what may be taken first, what comes next. -/
namespace Go.Proofs.YtlpjigpnpafkiabDoor
open Go.RowKit
set_option maxRecDepth 100000

section
variable {Pr : Program} {ops : Array Oper} {Q : Exit → Act → World → Prop} {md : Region.Mode} {S : World → Prop}
/-- An operation that may come up now is taken first; it is read off the list, so that it stands written out. -/
theorem takeL (i : Nat) {oi : Oper} (v : Value) {fuel : Nat} {listed : Array Bool} {a : Act} {w : World} (hi : ops.toList[i]? = some oi)
    (hs : Region.noSelect ops = true) (hf : Region.free md ops listed i = true) (hr : (Region.ready md ops listed).contains i = true)
    (hQ : ∀ c a w, Q (.panic c) (a.put oi.dst v) w → Q (.panic c) a w) (hy : YieldsIf Pr ops S oi v a) (hS : S w)
    (h : wpAnyH Pr md ops Q S fuel (listed.setIfInBounds i true) (a.put oi.dst v) w) : wpAnyH Pr md ops Q S (fuel + 1) listed a w :=
  wpAnyH_take (by simpa using hi) hs hf hr hQ hy hS h
/-- The one operation that may come up now. -/
theorem nextL (i : Nat) {oi : Oper} {fuel : Nat} {listed : Array Bool} {a : Act} {w : World} (hi : ops.toList[i]? = some oi) (hr : Region.ready md ops listed = [i])
    (hw : Region.wanted oi (yielded ops a.tmps) = true)
    (h : ∀ K' : Act → World → Prop, (∀ a w, S w → (S w → wpAnyH Pr md ops Q S fuel (listed.setIfInBounds i true) a w) → K' a w) → Oper.wp Pr oi a w K' Q) : wpAnyH Pr md ops Q S (fuel + 1) listed a w := by
  refine wpAnyH_ready hr (by simp) (AllReadyH.cons (o := oi) (by simpa using hi) (fun K hK => ?_) AllReadyH.nil)
  rw [if_pos hw]
  exact h K hK.out
/-- Two may come up now, in either order. -/
theorem next2L (i j : Nat) {oi oj : Oper} {fuel : Nat} {listed : Array Bool} {a : Act} {w : World} (hi : ops.toList[i]? = some oi) (hj : ops.toList[j]? = some oj) (hr : Region.ready md ops listed = [i, j])
    (hw : Region.wanted oi (yielded ops a.tmps) = true) (hw2 : Region.wanted oj (yielded ops a.tmps) = true)
    (h : ∀ K' : Act → World → Prop, (∀ a w, S w → (S w → wpAnyH Pr md ops Q S fuel (listed.setIfInBounds i true) a w) → K' a w) → Oper.wp Pr oi a w K' Q)
    (h2 : ∀ K' : Act → World → Prop, (∀ a w, S w → (S w → wpAnyH Pr md ops Q S fuel (listed.setIfInBounds j true) a w) → K' a w) → Oper.wp Pr oj a w K' Q) : wpAnyH Pr md ops Q S (fuel + 1) listed a w := by
  refine wpAnyH_ready hr (by simp) (AllReadyH.cons (o := oi) (by simpa using hi) (fun K hK => ?_) (AllReadyH.cons (o := oj) (by simpa using hj) (fun K hK => ?_) AllReadyH.nil))
  · rw [if_pos hw]
    exact h K hK.out
  · rw [if_pos hw2]
    exact h2 K hK.out
end

section
variable {ops : Array Oper} {S : World → Prop} {op : Oper} {a : Act}
/-- The load of one integer. -/
theorem yields_int (hw : Region.wanted op (yielded ops a.tmps) = true) (x : Operand) (ho : op.op = .load 3 x) (p : Addr) (hx : a.eval x = .pointer (some p)) (n : Int)
    (hS : ∀ w, S w → w.cell? p = some (.int .i64 n)) : YieldsIf Tryd.prog ops S op (.int .i64 n) a :=
  .inl ⟨hw, fun w hw' => by
    have h := hS w hw'
    unfold execOp
    simp only [ho, hx]
    go_simp⟩
/-- A quotient. -/
theorem yields_quo (hw : Region.wanted op (yielded ops a.tmps) = true) (x y : Operand) (ho : op.op = .binOp .quo 3 x y 3) (m n : Int) (hx : a.eval x = .int .i64 m) (hy : a.eval y = .int .i64 n)
    (h0 : 0 ≤ m) (h1 : m ≤ 9223372036854775807) (h2 : 0 < n) : YieldsIf Tryd.prog ops S op (.int .i64 (m / n)) a :=
  .inl ⟨hw, fun w hw' => by
    have hle : m / n ≤ m := Int.ediv_le_self _ h0
    have hge : 0 ≤ m / n := Int.ediv_nonneg h0 (by omega)
    unfold execOp
    simp only [ho, hx, hy]
    go_simp
    have e : IntKind.i64.wrap (m.tdiv n) = m / n := by rw [IntKind.wrap_i64, Int.tdiv_eq_ediv_of_nonneg h0]; omega
    rw [if_neg (by omega), e]⟩
/-- Two texts, one behind the other. -/
theorem yields_cat (hw : Region.wanted op (yielded ops a.tmps) = true) (x y : Operand) (ho : op.op = .binOp .add 9 x y 9) (s t : ByteArray) (hx : a.eval x = .string s) (hy : a.eval y = .string t)
    (h : s.size + t.size ≤ 1000000) : YieldsIf Tryd.prog ops S op (.string (s ++ t)) a :=
  .inl ⟨hw, fun w hw' => by
    unfold execOp
    simp only [ho, hx, hy]
    go_simp
    omega⟩
end
end Go.Proofs.YtlpjigpnpafkiabDoor
