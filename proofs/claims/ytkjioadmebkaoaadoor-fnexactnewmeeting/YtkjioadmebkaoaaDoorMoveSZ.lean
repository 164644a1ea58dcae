/- So many noughts put behind a row of bytes: as a string of them would be. The contracts of the model's l4Bytes and l5Kept. The contracts of the model's l5Gap and MovePlace. -/
import Derived.Lib.AppendStr
import Derived.Test.YtkjioadmebkaoaaDoorOpSM
import Derived.Test.YtkjioadmebkaoaaDoorMoveM
import Derived.Test.YtkjioadmebkaoaaDoorWalks6
import Derived.Test.YtkjioadmebkaoaaDoorOwnG
import Derived.Test.YtkjioadmebkaoaaDoorCells
import Derived.Test.YtkjioadmebkaoaaDoorWalksQ
namespace Go.Proofs.YtkjioadmebkaoaaDoor
open Go

/-- A string of noughts. -/
def zs (n : Nat) : ByteArray := ⟨(List.replicate n 0).toArray⟩
theorem zs_size (n : Nat) : (zs n).size = n := by show (List.replicate n (0 : UInt8)).toArray.size = n; simp
theorem zs_list (n : Nat) : (zs n).data.toList = List.replicate n 0 := by simp [zs]
theorem zeroCells_zs (n : Nat) : Builtin.zeroCells (Value.int .u8 0).cells n = (Go.Lib.strCells (zs n)).toArray := by
  apply Array.ext
  · simp [Builtin.zeroCells, Go.Lib.strCells, zs_list, Value.cells]
  · intro i h1 h2
    simp [Builtin.zeroCells, Go.Lib.strCells, zs_list, Value.cells, Nat.mod_one]
theorem run_zeros {P : Program} (w : World) (t u k ty e : TypeId) (i : TypeInfo) (ht : P.underlying t = some (.slice e)) (hu : P.underlying u = some .string) (hk : P.underlying k = some (.int .i64)) (hi : P.info? e = some i) (hz : i.zero = some (.int .u8 0)) (hsize : i.size = 1) (hby : i.bytes = 1)
    (base : Option Addr) (len cap n : Nat) (hlc : len ≤ cap) (hlen : len ≤ 1000000) (hn : n ≤ 1000000) :
    (Builtin.append_ #[t, k] ty #[.slice base len cap, .int .i64 n]).run P w = (Builtin.append_ #[t, u] ty #[.slice base len cap, .string (zs n)]).run P w := by
  have hw : IntKind.i64.wrap (n : Int) = n := by
    simp only [IntKind.wrap, IntKind.signed, IntKind.bits]
    simp
    omega
  have e1 : ¬ ((n : Int) < 0) := by omega
  have e2 : ¬ (281474976710656 < (n : Int)) := by omega
  have h63 : ¬ (9223372036854775807 < ((len : Int) + (n : Int))) := by omega
  have hf := fun W => Go.Lib.run_firstCells_string (P := P) W 1 (zs n)
  rw [zs_size] at hf
  have hA : (asInt (.int .i64 (n : Int))).run P w = .ok (n : Int) w := by simp [asInt, asIntOf]
  have hA0 : (asInt (.int .i64 0)).run P w = .ok 0 w := by simp [asInt, asIntOf]
  have hw0 : IntKind.i64.wrap 0 = 0 := by decide
  have z0 : Go.Lib.strCells (zs 0) = [] := by simp [Go.Lib.strCells, zs_list]
  by_cases hr : len + n ≤ cap
  · by_cases h0 : n = 0
    · subst h0
      simp [Builtin.append_, run_underlying ht, run_underlying hu, run_underlying hk, sizeOf, typeInfo, hi, hsize, hby, Builtin.lenOf, hA0, hw0, hlc, hf, zs_size, z0]
    · have h0' : ¬ ((n : Int) ≤ 0) := by omega
      simp [Builtin.append_, run_underlying ht, run_underlying hu, run_underlying hk, sizeOf, typeInfo, zeroValue, hi, hz, hsize, hby, Builtin.lenOf, hA, hw, e1, e2, hr, hf, zs_size, zeroCells_zs, h0]
  · have h48 : ¬ (281474976710656 < Builtin.nextslicecap (len + n) cap) := by
      have := growslice_fits (need := len + n) (old := cap) (bytes := 1) (by omega) (by omega)
      omega
    have h0 : ¬ n = 0 := by omega
    simp [Builtin.append_, run_underlying ht, run_underlying hu, run_underlying hk, sizeOf, typeInfo, zeroValue, hi, hz, hsize, hby, Builtin.lenOf, hA, hw, e1, e2, hr, h63, h48, hf, zs_size, zeroCells_zs, h0]
theorem wpList_zeros {P : Program} (w : World) {ops : Array Oper} {rest : List Oper} {o : Oper} {a : Act} {Q : Exit → Act → World → Prop} (hgd : o.guard = none) (sl x : Operand) (t k u : TypeId)
    (ho : o.op = .call { callee := .builtin .append, args := #[sl, x], argTypes := #[t, k] }) (base : Nat) (e : TypeId) (i : TypeInfo)
    (ht : P.underlying t = some (.slice e)) (hk : P.underlying k = some (.int .i64)) (hu : P.underlying u = some .string) (hi : P.info? e = some i) (hz : i.zero = some (.int .u8 0)) (hsize : i.size = 1) (hby : i.bytes = 1)
    (v : Value) (n : Nat) (xs : List Value) (hs : a.eval sl = v) (hown : w.ownsRow base e 1 v n xs) (m : Nat) (hx : a.eval x = .int .i64 m) (hn : n ≤ 1000000) (hm : m ≤ 1000000) (hbase : base ≤ w.heap.size)
    (h : ∀ v' w', w'.ownsRow base e 1 v' (n + m) (xs ++ Go.Lib.strCells (zs m)) → w.grownBy w' v.ownBlock → wpList P ops Q rest (a.put o.dst v') w') : wpList P ops Q (o :: rest) a w := by
  have hsz := zs_size m
  have hsh : ∃ b cap, v = .slice b n cap ∧ n ≤ cap := by
    rcases hown.2 with ⟨rfl, rfl⟩ | ⟨g, cap, cur, rfl, _, _, hnc, _⟩
    · exact ⟨none, 0, rfl, Nat.le_refl _⟩
    · exact ⟨_, cap, rfl, hnc⟩
  obtain ⟨b, cap, rfl, hlc⟩ := hsh
  obtain ⟨v', w', hr, h2, h3, -⟩ := Go.Lib.run_append_own_string (P := P) w base t u o.type e i ht hu hi hz hsize hby _ n xs hown (zs m) (by unfold maxLen; omega) (by omega) hbase
  rw [← run_zeros w t u k o.type e i ht hu hk hi hz hsize hby b n cap m hlc hn hm] at hr
  rw [hsz] at h2
  refine wpList_plain hgd fun K hK => ?_
  unfold Oper.wp execOp
  simp only [ho, resolve, invoke, builtin, Sem.run_bind, Sem.run_pure, Result.andThen_ok, List.map_toArray, List.map_cons, List.map_nil, hs, hx, hr]
  exact hK _ _ (h v' w' h2 h3)
end Go.Proofs.YtkjioadmebkaoaaDoor

namespace Go.Proofs.YtkjioadmebkaoaaDoor
open Go.RowKit
open Doc1

theorem Tryd.info5m : (Tryd.prog.info? 5).map (fun i => (i.zero, i.size, i.bytes)) = some (some (.int .u8 0), 1, 1) := by kernel_rfl
theorem new3_2 (w : World) (a b c : Value) (t : TypeId) : (w.alloc (.cells #[a, b, c] t)).cell? ⟨w.heap.size, 2, none⟩ = some c := by
  unfold World.cell?
  rw [heap_alloc_new]
  rfl
theorem zs_byt (n : Nat) : Go.Lib.strCells (zs n) = byt (List.replicate n 0) := by simp [Go.Lib.strCells, byt, zs_list]
theorem str_byt (s : ByteArray) : Go.Lib.strCells s = byt s.data.toList := by simp [Go.Lib.strCells, byt]
theorem byt_cat (a b : List UInt8) : byt (a ++ b) = byt a ++ byt b := by simp [byt]
theorem own_len {w : World} {B n n' : Nat} {v : Value} {xs ys : List Value} (h : w.ownsRow B 5 1 v n xs) (hn : n = n') (hx : xs = ys) : w.ownsRow B 5 1 v n' ys := by subst hn; subst hx; exact h

theorem below_owned {B : Nat} {w w1 w2 : World} {e : TypeId} {size n : Nat} {v : Value} {xs : List Value} (hb : Below B w w1) (hown : w1.ownsRow B e size v n xs) (hB : B ≤ w1.heap.size) (hg : w1.grownBy w2 v.ownBlock) : Below B w w2 := by
  refine hb.grown hg hB ?_
  intro k hk
  rcases hown.2 with ⟨hv, _⟩ | ⟨g, cap, cur, hv, hg', _⟩
  · subst hv; simp [Value.ownBlock] at hk
  · subst hv; simp [Value.ownBlock] at hk; omega
theorem cell_kept {w w2 : World} {B n sz : Nat} {e : TypeId} {v : Value} {xs : List Value} (_hown : w.ownsRow B e sz v n xs) (hg : w.grownBy w2 v.ownBlock) {b : Nat} (hb : b < w.heap.size) (hne : v.ownBlock ≠ some b) (j : Nat) : w2.cell? ⟨b, j, none⟩ = w.cell? ⟨b, j, none⟩ :=
  World.cell?_of_block (hg.block b hb (fun e => hne e.symm))

set_option maxRecDepth 100000 in
set_option maxHeartbeats 2000000 in
theorem l4Bytes_any {w : World} {aw : Option Addr} {g cap : Nat} {l : List Pt} (h : Pin w aw g cap l) (h60 : l.length ≤ 60) (hgp : ∀ p ∈ l, pk p ≠ 0) :
    Calls Tryd.prog 227 #[.slice aw l.length cap] w fun e w' => ∃ v, e = .returned v ∧ w'.ownsRow w.heap.size 5 1 v (byL l).length (byt (byL l)) ∧ Below w.heap.size w w' := by
  obtain ⟨i0, hi0, hz0, hz1, hz2⟩ := info_parts Tryd.info5m
  have hcp := h.cap
  have H := hide h
  have HG := hide hgp
  clear h hgp
  go_enter Tryd.func227, Tryd.ntmps227
  go_wp2
  go_loopw [3, 8] (fun o i wr => ∃ k : Nat, k ≤ l.length ∧ i = .int .i64 k ∧ wr.ownsRow w.heap.size 5 1 o (byL (l.take k)).length (byt (byL (l.take k))) ∧ Below w.heap.size w wr) (fun _ i _ => l.length - (intOf i).toNat)
  case atStart => exact ⟨0, by omega, rfl, World.ownsRow_nil _ _ _ _, Below.refl _ _⟩
  case round =>
    obtain ⟨k, hk, rfl, hown, hbel⟩ := hrel
    by_cases hlt : k < l.length
    · obtain rfl := H.out.adr hlt
      obtain ⟨c0, c1, c2⟩ := (H.out.later hbel).at'.ptat k hlt
      have b1 := (all_bd (l.take k) (fun p hp => HG.out p (List.mem_of_mem_take hp))).1
      rw [← byL_len (l.take k) (fun p hp => HG.out p (List.mem_of_mem_take hp))] at b1
      have hl1 : (l.take k).length ≤ 60 := by rw [List.length_take]; omega
      have b2 := (pk_bd (HG.out l[k] (List.getElem_mem hlt))).1
      have kn := keep_nn (HG.out l[k] (List.getElem_mem hlt))
      obtain ⟨m, hm⟩ : ∃ m : Nat, l[k].keep = (m : Int) := ⟨l[k].keep.toNat, by omega⟩
      unfold tk1 at b2
      have hN : Hid (byL (l.take (k + 1)) = byL (l.take k) ++ (List.replicate m 0 ++ l[k].drop.data.toList)) := hide (by
        rw [List.take_succ_eq_append_getElem hlt, byL_snoc, hm, Int.toNat_natCast])
      rw [hm] at c0 b2
      clear hm kn
      have ha := hbel.alloc hbel.size (.cells #[.int .i64 (m : Int), .string l[k].put, .string l[k].drop] 136)
      have o2 := hown.alloc (.cells #[.int .i64 (m : Int), .string l[k].put, .string l[k].drop] 136)
      have hbig : (byL (l.take k)).length ≤ 18000 := by omega
      obtain ⟨a0, cap0, rfl, -, -⟩ := own_shp o2
      have hne : (Value.slice a0 (byL (l.take k)).length cap0).ownBlock ≠ some wr.heap.size := fun e => by have := hown.lt _ e; omega
      clear hown
      go_wp2_with (at_builtin; refine wpList_zeros _ rfl _ _ 22 3 9 rfl w.heap.size 5 i0 Tryd.underlying22 Tryd.underlying3 Tryd.underlying9 hi0 hz0 hz1 hz2 _ _ _ rfl o2 m rfl (by omega) (by omega) ha.size ?_)
      intro v2 w2 own2 hg2
      have hb2 := below_owned ha o2 ha.size hg2
      have d2 : w2.cell? ⟨wr.heap.size, 2, none⟩ = some (.string l[k].drop) := (cell_kept o2 hg2 (by simp) hne 2).trans (new3_2 _ _ _ _ _)
      rw [zs_byt] at own2
      clear hg2 o2 ha
      obtain ⟨a2, cap2, rfl, -, -⟩ := own_shp own2
      go_wp2_with (at_builtin; refine Go.Lib.wpList_append_own_string _ rfl _ _ 22 9 rfl w.heap.size 5 i0 Tryd.underlying22 Tryd.underlying9 hi0 hz0 hz1 hz2 _ _ _ rfl own2 l[k].drop rfl (by unfold maxLen; omega) (by omega) hb2.size ?_)
      intro v3 w3 own3 hg3 _
      have hb3 := below_owned hb2 own2 hb2.size hg3
      rw [str_byt, ← byt_cat, ← byt_cat, ← hN.out] at own3
      have eN : (byL (l.take k)).length + m + l[k].drop.size = (byL (l.take (k + 1))).length := by
        rw [hN.out, List.length_append, List.length_append, List.length_replicate, sz_list]; omega
      rw [eN] at own3
      clear hg3 own2 hb2 eN
      go_wp2
      refine ⟨⟨k + 1, by omega, by go_num, own3, hb3⟩, by simp [intOf]; omega⟩
    · obtain rfl : k = l.length := by omega
      rw [List.take_length] at hown
      go_wp2
      go_ret
      exact ⟨_, rfl, hown, hbel⟩

end Go.Proofs.YtkjioadmebkaoaaDoor

namespace Go.Proofs.YtkjioadmebkaoaaDoor
open Go.RowKit
open Doc1

theorem norm_goodO {l : List Pt} (h : goodO l = true) : goodO (normL l) = true ∧ tkL (normL l) = tkL l ∧ mkL (normL l) = mkL l := by
  have hp := goodO_pk h
  obtain ⟨h60, ht, hm⟩ := goodO_le h
  have hs := stL_sums l hp
  have hl := (norm_bd l hp l.length (Nat.le_refl _)).1
  rw [List.take_length] at hl
  have g1 := gath_sums (stL l) g0 (fun x hx => (stL_so hp x hx).1)
  have g2 := out_sums (gath g0 (stL l))
  rw [norm_gath l hp] at hl ⊢
  have z0 : tkG g0 = 0 ∧ mkG g0 = 0 := by simp [tkG, mkG, g0, tkL, mkL]
  refine ⟨?_, by rw [g2.1, g1.1, z0.1]; omega, by rw [g2.2, g1.2, z0.2]; omega⟩
  rw [goodO_gath _ (stL_so hp)]
  exact decide_eq_true ⟨by omega, by omega, by omega⟩

theorem emp_no {b : List UInt8} (h : b ≠ []) : (ba b).toList.isEmpty = false := by
  rw [ByteArray.toList_eq]
  cases b with
  | nil => exact absurd rfl h
  | cons c b => simp [ba]
theorem pair_ret {x y u v : Int} (h1 : x = u) (h2 : y = v) : Ending.returned (.tuple #[.int .i64 x, .int .i64 y]) = .returned (.tuple #[.int .i64 u, .int .i64 v]) := by rw [h1, h2]

/-- What MovePlace answers. -/
def mvK (l : List Pt) (a : Int) : Bool := decide (goodO l = true ∧ 0 ≤ a ∧ a ≤ tkL l)
def mvA (l : List Pt) (a : Int) (f : Bool) : Int := if mvK l a then (if f then ((mvR l a.toNat).2 : Int) else ((mvR l a.toNat).1 : Int)) else 0

end Go.Proofs.YtkjioadmebkaoaaDoor
