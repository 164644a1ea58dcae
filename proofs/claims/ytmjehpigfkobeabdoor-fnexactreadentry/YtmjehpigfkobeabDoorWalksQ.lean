/- The contracts of chapter 1's readers of documents: balanced texts, documents, depths. The contract of impl.depthsOf: the depths of all places of a document. The contracts of GoodDoc and DepthAt, of the model's and of the program's; their laws. -/
import Derived.Test.YtmjehpigfkobeabDoorWalks1
import Derived.Test.YtmjehpigfkobeabDoorLabels
import Derived.ScopeJumps
namespace Go.Proofs.YtmjehpigfkobeabDoor
open Go.RowKit
open Doc1

theorem dl_op {c : UInt8} (h : opB c = true) : dl c = 1 := by simp [dl, h]
theorem dl_en {c : UInt8} (h : opB c = false) (h2 : ((c.toNat : Int) == 47) = true) : dl c = -1 := by
  have : enB c = true := by simp at h2; simp [enB]; omega
  simp [dl, h, this]
theorem dl_pl {c : UInt8} (h : opB c = false) (h2 : ((c.toNat : Int) == 47) = false) : dl c = 0 := by
  have : enB c = false := by simp at h2; simp [enB]; omega
  simp [dl, h, this]
theorem op_en {c : UInt8} (h : opB c = true) : ((c.toNat : Int) == 47) = false := by
  have := (sep c).2.1
  rw [h] at this
  simp [enB] at this
  simp; omega

theorem op_no_en {c : UInt8} (h : opB c = true) (h2 : ((c.toNat : Int) == 47) = true) : False := by rw [op_en h] at h2; cases h2
theorem bal_rel {b : Bool} {L L' : List UInt8} {x e y : Int} (hr : b = rn L x) (hst : rn L x = (decide (0 ≤ x + e) && decide (x + e ≤ 12) && rn L' (x + e))) (hd : x + e = y) (h0 : 0 ≤ y) (h1 : y ≤ 12) : b = rn L' y := by
  subst hd; rw [hr, hst]; simp [h0, h1]
theorem bal_no {b : Bool} {L L' : List UInt8} {x e y : Int} (hr : b = rn L x) (hst : rn L x = (decide (0 ≤ x + e) && decide (x + e ≤ 12) && rn L' (x + e))) (hd : x + e = y) (h : y < 0 ∨ 12 < y) : false = b := by
  subst hd; rw [hr, hst]; simp; omega

end Go.Proofs.YtmjehpigfkobeabDoor

namespace Go.Proofs.YtmjehpigfkobeabDoor
open Go.RowKit
open Doc1

/-- The table stays as it was where nothing old has turned. -/
theorem Tab.below {w w1 : World} (h : Tab w) (hb : Below w.heap.size w w1) : Tab w1 := fun j hj => cell_later hb (h j hj)

/-- Behind an append to a row of the call's own nothing old has turned. -/
theorem below_append {B : Nat} {w w1 w2 : World} {e : TypeId} {size n : Nat} {v : Value} {xs : List Value} {o : Obj} (hb : Below B w w1) (hown : w1.ownsRow B e size v n xs) (hB : B ≤ w1.heap.size)
    (hg : (w1.alloc o).grownBy w2 v.ownBlock) : Below B w w2 := by
  refine (hb.alloc hB o).grown hg (by simp; omega) ?_
  intro k hk
  rcases hown.2 with ⟨hv, _⟩ | ⟨g, cap, cur, hv, hg', _⟩
  · subst hv; simp [Value.ownBlock] at hk
  · subst hv; simp [Value.ownBlock] at hk; omega

theorem Tryd.info3 : (Tryd.prog.info? 3).map (fun i => (i.zero, i.size, i.bytes)) = some (some (.int .i64 0), 1, 8) := by kernel_rfl

/-- The frame of depthsOf behind its first rows. -/
abbrev dfrm (s : ByteArray) (v4 v5 v6 u7 u8 u9 u10 u11 u12 u13 u14 u15 u16 u17 u18 u19 u20 u21 u22 u23 u24 u25 u26 u27 u28 u29 u30 u31 u32 u33 u34 u35 u36 u37 u38 u39 : Value) : Act :=
  { tmps := #[.string s, undef, .slice none 0 0, .bool false, v4, v5, v6, u7, u8, u9, u10, u11, u12, u13, u14, u15, u16, u17, u18, u19, u20, u21, u22, u23, u24, u25, u26, u27, u28, u29, u30, u31, u32, u33, u34, u35, u36, u37, u38, u39], defers := [] }

/-- What is known at a place of depthsOf: the depths so far, and what is still to be read. -/
structure DAt (s : ByteArray) (w : World) (v : Value) (k : Nat) (L : List Int) (R : List Int) (w1 : World) : Prop where
  hk : k ≤ s.size
  len : L.length = k
  own : w1.ownsRow w.heap.size 3 1 v L.length (L.map (Value.int .i64))
  below : Below w.heap.size w w1
  all : dps s.data.toList 0 = L ++ R
  ok : good s.data.toList = true

def DJ (s : ByteArray) (w : World) : Nat → Act → World → Prop
  | 0, a, w1 => ∃ (v : Value) (k : Nat) (d : Int) (L : List Int), DAt s w v k L (dps (s.data.toList.drop k) d) w1 ∧ 0 ≤ d ∧ d ≤ 12 ∧ Hid (rn s.data.toList 0 = rn (s.data.toList.drop k) d) ∧ ∃ u7 u8 u9 u10 u11 u12 u13 u14 u15 u16 u17 u18 u19 u20 u21 u22 u23 u24 u25 u26 u27 u28 u29 u30 u31 u32 u33 u34 u35 u36 u37 u38 u39 : Value, a = dfrm s v (.int .i64 k) (.int .i64 d) u7 u8 u9 u10 u11 u12 u13 u14 u15 u16 u17 u18 u19 u20 u21 u22 u23 u24 u25 u26 u27 u28 u29 u30 u31 u32 u33 u34 u35 u36 u37 u38 u39
  | 1, a, w1 => ∃ (v : Value) (k : Nat) (d : Int), Below w.heap.size w w1 ∧ Hid (good s.data.toList = true) ∧ w1.ownsRow w.heap.size 3 1 v (s.size + 1) ((dps s.data.toList 0).map (Value.int .i64)) ∧ 0 ≤ d ∧ d ≤ 12 ∧ Hid (rn s.data.toList 0 = (d == 0)) ∧ ∃ u7 u8 u9 u10 u11 u12 u13 u14 u15 u16 u17 u18 u19 u20 u21 u22 u23 u24 u25 u26 u27 u28 u29 u30 u31 u32 u33 u34 u35 u36 u37 u38 u39 : Value, a = dfrm s v (.int .i64 k) (.int .i64 d) u7 u8 u9 u10 u11 u12 u13 u14 u15 u16 u17 u18 u19 u20 u21 u22 u23 u24 u25 u26 u27 u28 u29 u30 u31 u32 u33 u34 u35 u36 u37 u38 u39
  | 2, a, w1 => ∃ (v : Value) (k : Nat) (d : Int) (L : List Int), DAt s w v k L (dps (s.data.toList.drop k) (d + 1)) w1 ∧ 0 ≤ d ∧ d ≤ 12 ∧ Hid (rn s.data.toList 0 = (decide (0 ≤ d + 1) && decide (d + 1 ≤ 12) && rn (s.data.toList.drop k) (d + 1))) ∧ ∃ u7 u8 u9 u10 u11 u12 u13 u14 u15 u16 u17 u18 u19 u20 u21 u22 u23 u24 u25 u26 u27 u28 u29 u30 u31 u32 u33 u34 u35 u36 u37 u38 u39 : Value, a = dfrm s v (.int .i64 k) (.int .i64 d) u7 u8 u9 u10 u11 u12 u13 u14 u15 u16 u17 u18 u19 u20 u21 u22 u23 u24 u25 u26 u27 u28 u29 u30 u31 u32 u33 u34 u35 u36 u37 u38 u39
  | 3, a, w1 => ∃ (v : Value) (k : Nat) (d : Int) (L : List Int), DAt s w v k L (dps (s.data.toList.drop k) (d + -1)) w1 ∧ 0 ≤ d ∧ d ≤ 12 ∧ Hid (rn s.data.toList 0 = (decide (0 ≤ d + -1) && decide (d + -1 ≤ 12) && rn (s.data.toList.drop k) (d + -1))) ∧ ∃ u7 u8 u9 u10 u11 u12 u13 u14 u15 u16 u17 u18 u19 u20 u21 u22 u23 u24 u25 u26 u27 u28 u29 u30 u31 u32 u33 u34 u35 u36 u37 u38 u39 : Value, a = dfrm s v (.int .i64 k) (.int .i64 d) u7 u8 u9 u10 u11 u12 u13 u14 u15 u16 u17 u18 u19 u20 u21 u22 u23 u24 u25 u26 u27 u28 u29 u30 u31 u32 u33 u34 u35 u36 u37 u38 u39
  | _, _, _ => False

def Dmu (s : ByteArray) (l : Nat) (a : Act) (_ : World) : Nat :=
  match l with
  | 0 => 2 * (s.size - (intOf (a.tmps.getD 5 undef)).toNat) + 2
  | 1 => 0
  | _ => 2 * (s.size - (intOf (a.tmps.getD 5 undef)).toNat) + 3

/-- What depthsOf leaves. -/
def DPost (s : ByteArray) (w : World) (e : Ending) (w' : World) : Prop :=
  Below w.heap.size w w' ∧ ((doc s.data.toList = true ∧ ∃ v, e = .returned (.tuple #[v, .bool true]) ∧ w'.ownsRow w.heap.size 3 1 v (s.size + 1) ((dps s.data.toList 0).map (Value.int .i64))) ∨
    (doc s.data.toList = false ∧ e = .returned (.tuple #[.slice none 0 0, .bool false])))

theorem dat_step {s : ByteArray} {w w1 w2 : World} {v v' : Value} {k : Nat} {d : Int} {L : List Int} {o : Obj} (hat : DAt s w v k L (dps (s.data.toList.drop k) d) w1) (hlt : k < s.size)
    (hown' : w2.ownsRow w.heap.size 3 1 v' (L.length + 1) (L.map (Value.int .i64) ++ [.int .i64 d])) (hg : (w1.alloc o).grownBy w2 v.ownBlock) :
    DAt s w v' (k + 1) (L ++ [d]) (dps (s.data.toList.drop (k + 1)) (d + dl s[k])) w2 where
  hk := hlt
  len := by simp [hat.len]
  own := by simpa using hown'
  below := below_append hat.below hat.own hat.below.size hg
  all := by rw [hat.all, dps_step s k hlt d]; simp
  ok := hat.ok
theorem dat_end {s : ByteArray} {w w1 w2 : World} {v v' : Value} {k : Nat} {d : Int} {L : List Int} {o : Obj} (hat : DAt s w v k L (dps (s.data.toList.drop k) d) w1) (hge : s.size ≤ k)
    (hown' : w2.ownsRow w.heap.size 3 1 v' (L.length + 1) (L.map (Value.int .i64) ++ [.int .i64 d])) (hg : (w1.alloc o).grownBy w2 v.ownBlock) :
    Below w.heap.size w w2 ∧ w2.ownsRow w.heap.size 3 1 v' (s.size + 1) ((dps s.data.toList 0).map (Value.int .i64)) := by
  refine ⟨below_append hat.below hat.own hat.below.size hg, ?_⟩
  have hk := hat.hk
  have e : s.size = L.length := by rw [hat.len]; omega
  rw [hat.all, dps_end s k hge d, e]
  simpa using hown'
theorem rn_last {s : ByteArray} {k : Nat} {d : Int} (hr : rn s.data.toList 0 = rn (s.data.toList.drop k) d) (hge : s.size ≤ k) : rn s.data.toList 0 = (d == 0) := by
  rw [hr, drop_end s k hge]; rfl
theorem rn_go {s : ByteArray} {k : Nat} {d e : Int} (hlt : k < s.size) (hr : rn s.data.toList 0 = rn (s.data.toList.drop k) d) (he : dl s[k] = e) :
    rn s.data.toList 0 = (decide (0 ≤ d + e) && decide (d + e ≤ 12) && rn (s.data.toList.drop (k + 1)) (d + e)) := by
  rw [hr, rn_step s k hlt d, he]
theorem rn_stay {s : ByteArray} {k : Nat} {d : Int} (hlt : k < s.size) (hr : rn s.data.toList 0 = rn (s.data.toList.drop k) d) (he : dl s[k] = 0) (h0 : 0 ≤ d) (h1 : d ≤ 12) :
    rn s.data.toList 0 = rn (s.data.toList.drop (k + 1)) d := by
  rw [rn_go hlt hr he]; simp [h0, h1]
theorem dl_k2 {c : UInt8} (h : (kd c == 2) = true) : dl c = 1 := by rw [kd_op] at h; simp [dl, h]
theorem dl_k3 {c : UInt8} (h1 : (kd c == 2) = false) (h : (kd c == 3) = true) : dl c = -1 := by rw [kd_op] at h1; rw [kd_en] at h; simp [dl, h1, h]
theorem dl_k1 {c : UInt8} (h1 : (kd c == 2) = false) (h : (kd c == 3) = false) : dl c = 0 := by rw [kd_op] at h1; rw [kd_en] at h; simp [dl, h1, h]

theorem doc_no {l : List UInt8} (_h : good l = true) (h2 : rn l 0 = false) : doc l = false := by simp [doc, h2]
theorem doc_yes {l : List UInt8} (h : good l = true) (h2 : rn l 0 = true) : doc l = true := by simp [doc, h, h2]
theorem ne_eq0 {d : Int} (h : (d != 0) = true) : (d == 0) = false := by simpa using h
theorem eq_eq0 {d : Int} (h : (d != 0) = false) : (d == 0) = true := by simpa using h
theorem rn_in {b : Bool} {L : List UInt8} {y : Int} (h : b = (decide (0 ≤ y) && decide (y ≤ 12) && rn L y)) (h0 : 0 ≤ y) (h1 : y ≤ 12) : b = rn L y := by rw [h]; simp [h0, h1]

end Go.Proofs.YtmjehpigfkobeabDoor

namespace Go.Proofs.YtmjehpigfkobeabDoor
open Go.RowKit
open Doc1

theorem hide {p : Prop} (h : p) : Hid p := h
theorem hid_eq {l : List Int} {L : List UInt8} {x y : Int} (h : Hid (l = dps L x)) (e : x = y) : Hid (l = dps L y) := by subst e; exact h
theorem size_len (s : ByteArray) : s.data.toList.length = s.size := by simp
theorem ret_tup {x y : Int} {a b : Bool} (h : x = y) (h2 : a = b) : Ending.returned (.tuple #[.int .i64 x, .bool a]) = .returned (.tuple #[.int .i64 y, .bool b]) := by rw [h, h2]

/-- A row that holds something is no nil slice. -/
theorem own_shape {w : World} {B : Nat} {v : Value} {n : Nat} {L : List Int} (h : w.ownsRow B 3 1 v (n + 1) (L.map (Value.int .i64))) (hL : L.length = n + 1) :
    ∃ g cap, v = .slice (some ⟨g, 0, none⟩) (n + 1) cap ∧ n + 1 ≤ cap ∧ cap ≤ maxLen ∧ ∀ j, j ≤ n → w.cell? ⟨g, j, none⟩ = some (.int .i64 (L.getD j 0)) := by
  have h' := h
  rcases h.2 with ⟨_, h0⟩ | ⟨g, cap, cur, hv, hb, hh, hle, hm, hs, ht⟩
  · omega
  · refine ⟨g, cap, hv, hle, hm, fun j hj => ?_⟩
    subst hv
    rw [h'.cellAt j (by omega)]
    rw [List.getElem?_map, List.getElem?_eq_getElem (by omega), List.getD_eq_getElem?_getD, List.getElem?_eq_getElem (by omega)]
    rfl

set_option maxHeartbeats 400000 in
theorem l1In_any (n lo hi : Int) (w : World) :
    Calls Tryd.prog 55 #[.int .i64 n, .int .i64 lo, .int .i64 hi] w fun e w' => e = .returned (.bool (decide (lo ≤ n ∧ n ≤ hi))) ∧ w' = w := by
  go_enter Tryd.func55, Tryd.ntmps55
  go_wp2
  all_goals (go_ret; refine ⟨ret_bool ?_, rfl⟩; rw [Bool.eq_iff_iff]; simp; omega)

end Go.Proofs.YtmjehpigfkobeabDoor
