/- The contracts of chapter 1's readers of documents: balanced texts, documents, depths. The contract of impl.depthsOf: the depths of all places of a document. The contracts of GoodDoc and DepthAt, of the model's and of the program's; their laws. -/
import Derived.Test.YtknodkdlphngmayDoorWalks1
import Derived.Test.YtknodkdlphngmayDoorLabels
import Derived.ScopeJumps
namespace Go.Proofs.YtknodkdlphngmayDoor
open Go.RowKit
open Doc1

theorem dl_op {c : UInt8} (h : opB c = true) : dl c = 1 := by simp [dl, h]
theorem dl_en {c : UInt8} (h : opB c = false) (h2 : ((c.toNat : Int) == 47) = true) : dl c = -1 := by
  have : enB c = true := by simp at h2; simp [enB]; omega
  simp [dl, h, this]
theorem dl_pl {c : UInt8} (h : opB c = false) (h2 : ((c.toNat : Int) == 47) = false) : dl c = 0 := by
  have : enB c = false := by simp at h2; simp [enB]; omega
  simp [dl, h, this]
theorem op_en {c : UInt8} (h : opB c = true) : ((c.toNat : Int) == 47) = false := by
  have := (sep c).2.1
  rw [h] at this
  simp [enB] at this
  simp; omega

theorem op_no_en {c : UInt8} (h : opB c = true) (h2 : ((c.toNat : Int) == 47) = true) : False := by rw [op_en h] at h2; cases h2
theorem bal_rel {b : Bool} {L L' : List UInt8} {x e y : Int} (hr : b = rn L x) (hst : rn L x = (decide (0 ≤ x + e) && decide (x + e ≤ 12) && rn L' (x + e))) (hd : x + e = y) (h0 : 0 ≤ y) (h1 : y ≤ 12) : b = rn L' y := by
  subst hd; rw [hr, hst]; simp [h0, h1]
theorem bal_no {b : Bool} {L L' : List UInt8} {x e y : Int} (hr : b = rn L x) (hst : rn L x = (decide (0 ≤ x + e) && decide (x + e ≤ 12) && rn L' (x + e))) (hd : x + e = y) (h : y < 0 ∨ 12 < y) : false = b := by
  subst hd; rw [hr, hst]; simp; omega

set_option maxHeartbeats 1000000 in
theorem l1Balanced_any (s : ByteArray) (w : World) (hs : s.size ≤ 1048576) :
    Calls Tryd.prog 46 #[.string s] w fun e w' => e = .returned (.bool (rn s.data.toList 0)) ∧ w' = w := by
  go_enter Tryd.func46, Tryd.ntmps46
  go_wp2
  go_loop [3, 4] (fun d i => ∃ (k : Nat) (x : Int), k ≤ s.size ∧ i = .int .i64 k ∧ d = .int .i64 x ∧ 0 ≤ x ∧ x ≤ 12 ∧ Hid (rn s.data.toList 0 = rn (s.data.toList.drop k) x)) (fun _ i => s.size - (intOf i).toNat)
  case atStart => exact ⟨0, 0, Nat.zero_le _, rfl, rfl, by omega, by omega, rfl⟩
  case round =>
    obtain ⟨k, x, hk, rfl, rfl, hx0, hx1, hr⟩ := hrel
    by_cases hlt : k < s.size
    · have hst : Hid (rn (s.data.toList.drop k) x = (decide (0 ≤ x + dl s[k]) && decide (x + dl s[k] ≤ 12) && rn (s.data.toList.drop (k + 1)) (x + dl s[k]))) := rn_step s k hlt x
      go_wp2_with (go_at_call 28; refine (l1Open_any _ _).mono ?_; rintro e w' ⟨rfl, rfl⟩)
      all_goals first
        | exact (op_no_en ‹_› ‹_›).elim
        | (go_ret; exact ⟨ret_bool (bal_no hr.out hst.out (by first | rw [dl_op ‹_›] | (rw [dl_en ‹_› ‹_›] <;> rfl)) (by omega)), rfl⟩)
        | (go_round
           case rel => exact ⟨k + 1, _, by omega, by go_num, rfl, by omega, by omega, bal_rel hr.out hst.out (by first | rw [dl_op ‹_›] | (rw [dl_en ‹_› ‹_›] <;> rfl) | (rw [dl_pl ‹_› ‹_›] <;> omega)) (by omega) (by omega)⟩
           case measure => simp [intOf]; omega)
    · go_wp2
      go_ret
      exact ⟨ret_bool (by rw [hr.out, drop_end s k (by omega)]; rfl), rfl⟩

set_option maxHeartbeats 400000 in
theorem goodDocS_any (s : ByteArray) (w : World) (hs : s.size ≤ 1048576) :
    Calls Tryd.prog 27 #[.string s] w fun e w' => e = .returned (.bool (doc s.data.toList)) ∧ w' = w := by
  go_enter Tryd.func27, Tryd.ntmps27
  go_wp2_with (first | (go_at_call 45; refine (goodTextS_any _ _ (by assumption)).mono ?_; rintro e w' ⟨rfl, rfl⟩) | (go_at_call 46; refine (l1Balanced_any _ _ (by assumption)).mono ?_; rintro e w' ⟨rfl, rfl⟩))
  all_goals go_ret
  all_goals exact ⟨ret_bool (by unfold doc; simp [*]), rfl⟩
end Go.Proofs.YtknodkdlphngmayDoor

namespace Go.Proofs.YtknodkdlphngmayDoor
open Go.RowKit
open Doc1

/-- The table stays as it was where nothing old has turned. -/
theorem Tab.below {w w1 : World} (h : Tab w) (hb : Below w.heap.size w w1) : Tab w1 := fun j hj => cell_later hb (h j hj)

/-- Behind an append to a row of the call's own nothing old has turned. -/
theorem below_append {B : Nat} {w w1 w2 : World} {e : TypeId} {size n : Nat} {v : Value} {xs : List Value} {o : Obj} (hb : Below B w w1) (hown : w1.ownsRow B e size v n xs) (hB : B ≤ w1.heap.size)
    (hg : (w1.alloc o).grownBy w2 v.ownBlock) : Below B w w2 := by
  refine (hb.alloc hB o).grown hg (by simp; omega) ?_
  intro k hk
  rcases hown.2 with ⟨hv, _⟩ | ⟨g, cap, cur, hv, hg', _⟩
  · subst hv; simp [Value.ownBlock] at hk
  · subst hv; simp [Value.ownBlock] at hk; omega

theorem Tryd.info3 : (Tryd.prog.info? 3).map (fun i => (i.zero, i.size, i.bytes)) = some (some (.int .i64 0), 1, 8) := by kernel_rfl

/-- The frame of depthsOf behind its first rows. -/
abbrev dfrm (s : ByteArray) (v4 v5 v6 u7 u8 u9 u10 u11 u12 u13 u14 u15 u16 u17 u18 u19 u20 u21 u22 u23 u24 u25 u26 u27 u28 u29 u30 u31 u32 u33 u34 u35 u36 u37 u38 u39 : Value) : Act :=
  { tmps := #[.string s, undef, .slice none 0 0, .bool false, v4, v5, v6, u7, u8, u9, u10, u11, u12, u13, u14, u15, u16, u17, u18, u19, u20, u21, u22, u23, u24, u25, u26, u27, u28, u29, u30, u31, u32, u33, u34, u35, u36, u37, u38, u39], defers := [] }

/-- What is known at a place of depthsOf: the depths so far, and what is still to be read. -/
structure DAt (s : ByteArray) (w : World) (v : Value) (k : Nat) (L : List Int) (R : List Int) (w1 : World) : Prop where
  hk : k ≤ s.size
  len : L.length = k
  own : w1.ownsRow w.heap.size 3 1 v L.length (L.map (Value.int .i64))
  below : Below w.heap.size w w1
  all : dps s.data.toList 0 = L ++ R
  ok : good s.data.toList = true

def DJ (s : ByteArray) (w : World) : Nat → Act → World → Prop
  | 0, a, w1 => ∃ (v : Value) (k : Nat) (d : Int) (L : List Int), DAt s w v k L (dps (s.data.toList.drop k) d) w1 ∧ 0 ≤ d ∧ d ≤ 12 ∧ Hid (rn s.data.toList 0 = rn (s.data.toList.drop k) d) ∧ ∃ u7 u8 u9 u10 u11 u12 u13 u14 u15 u16 u17 u18 u19 u20 u21 u22 u23 u24 u25 u26 u27 u28 u29 u30 u31 u32 u33 u34 u35 u36 u37 u38 u39 : Value, a = dfrm s v (.int .i64 k) (.int .i64 d) u7 u8 u9 u10 u11 u12 u13 u14 u15 u16 u17 u18 u19 u20 u21 u22 u23 u24 u25 u26 u27 u28 u29 u30 u31 u32 u33 u34 u35 u36 u37 u38 u39
  | 1, a, w1 => ∃ (v : Value) (k : Nat) (d : Int), Below w.heap.size w w1 ∧ Hid (good s.data.toList = true) ∧ w1.ownsRow w.heap.size 3 1 v (s.size + 1) ((dps s.data.toList 0).map (Value.int .i64)) ∧ 0 ≤ d ∧ d ≤ 12 ∧ Hid (rn s.data.toList 0 = (d == 0)) ∧ ∃ u7 u8 u9 u10 u11 u12 u13 u14 u15 u16 u17 u18 u19 u20 u21 u22 u23 u24 u25 u26 u27 u28 u29 u30 u31 u32 u33 u34 u35 u36 u37 u38 u39 : Value, a = dfrm s v (.int .i64 k) (.int .i64 d) u7 u8 u9 u10 u11 u12 u13 u14 u15 u16 u17 u18 u19 u20 u21 u22 u23 u24 u25 u26 u27 u28 u29 u30 u31 u32 u33 u34 u35 u36 u37 u38 u39
  | 2, a, w1 => ∃ (v : Value) (k : Nat) (d : Int) (L : List Int), DAt s w v k L (dps (s.data.toList.drop k) (d + 1)) w1 ∧ 0 ≤ d ∧ d ≤ 12 ∧ Hid (rn s.data.toList 0 = (decide (0 ≤ d + 1) && decide (d + 1 ≤ 12) && rn (s.data.toList.drop k) (d + 1))) ∧ ∃ u7 u8 u9 u10 u11 u12 u13 u14 u15 u16 u17 u18 u19 u20 u21 u22 u23 u24 u25 u26 u27 u28 u29 u30 u31 u32 u33 u34 u35 u36 u37 u38 u39 : Value, a = dfrm s v (.int .i64 k) (.int .i64 d) u7 u8 u9 u10 u11 u12 u13 u14 u15 u16 u17 u18 u19 u20 u21 u22 u23 u24 u25 u26 u27 u28 u29 u30 u31 u32 u33 u34 u35 u36 u37 u38 u39
  | 3, a, w1 => ∃ (v : Value) (k : Nat) (d : Int) (L : List Int), DAt s w v k L (dps (s.data.toList.drop k) (d + -1)) w1 ∧ 0 ≤ d ∧ d ≤ 12 ∧ Hid (rn s.data.toList 0 = (decide (0 ≤ d + -1) && decide (d + -1 ≤ 12) && rn (s.data.toList.drop k) (d + -1))) ∧ ∃ u7 u8 u9 u10 u11 u12 u13 u14 u15 u16 u17 u18 u19 u20 u21 u22 u23 u24 u25 u26 u27 u28 u29 u30 u31 u32 u33 u34 u35 u36 u37 u38 u39 : Value, a = dfrm s v (.int .i64 k) (.int .i64 d) u7 u8 u9 u10 u11 u12 u13 u14 u15 u16 u17 u18 u19 u20 u21 u22 u23 u24 u25 u26 u27 u28 u29 u30 u31 u32 u33 u34 u35 u36 u37 u38 u39
  | _, _, _ => False

def Dmu (s : ByteArray) (l : Nat) (a : Act) (_ : World) : Nat :=
  match l with
  | 0 => 2 * (s.size - (intOf (a.tmps.getD 5 undef)).toNat) + 2
  | 1 => 0
  | _ => 2 * (s.size - (intOf (a.tmps.getD 5 undef)).toNat) + 3

/-- What depthsOf leaves. -/
def DPost (s : ByteArray) (w : World) (e : Ending) (w' : World) : Prop :=
  Below w.heap.size w w' ∧ ((doc s.data.toList = true ∧ ∃ v, e = .returned (.tuple #[v, .bool true]) ∧ w'.ownsRow w.heap.size 3 1 v (s.size + 1) ((dps s.data.toList 0).map (Value.int .i64))) ∨
    (doc s.data.toList = false ∧ e = .returned (.tuple #[.slice none 0 0, .bool false])))

theorem dat_step {s : ByteArray} {w w1 w2 : World} {v v' : Value} {k : Nat} {d : Int} {L : List Int} {o : Obj} (hat : DAt s w v k L (dps (s.data.toList.drop k) d) w1) (hlt : k < s.size)
    (hown' : w2.ownsRow w.heap.size 3 1 v' (L.length + 1) (L.map (Value.int .i64) ++ [.int .i64 d])) (hg : (w1.alloc o).grownBy w2 v.ownBlock) :
    DAt s w v' (k + 1) (L ++ [d]) (dps (s.data.toList.drop (k + 1)) (d + dl s[k])) w2 where
  hk := hlt
  len := by simp [hat.len]
  own := by simpa using hown'
  below := below_append hat.below hat.own hat.below.size hg
  all := by rw [hat.all, dps_step s k hlt d]; simp
  ok := hat.ok
theorem dat_end {s : ByteArray} {w w1 w2 : World} {v v' : Value} {k : Nat} {d : Int} {L : List Int} {o : Obj} (hat : DAt s w v k L (dps (s.data.toList.drop k) d) w1) (hge : s.size ≤ k)
    (hown' : w2.ownsRow w.heap.size 3 1 v' (L.length + 1) (L.map (Value.int .i64) ++ [.int .i64 d])) (hg : (w1.alloc o).grownBy w2 v.ownBlock) :
    Below w.heap.size w w2 ∧ w2.ownsRow w.heap.size 3 1 v' (s.size + 1) ((dps s.data.toList 0).map (Value.int .i64)) := by
  refine ⟨below_append hat.below hat.own hat.below.size hg, ?_⟩
  have hk := hat.hk
  have e : s.size = L.length := by rw [hat.len]; omega
  rw [hat.all, dps_end s k hge d, e]
  simpa using hown'
theorem rn_last {s : ByteArray} {k : Nat} {d : Int} (hr : rn s.data.toList 0 = rn (s.data.toList.drop k) d) (hge : s.size ≤ k) : rn s.data.toList 0 = (d == 0) := by
  rw [hr, drop_end s k hge]; rfl
theorem rn_go {s : ByteArray} {k : Nat} {d e : Int} (hlt : k < s.size) (hr : rn s.data.toList 0 = rn (s.data.toList.drop k) d) (he : dl s[k] = e) :
    rn s.data.toList 0 = (decide (0 ≤ d + e) && decide (d + e ≤ 12) && rn (s.data.toList.drop (k + 1)) (d + e)) := by
  rw [hr, rn_step s k hlt d, he]
theorem rn_stay {s : ByteArray} {k : Nat} {d : Int} (hlt : k < s.size) (hr : rn s.data.toList 0 = rn (s.data.toList.drop k) d) (he : dl s[k] = 0) (h0 : 0 ≤ d) (h1 : d ≤ 12) :
    rn s.data.toList 0 = rn (s.data.toList.drop (k + 1)) d := by
  rw [rn_go hlt hr he]; simp [h0, h1]
theorem dl_k2 {c : UInt8} (h : (kd c == 2) = true) : dl c = 1 := by rw [kd_op] at h; simp [dl, h]
theorem dl_k3 {c : UInt8} (h1 : (kd c == 2) = false) (h : (kd c == 3) = true) : dl c = -1 := by rw [kd_op] at h1; rw [kd_en] at h; simp [dl, h1, h]
theorem dl_k1 {c : UInt8} (h1 : (kd c == 2) = false) (h : (kd c == 3) = false) : dl c = 0 := by rw [kd_op] at h1; rw [kd_en] at h; simp [dl, h1, h]

theorem doc_no {l : List UInt8} (_h : good l = true) (h2 : rn l 0 = false) : doc l = false := by simp [doc, h2]
theorem doc_yes {l : List UInt8} (h : good l = true) (h2 : rn l 0 = true) : doc l = true := by simp [doc, h, h2]
theorem ne_eq0 {d : Int} (h : (d != 0) = true) : (d == 0) = false := by simpa using h
theorem eq_eq0 {d : Int} (h : (d != 0) = false) : (d == 0) = true := by simpa using h
theorem rn_in {b : Bool} {L : List UInt8} {y : Int} (h : b = (decide (0 ≤ y) && decide (y ≤ 12) && rn L y)) (h0 : 0 ≤ y) (h1 : y ≤ 12) : b = rn L y := by rw [h]; simp [h0, h1]

set_option maxRecDepth 100000 in
set_option maxHeartbeats 1000000 in
theorem depthsOf_any (s : ByteArray) (w : World) (hs : s.size ≤ 1048576) (hT : Tab w) :
    Calls Tryd.prog 31 #[.string s] w (DPost s w) := by
  obtain ⟨i0, hi, hz0, hz1, hz2⟩ := info_parts Tryd.info3
  go_enter Tryd.func31, Tryd.ntmps31
  go_wp2
  refine wp_scope_labels (DJ s w) (Dmu s) ?_ ?_
  · obtain ⟨gd, hgd⟩ : ∃ b, b = good s.data.toList := ⟨_, rfl⟩
    have c1 := goodTextI_any s w hs hT
    rw [← hgd] at c1
    have H1 : Hid (Calls Tryd.prog 47 #[.string s] w fun e w' => e = .returned (.bool gd) ∧ w' = w) := c1
    have HG : Hid (gd = good s.data.toList) := hgd
    clear c1 hgd
    go_wp2_with (go_at_call 47; refine H1.out.mono ?_; rintro e w' ⟨rfl, hw⟩; replace hw := hw.symm; subst hw)
    · simp only [Jumps]
      go_ret2
      have hg : gd = false := by simpa using ‹(!gd) = true›
      exact ⟨Below.refl _ _, Or.inr ⟨by rw [doc, ← HG.out, hg]; rfl, rfl⟩⟩
    · have hg : Hid (gd = true) := by have h : (!gd) = false := by assumption
                                      simpa [Hid] using h
      have hat : DAt s w (.slice none 0 0) 0 [] (dps (s.data.toList.drop 0) 0) w :=
        { hk := Nat.zero_le _, len := rfl, own := World.ownsRow_nil _ _ _ _, below := Below.refl _ _, all := rfl, ok := by rw [← HG.out]; exact hg }
      have hr : Hid (rn s.data.toList 0 = rn (s.data.toList.drop 0) 0) := rfl
      clear HG hg H1
      go_step3
      have hown := hat.own
      go_wp2_with (at_builtin; refine wpList_append_own _ rfl _ _ 60 rfl w.heap.size 3 i0 (.int .i64 0) 1 8 Tryd.underlying60 hi hz0 hz1 hz2 rfl (by decide) _ _ _ rfl (hown.alloc _) ⟨w.heap.size, 0, none⟩ 1 1 [.int .i64 0] rfl rfl ?c1 ?c2 ?c3 ?c4 ?c5 ?_)
      case c1 => exact cell_one_new _ _ _
      case c2 => intro u hu; simp at hu; subst hu; rfl
      case c3 => unfold maxLen; simp
      case c4 => simp
      case c5 => simp
      intro v' w2 hown' hgrow _
      by_cases hlt : 0 < s.size
      · have A := dat_step hat hlt hown' hgrow
        have hT2 : Tab w2 := hT.below A.below
        clear hown' hgrow hown
        go_wp2_with (go_at_call 32; refine (kindOf_any _ _ hT2).mono ?_; rintro e w' ⟨rfl, hw⟩; subst hw)
        · go_step3
          rw [dl_k2 ‹_›] at A
          exact ⟨v', 1, 0, [0], A, by omega, by omega, rn_go hlt hr.out (dl_k2 ‹_›), _, _, _, _, _, _, _, _, _, _, _, _, _, _, _, _, _, _, _, _, _, _, _, _, _, _, _, _, _, _, _, _, _, rfl⟩
        · go_step3
          rw [dl_k3 ‹_› ‹_›] at A
          exact ⟨v', 1, 0, [0], A, by omega, by omega, rn_go hlt hr.out (dl_k3 ‹_› ‹_›), _, _, _, _, _, _, _, _, _, _, _, _, _, _, _, _, _, _, _, _, _, _, _, _, _, _, _, _, _, _, _, _, _, rfl⟩
        · go_step3
          rw [dl_k1 ‹_› ‹_›, Int.add_zero] at A
          exact ⟨v', 1, 0, [0], A, by omega, by omega, rn_stay hlt hr.out (dl_k1 ‹_› ‹_›) (by omega) (by omega), _, _, _, _, _, _, _, _, _, _, _, _, _, _, _, _, _, _, _, _, _, _, _, _, _, _, _, _, _, _, _, _, _, rfl⟩
      · have A := dat_end hat (by omega) hown' hgrow
        have R := rn_last hr.out (by omega)
        have HA : Hid (Below w.heap.size w w2 ∧ w2.ownsRow w.heap.size 3 1 v' (s.size + 1) ((dps s.data.toList 0).map (Value.int .i64))) := A
        have HR : Hid (rn s.data.toList 0 = ((0 : Int) == 0)) := R
        have hok : Hid (good s.data.toList = true) := hat.ok
        clear hown' hgrow hown A R hat hr
        go_wp2
        go_step3
        exact ⟨v', 0, 0, HA.out.1, hok, HA.out.2, by omega, by omega, HR, _, _, _, _, _, _, _, _, _, _, _, _, _, _, _, _, _, _, _, _, _, _, _, _, _, _, _, _, _, _, _, _, _, rfl⟩
  · intro l a w1 hJ
    match l, hJ with
    | 0, hJ =>
      obtain ⟨v, k, d, L, hat, hd0, hd1, hr, u7, u8, u9, u10, u11, u12, u13, u14, u15, u16, u17, u18, u19, u20, u21, u22, u23, u24, u25, u26, u27, u28, u29, u30, u31, u32, u33, u34, u35, u36, u37, u38, u39, rfl⟩ := hJ
      refine ⟨_, rfl, ?_⟩
      have hown := hat.own
      have hk := hat.hk
      have hsz := hat.below.size
      have hlen : Hid (L.length = k) := hat.len
      have hlm : L.length ≤ 1048576 := by rw [hat.len]; omega
      go_wp2_with (at_builtin; refine wpList_append_own _ rfl _ _ 60 rfl w.heap.size 3 i0 (.int .i64 0) 1 8 Tryd.underlying60 hi hz0 hz1 hz2 rfl (by decide) _ _ _ rfl (hown.alloc _) ⟨w1.heap.size, 0, none⟩ 1 1 [.int .i64 d] rfl rfl ?c1 ?c2 ?c3 ?c4 ?c5 ?_)
      case c1 => exact cell_one_new _ _ _
      case c2 => intro u hu; simp at hu; subst hu; rfl
      case c3 => unfold maxLen; omega
      case c4 => omega
      case c5 => simp; omega
      intro v' w2 hown' hgrow _
      by_cases hlt : k < s.size
      · have A := dat_step hat hlt hown' hgrow
        have hT2 : Tab w2 := hT.below A.below
        clear hown' hgrow hown
        go_wp2_with (go_at_call 32; refine (kindOf_any _ _ hT2).mono ?_; rintro e w' ⟨rfl, hw⟩; subst hw)
        · go_step3
          rw [dl_k2 ‹_›] at A
          exact ⟨⟨v', k + 1, d, L ++ [d], A, hd0, hd1, rn_go hlt hr.out (dl_k2 ‹_›), _, _, _, _, _, _, _, _, _, _, _, _, _, _, _, _, _, _, _, _, _, _, _, _, _, _, _, _, _, _, _, _, _, rfl⟩, by simp [Dmu, intOf]; omega⟩
        · go_step3
          rw [dl_k3 ‹_› ‹_›] at A
          exact ⟨⟨v', k + 1, d, L ++ [d], A, hd0, hd1, rn_go hlt hr.out (dl_k3 ‹_› ‹_›), _, _, _, _, _, _, _, _, _, _, _, _, _, _, _, _, _, _, _, _, _, _, _, _, _, _, _, _, _, _, _, _, _, rfl⟩, by simp [Dmu, intOf]; omega⟩
        · go_step3
          rw [dl_k1 ‹_› ‹_›, Int.add_zero] at A
          exact ⟨⟨v', k + 1, d, L ++ [d], A, hd0, hd1, rn_stay hlt hr.out (dl_k1 ‹_› ‹_›) hd0 hd1, _, _, _, _, _, _, _, _, _, _, _, _, _, _, _, _, _, _, _, _, _, _, _, _, _, _, _, _, _, _, _, _, _, rfl⟩, by simp [Dmu, intOf]; omega⟩
      · have A := dat_end hat (by omega) hown' hgrow
        have R := rn_last hr.out (by omega)
        have HA : Hid (Below w.heap.size w w2 ∧ w2.ownsRow w.heap.size 3 1 v' (s.size + 1) ((dps s.data.toList 0).map (Value.int .i64))) := A
        have HR : Hid (rn s.data.toList 0 = (d == 0)) := R
        clear hown' hgrow hown A R
        have hok : Hid (good s.data.toList = true) := hat.ok
        go_wp2
        go_step3
        exact ⟨⟨v', k, d, HA.out.1, hok, HA.out.2, hd0, hd1, HR, _, _, _, _, _, _, _, _, _, _, _, _, _, _, _, _, _, _, _, _, _, _, _, _, _, _, _, _, _, _, _, _, _, rfl⟩, by simp [Dmu]⟩
    | 1, hJ =>
      obtain ⟨v, k, d, hbel, hok, hown, hd0, hd1, hr, u7, u8, u9, u10, u11, u12, u13, u14, u15, u16, u17, u18, u19, u20, u21, u22, u23, u24, u25, u26, u27, u28, u29, u30, u31, u32, u33, u34, u35, u36, u37, u38, u39, rfl⟩ := hJ
      refine ⟨_, rfl, ?_⟩
      have HB : Hid (Below w.heap.size w w1 ∧ w1.ownsRow w.heap.size 3 1 v (s.size + 1) ((dps s.data.toList 0).map (Value.int .i64))) := ⟨hbel, hown⟩
      clear hbel hown
      go_wp2
      · simp only [Jumps]
        go_ret2
        exact ⟨HB.out.1, Or.inr ⟨doc_no hok.out (by rw [hr.out]; exact ne_eq0 ‹_›), rfl⟩⟩
      · simp only [Jumps]
        go_ret2
        exact ⟨HB.out.1, Or.inl ⟨doc_yes hok.out (by rw [hr.out]; exact eq_eq0 ‹_›), _, rfl, HB.out.2⟩⟩
    | 2, hJ =>
      obtain ⟨v, k, d, L, hat, hd0, hd1, hr, u7, u8, u9, u10, u11, u12, u13, u14, u15, u16, u17, u18, u19, u20, u21, u22, u23, u24, u25, u26, u27, u28, u29, u30, u31, u32, u33, u34, u35, u36, u37, u38, u39, rfl⟩ := hJ
      refine ⟨_, rfl, ?_⟩
      go_wp2
      · simp only [Jumps]
        go_ret2
        exact ⟨hat.below, Or.inr ⟨doc_no hat.ok (by rw [hr.out]; simp; omega), rfl⟩⟩
      · go_step3
        exact ⟨⟨v, k, d + 1, L, hat, by omega, by omega, rn_in hr.out (by omega) (by omega), _, _, _, _, _, _, _, _, _, _, _, _, _, _, _, _, _, _, _, _, _, _, _, _, _, _, _, _, _, _, _, _, _, rfl⟩, by simp [Dmu, intOf]⟩
    | 3, hJ =>
      obtain ⟨v, k, d, L, hat, hd0, hd1, hr, u7, u8, u9, u10, u11, u12, u13, u14, u15, u16, u17, u18, u19, u20, u21, u22, u23, u24, u25, u26, u27, u28, u29, u30, u31, u32, u33, u34, u35, u36, u37, u38, u39, rfl⟩ := hJ
      refine ⟨_, rfl, ?_⟩
      go_wp2
      · simp only [Jumps]
        go_ret2
        exact ⟨hat.below, Or.inr ⟨doc_no hat.ok (by rw [hr.out]; simp; omega), rfl⟩⟩
      · go_step3
        exact ⟨⟨v, k, d + -1, L, hat, by omega, by omega, rn_in hr.out (by omega) (by omega), _, _, _, _, _, _, _, _, _, _, _, _, _, _, _, _, _, _, _, _, _, _, _, _, _, _, _, _, _, _, _, _, _, rfl⟩, by simp [Dmu, intOf]⟩
    | _ + 4, hJ => exact hJ.elim
end Go.Proofs.YtknodkdlphngmayDoor

namespace Go.Proofs.YtknodkdlphngmayDoor
open Go.RowKit
open Doc1

theorem hide {p : Prop} (h : p) : Hid p := h
theorem hid_eq {l : List Int} {L : List UInt8} {x y : Int} (h : Hid (l = dps L x)) (e : x = y) : Hid (l = dps L y) := by subst e; exact h
theorem size_len (s : ByteArray) : s.data.toList.length = s.size := by simp
theorem ret_tup {x y : Int} {a b : Bool} (h : x = y) (h2 : a = b) : Ending.returned (.tuple #[.int .i64 x, .bool a]) = .returned (.tuple #[.int .i64 y, .bool b]) := by rw [h, h2]

/-- A row that holds something is no nil slice. -/
theorem own_shape {w : World} {B : Nat} {v : Value} {n : Nat} {L : List Int} (h : w.ownsRow B 3 1 v (n + 1) (L.map (Value.int .i64))) (hL : L.length = n + 1) :
    ∃ g cap, v = .slice (some ⟨g, 0, none⟩) (n + 1) cap ∧ n + 1 ≤ cap ∧ cap ≤ maxLen ∧ ∀ j, j ≤ n → w.cell? ⟨g, j, none⟩ = some (.int .i64 (L.getD j 0)) := by
  have h' := h
  rcases h.2 with ⟨_, h0⟩ | ⟨g, cap, cur, hv, hb, hh, hle, hm, hs, ht⟩
  · omega
  · refine ⟨g, cap, hv, hle, hm, fun j hj => ?_⟩
    subst hv
    rw [h'.cellAt j (by omega)]
    rw [List.getElem?_map, List.getElem?_eq_getElem (by omega), List.getD_eq_getElem?_getD, List.getElem?_eq_getElem (by omega)]
    rfl

theorem depthsOf_yes (s : ByteArray) (w : World) (hs : s.size ≤ 1048576) (hT : Tab w) (hd : doc s.data.toList = true) :
    Calls Tryd.prog 31 #[.string s] w fun e w' => ∃ g cap, e = .returned (.tuple #[.slice (some ⟨g, 0, none⟩) (s.size + 1) cap, .bool true]) ∧ (s.size + 1 ≤ cap ∧ cap ≤ maxLen) ∧ Below w.heap.size w w' ∧
      ∀ j, j ≤ s.size → w'.cell? ⟨g, j, none⟩ = some (.int .i64 (dep s.data.toList j)) := by
  refine (depthsOf_any s w hs hT).mono fun e w' h => ?_
  obtain ⟨hb, ⟨_, v, rfl, hown⟩ | ⟨hn, _⟩⟩ := h
  · obtain ⟨g, cap, rfl, h1, h2, hc⟩ := own_shape hown (by rw [dps_len]; simp)
    exact ⟨g, cap, rfl, ⟨h1, h2⟩, hb, hc⟩
  · rw [hd] at hn; cases hn
theorem depthsOf_no (s : ByteArray) (w : World) (hs : s.size ≤ 1048576) (hT : Tab w) (hd : doc s.data.toList = false) :
    Calls Tryd.prog 31 #[.string s] w fun e w' => e = .returned (.tuple #[.slice none 0 0, .bool false]) ∧ Below w.heap.size w w' := by
  refine (depthsOf_any s w hs hT).mono fun e w' h => ?_
  obtain ⟨hb, ⟨hn, _⟩ | ⟨_, rfl⟩⟩ := h
  · rw [hd] at hn; cases hn
  · exact ⟨rfl, hb⟩

set_option maxHeartbeats 400000 in
theorem l1In_any (n lo hi : Int) (w : World) :
    Calls Tryd.prog 35 #[.int .i64 n, .int .i64 lo, .int .i64 hi] w fun e w' => e = .returned (.bool (decide (lo ≤ n ∧ n ≤ hi))) ∧ w' = w := by
  go_enter Tryd.func35, Tryd.ntmps35
  go_wp2
  all_goals (go_ret; refine ⟨ret_bool ?_, rfl⟩; rw [Bool.eq_iff_iff]; simp; omega)

end Go.Proofs.YtknodkdlphngmayDoor
