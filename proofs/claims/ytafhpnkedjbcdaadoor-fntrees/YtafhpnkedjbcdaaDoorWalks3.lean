/- The contract of impl.depthsOf: the depths of all places of a document. -/
import Derived.Test.YtafhpnkedjbcdaaDoorWalks2
namespace Go.Proofs.YtafhpnkedjbcdaaDoor
open Go.RowKit
open Doc1

/-- The table stays as it was where nothing old has turned. -/
theorem Tab.below {w w1 : World} (h : Tab w) (hb : Below w.heap.size w w1) : Tab w1 := fun j hj => cell_later hb (h j hj)

/-- Behind an append to a row of the call's own nothing old has turned. -/
theorem below_append {B : Nat} {w w1 w2 : World} {e : TypeId} {size n : Nat} {v : Value} {xs : List Value} {o : Obj} (hb : Below B w w1) (hown : w1.ownsRow B e size v n xs) (hB : B ≤ w1.heap.size)
    (hg : (w1.alloc o).grownBy w2 v.ownBlock) : Below B w w2 := by
  refine (hb.alloc hB o).grown hg (by simp; omega) ?_
  intro k hk
  rcases hown.2 with ⟨hv, _⟩ | ⟨g, cap, cur, hv, hg', _⟩
  · subst hv; simp [Value.ownBlock] at hk
  · subst hv; simp [Value.ownBlock] at hk; omega

theorem Tryd.info3 : (Tryd.prog.info? 3).map (fun i => (i.zero, i.size, i.bytes)) = some (some (.int .i64 0), 1, 8) := by kernel_rfl

/-- The frame of depthsOf behind its first rows. -/
abbrev dfrm (s : ByteArray) (v4 v5 v6 u7 u8 u9 u10 u11 u12 u13 u14 u15 u16 u17 u18 u19 u20 u21 u22 u23 u24 u25 u26 u27 u28 u29 u30 u31 u32 u33 u34 u35 u36 u37 u38 u39 : Value) : Act :=
  { tmps := #[.string s, undef, .slice none 0 0, .bool false, v4, v5, v6, u7, u8, u9, u10, u11, u12, u13, u14, u15, u16, u17, u18, u19, u20, u21, u22, u23, u24, u25, u26, u27, u28, u29, u30, u31, u32, u33, u34, u35, u36, u37, u38, u39], defers := [] }

/-- What is known at a place of depthsOf: the depths so far, and what is still to be read. -/
structure DAt (s : ByteArray) (w : World) (v : Value) (k : Nat) (L : List Int) (R : List Int) (w1 : World) : Prop where
  hk : k ≤ s.size
  len : L.length = k
  own : w1.ownsRow w.heap.size 3 1 v L.length (L.map (Value.int .i64))
  below : Below w.heap.size w w1
  all : dps s.data.toList 0 = L ++ R
  ok : good s.data.toList = true

def DJ (s : ByteArray) (w : World) : Nat → Act → World → Prop
  | 0, a, w1 => ∃ (v : Value) (k : Nat) (d : Int) (L : List Int), DAt s w v k L (dps (s.data.toList.drop k) d) w1 ∧ 0 ≤ d ∧ d ≤ 12 ∧ Hid (rn s.data.toList 0 = rn (s.data.toList.drop k) d) ∧ ∃ u7 u8 u9 u10 u11 u12 u13 u14 u15 u16 u17 u18 u19 u20 u21 u22 u23 u24 u25 u26 u27 u28 u29 u30 u31 u32 u33 u34 u35 u36 u37 u38 u39 : Value, a = dfrm s v (.int .i64 k) (.int .i64 d) u7 u8 u9 u10 u11 u12 u13 u14 u15 u16 u17 u18 u19 u20 u21 u22 u23 u24 u25 u26 u27 u28 u29 u30 u31 u32 u33 u34 u35 u36 u37 u38 u39
  | 1, a, w1 => ∃ (v : Value) (k : Nat) (d : Int), Below w.heap.size w w1 ∧ Hid (good s.data.toList = true) ∧ w1.ownsRow w.heap.size 3 1 v (s.size + 1) ((dps s.data.toList 0).map (Value.int .i64)) ∧ 0 ≤ d ∧ d ≤ 12 ∧ Hid (rn s.data.toList 0 = (d == 0)) ∧ ∃ u7 u8 u9 u10 u11 u12 u13 u14 u15 u16 u17 u18 u19 u20 u21 u22 u23 u24 u25 u26 u27 u28 u29 u30 u31 u32 u33 u34 u35 u36 u37 u38 u39 : Value, a = dfrm s v (.int .i64 k) (.int .i64 d) u7 u8 u9 u10 u11 u12 u13 u14 u15 u16 u17 u18 u19 u20 u21 u22 u23 u24 u25 u26 u27 u28 u29 u30 u31 u32 u33 u34 u35 u36 u37 u38 u39
  | 2, a, w1 => ∃ (v : Value) (k : Nat) (d : Int) (L : List Int), DAt s w v k L (dps (s.data.toList.drop k) (d + 1)) w1 ∧ 0 ≤ d ∧ d ≤ 12 ∧ Hid (rn s.data.toList 0 = (decide (0 ≤ d + 1) && decide (d + 1 ≤ 12) && rn (s.data.toList.drop k) (d + 1))) ∧ ∃ u7 u8 u9 u10 u11 u12 u13 u14 u15 u16 u17 u18 u19 u20 u21 u22 u23 u24 u25 u26 u27 u28 u29 u30 u31 u32 u33 u34 u35 u36 u37 u38 u39 : Value, a = dfrm s v (.int .i64 k) (.int .i64 d) u7 u8 u9 u10 u11 u12 u13 u14 u15 u16 u17 u18 u19 u20 u21 u22 u23 u24 u25 u26 u27 u28 u29 u30 u31 u32 u33 u34 u35 u36 u37 u38 u39
  | 3, a, w1 => ∃ (v : Value) (k : Nat) (d : Int) (L : List Int), DAt s w v k L (dps (s.data.toList.drop k) (d + -1)) w1 ∧ 0 ≤ d ∧ d ≤ 12 ∧ Hid (rn s.data.toList 0 = (decide (0 ≤ d + -1) && decide (d + -1 ≤ 12) && rn (s.data.toList.drop k) (d + -1))) ∧ ∃ u7 u8 u9 u10 u11 u12 u13 u14 u15 u16 u17 u18 u19 u20 u21 u22 u23 u24 u25 u26 u27 u28 u29 u30 u31 u32 u33 u34 u35 u36 u37 u38 u39 : Value, a = dfrm s v (.int .i64 k) (.int .i64 d) u7 u8 u9 u10 u11 u12 u13 u14 u15 u16 u17 u18 u19 u20 u21 u22 u23 u24 u25 u26 u27 u28 u29 u30 u31 u32 u33 u34 u35 u36 u37 u38 u39
  | _, _, _ => False

def Dmu (s : ByteArray) (l : Nat) (a : Act) (_ : World) : Nat :=
  match l with
  | 0 => 2 * (s.size - (intOf (a.tmps.getD 5 undef)).toNat) + 2
  | 1 => 0
  | _ => 2 * (s.size - (intOf (a.tmps.getD 5 undef)).toNat) + 3

/-- What depthsOf leaves. -/
def DPost (s : ByteArray) (w : World) (e : Ending) (w' : World) : Prop :=
  Below w.heap.size w w' ∧ ((doc s.data.toList = true ∧ ∃ v, e = .returned (.tuple #[v, .bool true]) ∧ w'.ownsRow w.heap.size 3 1 v (s.size + 1) ((dps s.data.toList 0).map (Value.int .i64))) ∨
    (doc s.data.toList = false ∧ e = .returned (.tuple #[.slice none 0 0, .bool false])))

theorem dat_step {s : ByteArray} {w w1 w2 : World} {v v' : Value} {k : Nat} {d : Int} {L : List Int} {o : Obj} (hat : DAt s w v k L (dps (s.data.toList.drop k) d) w1) (hlt : k < s.size)
    (hown' : w2.ownsRow w.heap.size 3 1 v' (L.length + 1) (L.map (Value.int .i64) ++ [.int .i64 d])) (hg : (w1.alloc o).grownBy w2 v.ownBlock) :
    DAt s w v' (k + 1) (L ++ [d]) (dps (s.data.toList.drop (k + 1)) (d + dl s[k])) w2 where
  hk := hlt
  len := by simp [hat.len]
  own := by simpa using hown'
  below := below_append hat.below hat.own hat.below.size hg
  all := by rw [hat.all, dps_step s k hlt d]; simp
  ok := hat.ok
theorem dat_end {s : ByteArray} {w w1 w2 : World} {v v' : Value} {k : Nat} {d : Int} {L : List Int} {o : Obj} (hat : DAt s w v k L (dps (s.data.toList.drop k) d) w1) (hge : s.size ≤ k)
    (hown' : w2.ownsRow w.heap.size 3 1 v' (L.length + 1) (L.map (Value.int .i64) ++ [.int .i64 d])) (hg : (w1.alloc o).grownBy w2 v.ownBlock) :
    Below w.heap.size w w2 ∧ w2.ownsRow w.heap.size 3 1 v' (s.size + 1) ((dps s.data.toList 0).map (Value.int .i64)) := by
  refine ⟨below_append hat.below hat.own hat.below.size hg, ?_⟩
  have hk := hat.hk
  have e : s.size = L.length := by rw [hat.len]; omega
  rw [hat.all, dps_end s k hge d, e]
  simpa using hown'
theorem rn_last {s : ByteArray} {k : Nat} {d : Int} (hr : rn s.data.toList 0 = rn (s.data.toList.drop k) d) (hge : s.size ≤ k) : rn s.data.toList 0 = (d == 0) := by
  rw [hr, drop_end s k hge]; rfl
theorem rn_go {s : ByteArray} {k : Nat} {d e : Int} (hlt : k < s.size) (hr : rn s.data.toList 0 = rn (s.data.toList.drop k) d) (he : dl s[k] = e) :
    rn s.data.toList 0 = (decide (0 ≤ d + e) && decide (d + e ≤ 12) && rn (s.data.toList.drop (k + 1)) (d + e)) := by
  rw [hr, rn_step s k hlt d, he]
theorem rn_stay {s : ByteArray} {k : Nat} {d : Int} (hlt : k < s.size) (hr : rn s.data.toList 0 = rn (s.data.toList.drop k) d) (he : dl s[k] = 0) (h0 : 0 ≤ d) (h1 : d ≤ 12) :
    rn s.data.toList 0 = rn (s.data.toList.drop (k + 1)) d := by
  rw [rn_go hlt hr he]; simp [h0, h1]
theorem dl_k2 {c : UInt8} (h : (kd c == 2) = true) : dl c = 1 := by rw [kd_op] at h; simp [dl, h]
theorem dl_k3 {c : UInt8} (h1 : (kd c == 2) = false) (h : (kd c == 3) = true) : dl c = -1 := by rw [kd_op] at h1; rw [kd_en] at h; simp [dl, h1, h]
theorem dl_k1 {c : UInt8} (h1 : (kd c == 2) = false) (h : (kd c == 3) = false) : dl c = 0 := by rw [kd_op] at h1; rw [kd_en] at h; simp [dl, h1, h]

theorem doc_no {l : List UInt8} (_h : good l = true) (h2 : rn l 0 = false) : doc l = false := by simp [doc, h2]
theorem doc_yes {l : List UInt8} (h : good l = true) (h2 : rn l 0 = true) : doc l = true := by simp [doc, h, h2]
theorem ne_eq0 {d : Int} (h : (d != 0) = true) : (d == 0) = false := by simpa using h
theorem eq_eq0 {d : Int} (h : (d != 0) = false) : (d == 0) = true := by simpa using h
theorem rn_in {b : Bool} {L : List UInt8} {y : Int} (h : b = (decide (0 ≤ y) && decide (y ≤ 12) && rn L y)) (h0 : 0 ≤ y) (h1 : y ≤ 12) : b = rn L y := by rw [h]; simp [h0, h1]

set_option maxRecDepth 100000 in
set_option maxHeartbeats 1000000 in
theorem depthsOf_any (s : ByteArray) (w : World) (hs : s.size ≤ 1048576) (hT : Tab w) :
    Calls Tryd.prog 58 #[.string s] w (DPost s w) := by
  obtain ⟨i0, hi, hz0, hz1, hz2⟩ := info_parts Tryd.info3
  go_enter Tryd.func58, Tryd.ntmps58
  go_wp2
  refine wp_scope_labels (DJ s w) (Dmu s) ?_ ?_
  · obtain ⟨gd, hgd⟩ : ∃ b, b = good s.data.toList := ⟨_, rfl⟩
    have c1 := goodTextI_any s w hs hT
    rw [← hgd] at c1
    have H1 : Hid (Calls Tryd.prog 70 #[.string s] w fun e w' => e = .returned (.bool gd) ∧ w' = w) := c1
    have HG : Hid (gd = good s.data.toList) := hgd
    clear c1 hgd
    go_wp2_with (go_at_call 70; refine H1.out.mono ?_; rintro e w' ⟨rfl, hw⟩; replace hw := hw.symm; subst hw)
    · simp only [Jumps]
      go_ret2
      have hg : gd = false := by simpa using ‹(!gd) = true›
      exact ⟨Below.refl _ _, Or.inr ⟨by rw [doc, ← HG.out, hg]; rfl, rfl⟩⟩
    · have hg : Hid (gd = true) := by have h : (!gd) = false := by assumption
                                      simpa [Hid] using h
      have hat : DAt s w (.slice none 0 0) 0 [] (dps (s.data.toList.drop 0) 0) w :=
        { hk := Nat.zero_le _, len := rfl, own := World.ownsRow_nil _ _ _ _, below := Below.refl _ _, all := rfl, ok := by rw [← HG.out]; exact hg }
      have hr : Hid (rn s.data.toList 0 = rn (s.data.toList.drop 0) 0) := rfl
      clear HG hg H1
      go_step3
      have hown := hat.own
      go_wp2_with (at_builtin; refine wpList_append_own _ rfl _ _ 47 rfl w.heap.size 3 i0 (.int .i64 0) 1 8 Tryd.underlying47 hi hz0 hz1 hz2 rfl (by decide) _ _ _ rfl (hown.alloc _) ⟨w.heap.size, 0, none⟩ 1 1 [.int .i64 0] rfl rfl ?c1 ?c2 ?c3 ?c4 ?c5 ?_)
      case c1 => exact cell_one_new _ _ _
      case c2 => intro u hu; simp at hu; subst hu; rfl
      case c3 => unfold maxLen; simp
      case c4 => simp
      case c5 => simp
      intro v' w2 hown' hgrow _
      by_cases hlt : 0 < s.size
      · have A := dat_step hat hlt hown' hgrow
        have hT2 : Tab w2 := hT.below A.below
        clear hown' hgrow hown
        go_wp2_with (go_at_call 59; refine (kindOf_any _ _ hT2).mono ?_; rintro e w' ⟨rfl, hw⟩; subst hw)
        · go_step3
          rw [dl_k2 ‹_›] at A
          exact ⟨v', 1, 0, [0], A, by omega, by omega, rn_go hlt hr.out (dl_k2 ‹_›), _, _, _, _, _, _, _, _, _, _, _, _, _, _, _, _, _, _, _, _, _, _, _, _, _, _, _, _, _, _, _, _, _, rfl⟩
        · go_step3
          rw [dl_k3 ‹_› ‹_›] at A
          exact ⟨v', 1, 0, [0], A, by omega, by omega, rn_go hlt hr.out (dl_k3 ‹_› ‹_›), _, _, _, _, _, _, _, _, _, _, _, _, _, _, _, _, _, _, _, _, _, _, _, _, _, _, _, _, _, _, _, _, _, rfl⟩
        · go_step3
          rw [dl_k1 ‹_› ‹_›, Int.add_zero] at A
          exact ⟨v', 1, 0, [0], A, by omega, by omega, rn_stay hlt hr.out (dl_k1 ‹_› ‹_›) (by omega) (by omega), _, _, _, _, _, _, _, _, _, _, _, _, _, _, _, _, _, _, _, _, _, _, _, _, _, _, _, _, _, _, _, _, _, rfl⟩
      · have A := dat_end hat (by omega) hown' hgrow
        have R := rn_last hr.out (by omega)
        have HA : Hid (Below w.heap.size w w2 ∧ w2.ownsRow w.heap.size 3 1 v' (s.size + 1) ((dps s.data.toList 0).map (Value.int .i64))) := A
        have HR : Hid (rn s.data.toList 0 = ((0 : Int) == 0)) := R
        have hok : Hid (good s.data.toList = true) := hat.ok
        clear hown' hgrow hown A R hat hr
        go_wp2
        go_step3
        exact ⟨v', 0, 0, HA.out.1, hok, HA.out.2, by omega, by omega, HR, _, _, _, _, _, _, _, _, _, _, _, _, _, _, _, _, _, _, _, _, _, _, _, _, _, _, _, _, _, _, _, _, _, rfl⟩
  · intro l a w1 hJ
    match l, hJ with
    | 0, hJ =>
      obtain ⟨v, k, d, L, hat, hd0, hd1, hr, u7, u8, u9, u10, u11, u12, u13, u14, u15, u16, u17, u18, u19, u20, u21, u22, u23, u24, u25, u26, u27, u28, u29, u30, u31, u32, u33, u34, u35, u36, u37, u38, u39, rfl⟩ := hJ
      refine ⟨_, rfl, ?_⟩
      have hown := hat.own
      have hk := hat.hk
      have hsz := hat.below.size
      have hlen : Hid (L.length = k) := hat.len
      have hlm : L.length ≤ 1048576 := by rw [hat.len]; omega
      go_wp2_with (at_builtin; refine wpList_append_own _ rfl _ _ 47 rfl w.heap.size 3 i0 (.int .i64 0) 1 8 Tryd.underlying47 hi hz0 hz1 hz2 rfl (by decide) _ _ _ rfl (hown.alloc _) ⟨w1.heap.size, 0, none⟩ 1 1 [.int .i64 d] rfl rfl ?c1 ?c2 ?c3 ?c4 ?c5 ?_)
      case c1 => exact cell_one_new _ _ _
      case c2 => intro u hu; simp at hu; subst hu; rfl
      case c3 => unfold maxLen; omega
      case c4 => omega
      case c5 => simp; omega
      intro v' w2 hown' hgrow _
      by_cases hlt : k < s.size
      · have A := dat_step hat hlt hown' hgrow
        have hT2 : Tab w2 := hT.below A.below
        clear hown' hgrow hown
        go_wp2_with (go_at_call 59; refine (kindOf_any _ _ hT2).mono ?_; rintro e w' ⟨rfl, hw⟩; subst hw)
        · go_step3
          rw [dl_k2 ‹_›] at A
          exact ⟨⟨v', k + 1, d, L ++ [d], A, hd0, hd1, rn_go hlt hr.out (dl_k2 ‹_›), _, _, _, _, _, _, _, _, _, _, _, _, _, _, _, _, _, _, _, _, _, _, _, _, _, _, _, _, _, _, _, _, _, rfl⟩, by simp [Dmu, intOf]; omega⟩
        · go_step3
          rw [dl_k3 ‹_› ‹_›] at A
          exact ⟨⟨v', k + 1, d, L ++ [d], A, hd0, hd1, rn_go hlt hr.out (dl_k3 ‹_› ‹_›), _, _, _, _, _, _, _, _, _, _, _, _, _, _, _, _, _, _, _, _, _, _, _, _, _, _, _, _, _, _, _, _, _, rfl⟩, by simp [Dmu, intOf]; omega⟩
        · go_step3
          rw [dl_k1 ‹_› ‹_›, Int.add_zero] at A
          exact ⟨⟨v', k + 1, d, L ++ [d], A, hd0, hd1, rn_stay hlt hr.out (dl_k1 ‹_› ‹_›) hd0 hd1, _, _, _, _, _, _, _, _, _, _, _, _, _, _, _, _, _, _, _, _, _, _, _, _, _, _, _, _, _, _, _, _, _, rfl⟩, by simp [Dmu, intOf]; omega⟩
      · have A := dat_end hat (by omega) hown' hgrow
        have R := rn_last hr.out (by omega)
        have HA : Hid (Below w.heap.size w w2 ∧ w2.ownsRow w.heap.size 3 1 v' (s.size + 1) ((dps s.data.toList 0).map (Value.int .i64))) := A
        have HR : Hid (rn s.data.toList 0 = (d == 0)) := R
        clear hown' hgrow hown A R
        have hok : Hid (good s.data.toList = true) := hat.ok
        go_wp2
        go_step3
        exact ⟨⟨v', k, d, HA.out.1, hok, HA.out.2, hd0, hd1, HR, _, _, _, _, _, _, _, _, _, _, _, _, _, _, _, _, _, _, _, _, _, _, _, _, _, _, _, _, _, _, _, _, _, rfl⟩, by simp [Dmu]⟩
    | 1, hJ =>
      obtain ⟨v, k, d, hbel, hok, hown, hd0, hd1, hr, u7, u8, u9, u10, u11, u12, u13, u14, u15, u16, u17, u18, u19, u20, u21, u22, u23, u24, u25, u26, u27, u28, u29, u30, u31, u32, u33, u34, u35, u36, u37, u38, u39, rfl⟩ := hJ
      refine ⟨_, rfl, ?_⟩
      have HB : Hid (Below w.heap.size w w1 ∧ w1.ownsRow w.heap.size 3 1 v (s.size + 1) ((dps s.data.toList 0).map (Value.int .i64))) := ⟨hbel, hown⟩
      clear hbel hown
      go_wp2
      · simp only [Jumps]
        go_ret2
        exact ⟨HB.out.1, Or.inr ⟨doc_no hok.out (by rw [hr.out]; exact ne_eq0 ‹_›), rfl⟩⟩
      · simp only [Jumps]
        go_ret2
        exact ⟨HB.out.1, Or.inl ⟨doc_yes hok.out (by rw [hr.out]; exact eq_eq0 ‹_›), _, rfl, HB.out.2⟩⟩
    | 2, hJ =>
      obtain ⟨v, k, d, L, hat, hd0, hd1, hr, u7, u8, u9, u10, u11, u12, u13, u14, u15, u16, u17, u18, u19, u20, u21, u22, u23, u24, u25, u26, u27, u28, u29, u30, u31, u32, u33, u34, u35, u36, u37, u38, u39, rfl⟩ := hJ
      refine ⟨_, rfl, ?_⟩
      go_wp2
      · simp only [Jumps]
        go_ret2
        exact ⟨hat.below, Or.inr ⟨doc_no hat.ok (by rw [hr.out]; simp; omega), rfl⟩⟩
      · go_step3
        exact ⟨⟨v, k, d + 1, L, hat, by omega, by omega, rn_in hr.out (by omega) (by omega), _, _, _, _, _, _, _, _, _, _, _, _, _, _, _, _, _, _, _, _, _, _, _, _, _, _, _, _, _, _, _, _, _, rfl⟩, by simp [Dmu, intOf]⟩
    | 3, hJ =>
      obtain ⟨v, k, d, L, hat, hd0, hd1, hr, u7, u8, u9, u10, u11, u12, u13, u14, u15, u16, u17, u18, u19, u20, u21, u22, u23, u24, u25, u26, u27, u28, u29, u30, u31, u32, u33, u34, u35, u36, u37, u38, u39, rfl⟩ := hJ
      refine ⟨_, rfl, ?_⟩
      go_wp2
      · simp only [Jumps]
        go_ret2
        exact ⟨hat.below, Or.inr ⟨doc_no hat.ok (by rw [hr.out]; simp; omega), rfl⟩⟩
      · go_step3
        exact ⟨⟨v, k, d + -1, L, hat, by omega, by omega, rn_in hr.out (by omega) (by omega), _, _, _, _, _, _, _, _, _, _, _, _, _, _, _, _, _, _, _, _, _, _, _, _, _, _, _, _, _, _, _, _, _, rfl⟩, by simp [Dmu, intOf]⟩
    | _ + 4, hJ => exact hJ.elim
end Go.Proofs.YtafhpnkedjbcdaaDoor
