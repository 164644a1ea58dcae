/- Changes of more than sixty parts are refused, whatever they hold. The contracts of the functions over changes at rows of one's own, however long these are. The laws' sameOps: two rows of the same parts. -/
import Derived.Test.YtfobkjoinjphdaaDoorOpW9M
import Derived.Test.YtfobkjoinjphdaaDoorOpOnM
import Derived.Test.YtfobkjoinjphdaaDoorInv1
import Derived.Test.YtfobkjoinjphdaaDoorRowsPart
import Derived.Test.YtfobkjoinjphdaaDoorCells
import Derived.Deep.QuietTactic
import Derived.BigQuiet
namespace Go.Proofs.YtfobkjoinjphdaaDoor
open Go.RowKit
open Doc1

set_option maxRecDepth 100000 in
theorem sizesI_big {w : World} (a : Option Addr) (n cap : Nat) (h60 : 60 < n) :
    Calls Tryd.prog 17 #[.slice a n cap] w fun e w' => e = .returned (.tuple #[.int .i64 0, .int .i64 0, .bool false]) ∧ Below w.heap.size w w' := by
  have h61 : (60 : Int) < (n : Int) := by omega
  go_enter Tryd.func17, Tryd.ntmps17
  go_wp2
  refine bodyPost_ret (v := .tuple #[.int .i64 0, .int .i64 0, .bool false]) (by simp [results, Tryd.results17, go_sem]) rfl ⟨rfl, ?_⟩
  exact (((Below.refl _ _).alloc (Nat.le_refl _) _).alloc (by simp) _).alloc (by simp; omega) _

set_option maxRecDepth 100000 in
theorem goodOpI_big {w : World} (a : Option Addr) (n cap : Nat) (h60 : 60 < n) :
    Calls Tryd.prog 39 #[.slice a n cap] w fun e w' => e = .returned (.bool false) ∧ Below w.heap.size w w' := by
  have S := hide (sizesI_big (w := w) a n cap h60)
  go_enter Tryd.func39, Tryd.ntmps39
  go_wp2_with fail
  refine S.out.mono ?_
  rintro e w1 ⟨rfl, hb⟩
  go_wp2
  go_ret
  exact ⟨rfl, hb⟩

set_option maxRecDepth 100000 in
theorem goodOpS_big {w : World} (a : Option Addr) (n cap : Nat) (h60 : 60 < n) :
    Calls Tryd.prog 23 #[.slice a n cap] w fun e w' => e = .returned (.bool false) ∧ Below w.heap.size w w' := by
  have h61 : (60 : Int) < (n : Int) := by omega
  go_enter Tryd.func23, Tryd.ntmps23
  go_wp2
  go_ret
  exact ⟨rfl, Below.refl _ _⟩

set_option maxRecDepth 100000 in
theorem sizesS_big {w : World} (a : Option Addr) (n cap : Nat) (h60 : 60 < n) :
    Calls Tryd.prog 9 #[.slice a n cap] w fun e w' => e = .returned (.tuple #[.int .i64 0, .int .i64 0, .bool false]) ∧ Below w.heap.size w w' := by
  have S := hide (goodOpS_big (w := w) a n cap h60)
  go_enter Tryd.func9, Tryd.ntmps9
  go_wp2_with fail
  refine S.out.mono ?_
  rintro e w1 ⟨rfl, hb⟩
  go_wp2
  go_ret3
  exact ⟨rfl, hb⟩

set_option maxRecDepth 100000 in
set_option maxHeartbeats 4000000 in
theorem applyI_big {w : World} (a : Option Addr) (n cap : Nat) (s : ByteArray) (h60 : 60 < n) :
    Calls Tryd.prog 8 #[.slice a n cap, .string s] w fun e w' => e = .returned (.tuple #[.string ⟨#[]⟩, .bool false]) ∧ Below w.heap.size w w' := by
  have hb0 : Hid (∀ a b c : Obj, Below w.heap.size w (((w.alloc a).alloc b).alloc c)) := hide (fun a b c => (((Below.refl _ _).alloc (Nat.le_refl _) _).alloc (by simp) _).alloc (by simp; omega) _)
  have S := hide (fun w' (_ : Below w.heap.size w w') => sizesI_big (w := w') a n cap h60)
  go_enter Tryd.func8, Tryd.ntmps8
  go_wp2_with (go_at_call 17; refine (S.out _ (hb0.out _ _ _)).mono ?_; rintro e w1 ⟨rfl, hb1⟩; obtain ⟨⟨q1, q2, q3⟩, hsw, hbw⟩ := boxes3_up hb1; have e1 := q1.cell; have e2 := q2.cell; have f2 := q2.fz; have e3 := (q3.other (B' := w.heap.size + 1) (by omega) (.string ⟨#[]⟩)).cell; have f3 := (q3.other (B' := w.heap.size + 1) (by omega) (.string ⟨#[]⟩)).fz; have k1 := ((q2.set (.string ⟨#[]⟩)).other (B' := w.heap.size + 1 + 1) (by omega) (.bool false)).cell; have k2 := ((q3.other (B' := w.heap.size + 1) (by omega) (.string ⟨#[]⟩)).set (.bool false)).cell)
  refine bodyPost_ret (v := .tuple #[.string ⟨#[]⟩, .bool false]) (by simp [results, Tryd.results8, go_sem, k1, k2]) rfl ⟨rfl, ?_⟩
  exact (hbw.setCell (p := ⟨w.heap.size + 1, 0, none⟩) (by show _ ≤ _ + 1; omega) _).setCell (p := ⟨w.heap.size + 1 + 1, 0, none⟩) (by show _ ≤ _ + 1 + 1; omega) _
end Go.Proofs.YtfobkjoinjphdaaDoor

namespace Go.Proofs.YtfobkjoinjphdaaDoor
open Go.RowKit
open Doc1

theorem smP_sz {l : List Pt} (h : ∀ p ∈ l, smP p) : ∀ i (hi : i < l.length), l[i].put.size ≤ 1048576 ∧ l[i].drop.size ≤ 1048576 := fun i hi => by
  have := h _ (List.getElem_mem hi)
  exact ⟨by have := this.2.1; omega, by have := this.2.2; omega⟩

theorem no_big {l : List Pt} (h : ¬ l.length ≤ 1048576) : goodO l = false := goodO_no_len (by omega)

theorem gq_smP {l : List Pt} (h : goodO l = true) : ∀ p ∈ l, smP p := fun p hp => by
  have := pk_sizes (goodO_pk h p hp)
  exact ⟨⟨by omega, by omega⟩, this.2.1, this.2.2.1⟩

theorem invO_smP (l : List Pt) : ∀ p ∈ invO l, smP p := by
  by_cases h : goodO l = true
  · exact gq_smP (good_invO h).1
  · have e : invO l = [] := by unfold invO; rw [if_neg h]
    rw [e]; intro p hp; cases hp

theorem own_sl {w : World} {B : Nat} {v : Value} {l : List Pt} (h : POwn w B v l) : ∃ a cap, v = .slice a l.length cap := by
  obtain ⟨a, cap, e, -, -⟩ := own_shp h
  exact ⟨a, cap, e⟩

theorem applyI_own {w : World} {B : Nat} {v : Value} {l : List Pt} (s : ByteArray) (h : POwn w B v l) (hT : Tab w) (hm : ∀ p ∈ l, smP p) (hs : s.size ≤ 1048576) :
    Calls Tryd.prog 8 #[v, .string s] w fun e w' => e = .returned (.tuple #[.string (aplO l s).1, .bool (aplO l s).2]) ∧ Below w.heap.size w w' := by
  by_cases hl : l.length ≤ 1048576
  · obtain ⟨aw, g, cap, rfl, hp⟩ := own_pin h hT (smP_sz hm) hl
    exact applyI s hp hT hs
  · obtain ⟨a, cap, rfl⟩ := own_sl h
    have e : aplO l s = (⟨#[]⟩, false) := by unfold aplO; rw [no_big hl]; simp
    rw [e]
    exact applyI_big a l.length cap s (by omega)

theorem sizesI_own {w : World} {B : Nat} {v : Value} {l : List Pt} (h : POwn w B v l) (hT : Tab w) (hm : ∀ p ∈ l, smP p) :
    Calls Tryd.prog 17 #[v] w fun e w' => e = .returned (.tuple #[.int .i64 (szT l), .int .i64 (szM l), .bool (goodO l)]) ∧ Below w.heap.size w w' := by
  by_cases hl : l.length ≤ 1048576
  · obtain ⟨aw, g, cap, rfl, hp⟩ := own_pin h hT (smP_sz hm) hl
    exact sizesI_any hp hT
  · obtain ⟨a, cap, rfl⟩ := own_sl h
    unfold szT szM
    rw [no_big hl]
    exact sizesI_big a l.length cap (by omega)

theorem sizesS_own {w : World} {B : Nat} {v : Value} {l : List Pt} (h : POwn w B v l) (hT : Tab w) (hm : ∀ p ∈ l, smP p) :
    Calls Tryd.prog 9 #[v] w fun e w' => e = .returned (.tuple #[.int .i64 (szT l), .int .i64 (szM l), .bool (goodO l)]) ∧ Below w.heap.size w w' := by
  by_cases hl : l.length ≤ 1048576
  · obtain ⟨aw, g, cap, rfl, hp⟩ := own_pin h hT (smP_sz hm) hl
    exact sizesS hp
  · obtain ⟨a, cap, rfl⟩ := own_sl h
    unfold szT szM
    rw [no_big hl]
    exact sizesS_big a l.length cap (by omega)
end Go.Proofs.YtfobkjoinjphdaaDoor

namespace Go.Proofs.YtfobkjoinjphdaaDoor
open Go.RowKit
open Doc1

set_option maxHeartbeats 400000 in
theorem sameOps_zero (a b : Option Addr) (ca cb : Nat) (w : World) :
    Calls Tryd.prog 7 #[.slice a 0 ca, .slice b 0 cb] w fun e w' => e = .returned (.bool true) ∧ w' = w := by
  go_enter Tryd.func7, Tryd.ntmps7
  go_wp2
  go_loop [13] (fun i => i = .int .i64 0) (fun _ => 0)
  case atStart => rfl
  case round =>
    subst hrel
    go_wp2
    go_ret
    exact ⟨rfl, rfl⟩

set_option maxRecDepth 100000 in
set_option maxHeartbeats 1000000 in
theorem sameOps_at (ga gb ca cb : Nat) (l : List Pt) (w : World) (hm : l.length ≤ 10000000) (_h1 : l.length ≤ ca ∧ ca ≤ maxLen) (_h2 : l.length ≤ cb ∧ cb ≤ maxLen) (ha : CLs w ga (encP l)) (hb : CLs w gb (encP l)) (hga : ga < w.heap.size) (hgb : gb < w.heap.size) :
    Calls Tryd.prog 7 #[.slice (some ⟨ga, 0, none⟩) l.length ca, .slice (some ⟨gb, 0, none⟩) l.length cb] w fun e w' => e = .returned (.bool true) ∧ Below w.heap.size w w' := by
  go_enter Tryd.func7, Tryd.ntmps7
  go_wp2
  go_loopw [13] (fun i wr => ∃ k : Nat, k ≤ l.length ∧ i = .int .i64 k ∧ Below w.heap.size w wr) (fun i _ => l.length - (intOf i).toNat)
  case atStart => exact ⟨0, by omega, rfl, Below.refl _ _⟩
  case round =>
    obtain ⟨k, hk, rfl, hbel⟩ := hrel
    by_cases hlt : k < l.length
    · obtain ⟨a0, a1, a2⟩ := (ha.later hbel hga).ptat k hlt
      obtain ⟨b0, b1, b2⟩ := (hb.later hbel hgb).ptat k hlt
      go_wp2
      go_quiet (fail)
      go_wp2
      go_roundw
      case rel => exact ⟨k + 1, by omega, by go_num, hbel.trans ⟨rfl, rfl, rfl, Nat.le_refl _, fun _ _ => rfl⟩⟩
      case measure => simp [intOf]; omega
    · go_wp2
      go_ret
      exact ⟨rfl, hbel⟩
/-- Two rows of one's own that hold the same parts. -/
theorem sameOps_own {w : World} {A B : Nat} {u v : Value} {l : List Pt} (ha : POwn w A u l) (hb : POwn w B v l) (hm : l.length ≤ 10000000) :
    Calls Tryd.prog 7 #[u, v] w fun e w' => e = .returned (.bool true) ∧ Below w.heap.size w w' := by
  rcases Nat.eq_zero_or_pos l.length with h0 | h0
  · obtain ⟨a, ca, rfl, -, -⟩ := own_shp ha
    obtain ⟨b, cb, rfl, -, -⟩ := own_shp hb
    rw [h0]
    exact (sameOps_zero a b ca cb w).mono fun e w' ⟨h1, h2⟩ => ⟨h1, h2 ▸ Below.refl _ _⟩
  · obtain ⟨ga, ca, rfl, a1, a2, -, a3, a4, -⟩ := own_cat ha h0
    obtain ⟨gb, cb, rfl, b1, b2, -, b3, b4, -⟩ := own_cat hb h0
    exact sameOps_at ga gb ca cb l w hm ⟨a1, a2⟩ ⟨b1, b2⟩ a4 b4 a3 b3
end Go.Proofs.YtfobkjoinjphdaaDoor
