/- The program's limbs: how long they are, how they are joined. The program's limbs put down as boughs. -/
import Derived.Test.YtkjioadmebkaoaaDoorRop1
import Derived.Test.YtkjioadmebkaoaaDoorRowsBough
import Derived.Deep.Cut
import Derived.Deep.CutRange
import Derived.Test.YtkjioadmebkaoaaDoorFrm
import Derived.Test.YtkjioadmebkaoaaDoorShelf
set_option linter.unusedVariables false
namespace Go.Proofs.YtkjioadmebkaoaaDoor
open Go.RowKit
open Doc1

/-- A tree as a limb. -/
def lv : Lm → Value
  | .pc s => .iface 200 (.string s)
  | .jn a b => .iface 205 (.agg #[lv a, lv b, .int .i64 ((a.sz + b.sz : Nat) : Int)])
def lvO : Option Lm → Value
  | none => .nilIface
  | some t => lv t
theorem size_pc (s : ByteArray) (w : World) : (method 407 200 (.string s) "loop.example/g00253/impl.size").run Tryd.prog w = .ok (248, .string s) w := by kernel_rfl
theorem size_jn (x y z : Value) (w : World) : (method 407 205 (.agg #[x, y, z]) "loop.example/g00253/impl.size").run Tryd.prog w = .ok (251, .agg #[x, y, z]) w := by kernel_rfl

set_option maxHeartbeats 400000 in
theorem pieceSize (s : ByteArray) (w : World) :
    Calls Tryd.prog 248 #[.string s] w fun e w' => e = .returned (.int .i64 (s.size : Int)) ∧ Below w.heap.size w w' := by
  go_enter Tryd.func248, Tryd.ntmps248
  go_wp2
  go_ret
  exact ⟨rfl, Below.refl _ _⟩

set_option maxHeartbeats 400000 in
theorem jointSize (x y : Value) (n : Int) (w : World) :
    Calls Tryd.prog 251 #[.agg #[x, y, .int .i64 n]] w fun e w' => e = .returned (.int .i64 n) ∧ Below w.heap.size w w' := by
  go_enter Tryd.func251, Tryd.ntmps251
  go_wp2
  go_ret
  exact ⟨rfl, (Below.refl _ _).alloc (Nat.le_refl _) _⟩

theorem ent_pc (a : Array Value) (w : World) : (callFunc 248 a).run Tryd.prog w = .ok (.enter 248 a) w := by kernel_rfl
theorem ent_jn (a : Array Value) (w : World) : (callFunc 251 a).run Tryd.prog w = .ok (.enter 251 a) w := by kernel_rfl
/-- A limb's own type, and its function for its length. -/
theorem lv_size (t : Lm) : ∃ T v K, lv t = .iface T v ∧ (∀ a w, (callFunc K a).run Tryd.prog w = .ok (.enter K a) w) ∧ (∀ w, (method 407 T v "loop.example/g00253/impl.size").run Tryd.prog w = .ok (K, v) w) ∧ ∀ w, Calls Tryd.prog K #[v] w fun e w' => e = .returned (.int .i64 (t.sz : Int)) ∧ Below w.heap.size w w' := by
  cases t with
  | pc s => exact ⟨_, _, _, rfl, ent_pc, size_pc s, pieceSize s⟩
  | jn a b => exact ⟨_, _, _, rfl, ent_jn, size_jn _ _ _, fun w => jointSize _ _ _ w⟩

set_option maxRecDepth 100000 in
set_option maxHeartbeats 800000 in
theorem lengthOf_any (o : Option Lm) (w : World) :
    Calls Tryd.prog 67 #[lvO o] w fun e w' => e = .returned (.int .i64 (szO o : Int)) ∧ Below w.heap.size w w' := by
  cases o with
  | none =>
    have hq : ∀ w, (binOp .eql 106 .nilIface .nilIface).run Tryd.prog w = .ok (.bool true) w := fun _ => by rfl
    unfold lvO
    go_enter Tryd.func67, Tryd.ntmps67
    go_wp2
    go_ret
    exact ⟨rfl, Below.refl _ _⟩
  | some t =>
    obtain ⟨T, v, K, e, hk, hm, hc⟩ := lv_size t
    have hq : ∀ w, (binOp .eql 106 (.iface T v) .nilIface).run Tryd.prog w = .ok (.bool false) w := fun _ => by rfl
    show Calls Tryd.prog _ #[lv t] w _
    rw [e]
    have HC := hide hc
    clear hc
    go_enter Tryd.func67, Tryd.ntmps67
    go_wp2_with fail
    refine (HC.out w).mono ?_
    rintro e w' ⟨rfl, hb⟩
    go_wp2
    go_ret
    exact ⟨rfl, hb⟩
end Go.Proofs.YtkjioadmebkaoaaDoor

set_option linter.unusedVariables false
namespace Go.Proofs.YtkjioadmebkaoaaDoor
open Go.RowKit
open Doc1

theorem Tryd.infoBough : (Tryd.prog.info? 36).map (fun i => (i.zero, i.size, i.bytes)) = some (some (.agg #[.int .i64 0, .int .i64 0, .string ⟨#[]⟩, .int .i64 0, .int .i64 0]), 5, 48) := by kernel_rfl
theorem cell5_at (W : World) (k : Nat) (hk : k = W.heap.size) (a b c d e : Value) (t : TypeId) : ∀ j u, [a, b, c, d, e][j]? = some u → (W.alloc (.cells #[a, b, c, d, e] t)).cell? ((⟨k, 0, none⟩ : Addr).add j) = some u := by
  subst hk
  intro j u hu
  have hh := heap_alloc_new W (.cells #[a, b, c, d, e] t)
  rw [addr0]
  unfold World.cell?
  rw [hh]
  match j, hu with
  | 0, hu => simpa using hu
  | 1, hu => simpa using hu
  | 2, hu => simpa using hu
  | 3, hu => simpa using hu
  | 4, hu => simpa using hu
theorem BoOwn.app {w : World} {B : Nat} {v : Value} {l : List Bg} {p : Bg} (h : w.ownsRow B 36 5 v (l.length + 1) (encBo l ++ bgC p)) : BoOwn w B v (l ++ [p]) := by
  unfold BoOwn
  rw [encBo_app, List.length_append]
  simpa [encBo] using h
theorem BoOwn.lt {w : World} {B : Nat} {v : Value} {l : List Bg} (h : BoOwn w B v l) : ∀ y, v.ownBlock = some y → y < w.heap.size := fun y hy => (World.ownsRow.lt h y hy).2

set_option maxHeartbeats 400000 in
theorem clone_any (s : ByteArray) (w : World) (hs : s.size ≤ 10000000) :
    Calls Tryd.prog 119 #[.string s] w fun e w' => e = .returned (.string s) ∧ Below w.heap.size w w' := by
  have H := hide (Tryd.stringslite_Clone s w (by omega))
  go_enter Tryd.func119, Tryd.ntmps119
  go_wp2_with (go_at_call 167; refine H.out.mono ?_; rintro e w' ⟨rfl, hb⟩)
  go_ret
  exact ⟨rfl, hb⟩

/-- What is left by putting down. -/
def PdPost (t : Lm) (B : Nat) (v : Value) (l : List Bg) (w : World) (e : Ending) (w' : World) : Prop := ∃ v', e = .returned v' ∧ BoOwn w' B v' (l ++ t.pd l.length) ∧ Fr B v.ownBlock w w' ∧ (v'.ownBlock = v.ownBlock ∨ ∀ y, v'.ownBlock = some y → w.heap.size ≤ y)

theorem put_pc (s : ByteArray) (w : World) : (method 407 200 (.string s) "loop.example/g00253/impl.putDown").run Tryd.prog w = .ok (247, .string s) w := by kernel_rfl
theorem put_jn (x y z : Value) (w : World) : (method 407 205 (.agg #[x, y, z]) "loop.example/g00253/impl.putDown").run Tryd.prog w = .ok (250, .agg #[x, y, z]) w := by kernel_rfl
theorem entp_pc (a : Array Value) (w : World) : (callFunc 247 a).run Tryd.prog w = .ok (.enter 247 a) w := by kernel_rfl
theorem entp_jn (a : Array Value) (w : World) : (callFunc 250 a).run Tryd.prog w = .ok (.enter 250 a) w := by kernel_rfl

set_option maxRecDepth 100000 in
set_option maxHeartbeats 2000000 in
theorem pieceDown (s : ByteArray) (hs : s.size ≤ 10000) (B : Nat) (v : Value) (l : List Bg) (w : World) (h : BoOwn w B v l) (hB : B ≤ w.heap.size) (hl : l.length ≤ 10000) :
    Calls Tryd.prog 247 #[.string s, v] w (PdPost (.pc s) B v l w) := by
  obtain ⟨i0, hi0, hz0, hz1, hz2⟩ := info_parts Tryd.infoBough
  have C := hide (clone_any s w (by omega))
  unfold PdPost
  go_enter Tryd.func247, Tryd.ntmps247
  go_wp2_with fail
  refine C.out.mono ?_
  rintro e w2 ⟨rfl, hb2⟩
  have own2 := own_below h hb2
  have hs2 := hb2.size
  have F2 : Fr B v.ownBlock w w2 := ⟨hb2.mono hB, ⟨hb2.os, hb2.tape, hb2.output, hb2.size, fun k hk _ => hb2.block k hk⟩⟩
  go_wp2_with (at_builtin; go_loud (refine wpList_append_loc _ rfl _ _ 24 rfl B 36 i0 (.agg #[.int .i64 0, .int .i64 0, .string ⟨#[]⟩, .int .i64 0, .int .i64 0]) 5 48 Tryd.underlying24 hi0 hz0 hz1 hz2 rfl (by decide) _ _ _ rfl (own2.alloc _) ⟨w2.heap.size, 0, none⟩ 1 1 (bgC ⟨-1, -1, s, (s.size : Int), 0⟩) rfl rfl (cell5_at _ _ rfl _ _ _ _ _ _) (by intro u hu; simp [bgC] at hu; rcases hu with rfl | rfl | rfl | rfl | rfl <;> rfl) (by unfold maxLen; omega) (by omega) (by simp; omega) ?_); intro v3 w3 own3 grow3 loc3; have HO : Hid (BoOwn w3 B v3 (l ++ [⟨-1, -1, s, (s.size : Int), 0⟩])) := hide (BoOwn.app own3); have HF : Hid (Fr B v.ownBlock w w3) := hide (fr_append F2 own2 (by omega) grow3); clear own3 grow3)
  go_ret
  refine ⟨v3, rfl, HO.out, HF.out, loc3.imp id (fun k y hy => ?_)⟩
  have := k y hy
  simp at this
  omega
/-- How a limb is put down through its interface. -/
def PdC (t : Lm) : Prop := ∃ T x K, lv t = .iface T x ∧ (∀ a w, (callFunc K a).run Tryd.prog w = .ok (.enter K a) w) ∧ (∀ w, (method 407 T x "loop.example/g00253/impl.putDown").run Tryd.prog w = .ok (K, x) w) ∧ ∀ B v l w, BoOwn w B v l → B ≤ w.heap.size → l.length + t.nb ≤ 10000 → Calls Tryd.prog K #[x, v] w (PdPost t B v l w)
theorem BoOwn.shape {w : World} {B : Nat} {v : Value} {l : List Bg} (h : BoOwn w B v l) (hl : l ≠ []) : ∃ g cap, v = .slice (some ⟨g, 0, none⟩) l.length cap ∧ l.length ≤ cap ∧ cap ≤ maxLen ∧ B ≤ g ∧ g < w.heap.size ∧ CLs w g (encBo l) ∧ Blk w g (l.length * 5) := by
  obtain ⟨g, cap, h1, h2, h3, h4, h5, h6, h7⟩ := own_cat h (List.length_pos_iff.2 hl)
  exact ⟨g, cap, h1, h2, h3, h4, h5, h6, by rw [← encBo_len]; exact h7⟩
theorem deep_at (l : List Bg) (a b : Lm) : ∃ (h1 : l.length + a.nb - 1 < (l ++ a.pd l.length ++ b.pd (l.length + a.nb)).length) (h2 : l.length + a.nb + b.nb - 1 < (l ++ a.pd l.length ++ b.pd (l.length + a.nb)).length), (l ++ a.pd l.length ++ b.pd (l.length + a.nb))[l.length + a.nb - 1].deep = (a.dp : Int) ∧ (l ++ a.pd l.length ++ b.pd (l.length + a.nb))[l.length + a.nb + b.nb - 1].deep = (b.dp : Int) := by
  obtain ⟨i, e1, k1⟩ := Lm.pd_root a l.length
  obtain ⟨j, e2, k2⟩ := Lm.pd_root b (l.length + a.nb)
  have hl : (l ++ a.pd l.length ++ b.pd (l.length + a.nb)).length = l.length + a.nb + b.nb := by rw [List.length_append, List.length_append, Lm.pd_len, Lm.pd_len]
  refine ⟨by rw [hl]; have := Lm.nb_pos a; have := Lm.nb_pos b; omega, by rw [hl]; have := Lm.nb_pos b; omega, ?_, ?_⟩
  · have : (l ++ a.pd l.length ++ b.pd (l.length + a.nb))[l.length + a.nb - 1]? = some (a.rb l.length) := by
      rw [e1, List.append_assoc, List.getElem?_append_right (by omega), List.getElem?_append_left (by simp; omega), List.getElem?_append_right (by omega), show l.length + a.nb - 1 - l.length - i.length = 0 by omega]
      rfl
    rw [(List.getElem_eq_iff _).2 this]
    exact (Lm.rb_is a _).2
  · have : (l ++ a.pd l.length ++ b.pd (l.length + a.nb))[l.length + a.nb + b.nb - 1]? = some (b.rb (l.length + a.nb)) := by
      rw [List.getElem?_append_right (by rw [List.length_append, Lm.pd_len]; omega), List.length_append, Lm.pd_len, e2, List.getElem?_append_right (by omega), show l.length + a.nb + b.nb - 1 - (l.length + a.nb) - j.length = 0 by omega]
      rfl
    rw [(List.getElem_eq_iff _).2 this]
    exact (Lm.rb_is b _).2

set_option maxRecDepth 100000 in
set_option maxHeartbeats 4000000 in
theorem jointDown (a b : Lm) (ha : PdC a) (hb : PdC b) (hsz : a.sz + b.sz ≤ 100000) (B : Nat) (v : Value) (l : List Bg) (w : World) (h : BoOwn w B v l) (hB : B ≤ w.heap.size) (hl : l.length + (a.nb + b.nb + 1) ≤ 10000) :
    Calls Tryd.prog 250 #[.agg #[lv a, lv b, .int .i64 ((a.sz + b.sz : Nat) : Int)], v] w (PdPost (.jn a b) B v l w) := by
  obtain ⟨i0, hi0, hz0, hz1, hz2⟩ := info_parts Tryd.infoBough
  obtain ⟨T1, x1, K1, e1, ka, ma, ca⟩ := ha
  obtain ⟨T2, x2, K2, e2, kb, mb, cb⟩ := hb
  rw [e1, e2]
  obtain ⟨n, hn⟩ : ∃ n : Nat, n = a.sz + b.sz := ⟨_, rfl⟩
  rw [← hn] at hsz ⊢
  have CA := hide ca
  have CB := hide cb
  have HN := hide hn
  have pa := Lm.nb_pos a
  have pb := Lm.nb_pos b
  have da := Lm.dp_lt a
  have db := Lm.dp_lt b
  clear ca cb hn
  have HV := hide h.lt
  obtain ⟨w1, hw1⟩ : ∃ w1, w1 = w.alloc (.cells #[.iface T1 x1, .iface T2 x2, .int .i64 (n : Int)] 205) := ⟨_, rfl⟩
  have own1 : BoOwn w1 B v l := by rw [hw1]; exact World.ownsRow.alloc h _
  have F1 : Fr B v.ownBlock w w1 := by rw [hw1]; exact (Fr.refl _ _ _).alloc hB _
  have hs1 : w1.heap.size = w.heap.size + 1 := by rw [hw1]; simp
  have c1 : w1.cell? ⟨w.heap.size, 1, none⟩ = some (.iface T2 x2) := by rw [hw1, cell_of_row _ _ 1 _ _ (0, 0) (heap_alloc_new w _)]; rfl
  have c2 : w1.cell? ⟨w.heap.size, 2, none⟩ = some (.int .i64 (n : Int)) := by rw [hw1, cell_of_row _ _ 2 _ _ (0, 0) (heap_alloc_new w _)]; rfl
  unfold PdPost
  go_enter Tryd.func250, Tryd.ntmps250
  go_wp2_with fail
  rw [← hw1]
  refine (CA.out B v l w1 own1 (by omega) (by omega)).mono ?_
  rintro e w2 ⟨v2, rfl, own2, F2, loc2⟩
  have c1' : w2.cell? ⟨w.heap.size, 1, none⟩ = some (.iface T2 x2) := by rw [F2.cell (by omega) (fun e => by have := HV.out _ e; omega)]; exact c1
  have c2' : w2.cell? ⟨w.heap.size, 2, none⟩ = some (.int .i64 (n : Int)) := by rw [F2.cell (by omega) (fun e => by have := HV.out _ e; omega)]; exact c2
  have HF2 := hide (F1.trans F2)
  have hs2 := F2.g.size
  have hne2 : v2.ownBlock ≠ some w.heap.size := fun e => by
    rcases loc2 with k | k
    · rw [k] at e; have := HV.out _ e; omega
    · have := k _ e; omega
  have LOC2 : Hid (v2.ownBlock = v.ownBlock ∨ ∀ y, v2.ownBlock = some y → w.heap.size ≤ y) := hide (loc2.imp id (fun k y hy => by have := k y hy; omega))
  obtain ⟨ga, cpa, rfl, z1, z2, -⟩ := BoOwn.shape own2 (fun c => by have := congrArg List.length c; rw [List.length_append, Lm.pd_len] at this; simp at this; omega)
  have ll : (l ++ a.pd l.length).length = l.length + a.nb := by rw [List.length_append, Lm.pd_len]
  rw [ll] at own2 z1 hne2 LOC2 ⊢
  have CB2 := hide (CB.out B _ (l ++ a.pd l.length) w2 own2 (by omega) (by omega))
  obtain ⟨la, hla⟩ : ∃ la, la = l.length + a.nb := ⟨_, rfl⟩
  obtain ⟨ia, hia⟩ : ∃ ia, ia + 1 = la := ⟨la - 1, by omega⟩
  obtain ⟨ib, hib⟩ : ∃ ib, ib + 1 = la + b.nb := ⟨la + b.nb - 1, by omega⟩
  have ew : IntKind.i64.wrap ((la : Int) - 1) = (ia : Int) := by rw [IntKind.wrap_i64]; omega
  have ew2 : IntKind.i64.wrap (((la + b.nb : Nat) : Int) - 1) = (ib : Int) := by rw [IntKind.wrap_i64]; omega
  have HLA := hide (And.intro hla (And.intro hia hib))
  rw [← hla] at z1 hne2 LOC2 CB2 ⊢
  clear c1 c2 F1 F2 own1 own2 hw1 h loc2 CA CB ll hia hib hla
  go_wp2_with fail
  refine CB2.out.mono ?_
  rintro e w3 ⟨v3, rfl, own3, F3, loc3⟩
  obtain ⟨hla, hia, hib⟩ := HLA.out
  have c2 : w3.cell? ⟨w.heap.size, 2, none⟩ = some (.int .i64 (n : Int)) := by rw [F3.cell (by omega) hne2]; exact c2'
  have HF3 : Hid (Fr B v.ownBlock w w3) := hide (HF2.out.on F3 LOC2.out)
  have hs3 := F3.g.size
  have LOC3 : Hid (v3.ownBlock = v.ownBlock ∨ ∀ y, v3.ownBlock = some y → w.heap.size ≤ y) := hide (by
    rcases loc3 with k | k
    · rw [k]; exact LOC2.out
    · exact .inr (fun y hy => by have := k y hy; omega))
  rw [List.length_append, Lm.pd_len] at own3
  obtain ⟨d1, d2, d3, d4⟩ := deep_at l a b
  have HE : Hid (l ++ Lm.pd l.length (.jn a b) = l ++ a.pd l.length ++ b.pd (l.length + a.nb) ++ [⟨((l.length + a.nb : Nat) : Int) - 1, ((l.length + a.nb + b.nb : Nat) : Int) - 1, eT, ((a.sz + b.sz : Nat) : Int), ((max a.dp b.dp + 1 : Nat) : Int)⟩]) := hide (by simp [Lm.pd])
  obtain ⟨L, hL⟩ : ∃ L, L = l ++ a.pd l.length ++ b.pd (l.length + a.nb) := ⟨_, rfl⟩
  have hLl : L.length = l.length + a.nb + b.nb := by rw [hL, List.length_append, List.length_append, Lm.pd_len, Lm.pd_len]
  rw [← hL] at own3 HE
  simp only [← hL] at d1 d2 d3 d4
  obtain ⟨g, cap, rfl, z3, z4, z5, z6, z7, -⟩ := BoOwn.shape own3 (fun c => by rw [c] at hLl; simp at hLl; omega)
  have x1c := (z7.bgat _ d1).2.2.2.2
  have x2c := (z7.bgat _ d2).2.2.2.2
  rw [d3, show l.length + a.nb - 1 = ia by omega] at x1c
  rw [d4, show l.length + a.nb + b.nb - 1 = ib by omega] at x2c
  have hi1 : ia < L.length := by omega
  have hi2 : ib < L.length := by omega
  have ew3 : IntKind.i64.wrap ((L.length : Int) - 1) = (ib : Int) := by rw [IntKind.wrap_i64]; omega
  have hLL : l.length + a.nb + b.nb = L.length := hLl.symm
  have hLT : L.length ≤ 10000 := by omega
  have hB3 : B ≤ w3.heap.size := by omega
  have HLE := hide (And.intro hLL hL)
  have OWN3 := hide own3
  have da2 : a.dp < 10000 := by omega
  have db2 : b.dp < 10000 := by omega
  clear F3 loc3 d1 d2 d3 d4 own3 HF2 LOC2 c2' CB2 ew2 hla hia hib hLl hLL hL hs1 hs2 hs3 hne2 z1 z2 da db pa pb hl hsz e1 e2 ka kb ma mb
  go_wp2
  go_region
  obtain ⟨m, hm⟩ : ∃ m : Nat, max (a.dp : Int) (b.dp : Int) = (m : Int) := ⟨max a.dp b.dp, by omega⟩
  have HM := hide hm
  rw [hm]
  have hm2 : m < 10000 := by omega
  have OWN4 := hide (own_below OWN3.out ((Below.refl _ w3).drew))
  have F4 := HF3.out.drew
  have c2d : w3.drew.cell? ⟨w.heap.size, 2, none⟩ = some (.int .i64 (n : Int)) := c2
  have hB4 : B ≤ w3.drew.heap.size := hB3
  obtain ⟨w4, hw4⟩ : ∃ w4, w3.drew = w4 := ⟨_, rfl⟩
  rw [hw4] at OWN4 F4 c2d hB4 ⊢
  have HF4 := hide F4
  have hsw4 : w.heap.size ≤ w4.heap.size := F4.g.size
  have HSB : Hid (∀ y, (Value.slice (some ⟨g, 0, none⟩) L.length cap).ownBlock = some y → y < w4.heap.size) := hide (BoOwn.lt OWN4.out)
  clear hm c2 x1c x2c z3 z5 z6 z7 OWN3 hB3 hw4 c1' F4 HF3
  go_wp2_with (at_builtin; go_loud (refine wpList_append_loc _ rfl _ _ 24 rfl B 36 i0 (.agg #[.int .i64 0, .int .i64 0, .string ⟨#[]⟩, .int .i64 0, .int .i64 0]) 5 48 Tryd.underlying24 hi0 hz0 hz1 hz2 rfl (by decide) _ _ _ rfl (OWN4.out.alloc _) ⟨w4.heap.size, 0, none⟩ 1 1 (bgC ⟨(ia : Int), (ib : Int), ⟨#[]⟩, (n : Int), (m : Int) + 1⟩) rfl rfl (cell5_at _ _ rfl _ _ _ _ _ _) (by intro u hu; simp [bgC] at hu; rcases hu with rfl | rfl | rfl | rfl | rfl <;> rfl) (by unfold maxLen; omega) (by omega) (by simp; omega) ?_); intro v3 w5 own5 grow5 loc5; have HO : Hid (BoOwn w5 B v3 (L ++ [⟨(ia : Int), (ib : Int), ⟨#[]⟩, (n : Int), (m : Int) + 1⟩])) := hide (BoOwn.app own5); have HG5 := hide grow5; clear own5 grow5)
  go_ret
  obtain ⟨hLL, hL⟩ := HLE.out
  obtain ⟨hla, hia, hib⟩ := HLA.out
  refine ⟨v3, rfl, ?_, ?_, ?_⟩
  · rw [HE.out]
    have := HO.out
    rw [show ((l.length + a.nb : Nat) : Int) - 1 = (ia : Int) by omega, show ((l.length + a.nb + b.nb : Nat) : Int) - 1 = (ib : Int) by omega, ← HN.out, show ((max a.dp b.dp + 1 : Nat) : Int) = (m : Int) + 1 by have := HM.out; omega]
    exact this
  · have fa : Fr B (Value.slice (some ⟨g, 0, none⟩) L.length cap).ownBlock w4 w5 := fr_append (Fr.refl _ _ _) OWN4.out hB4 HG5.out
    exact HF4.out.on fa LOC3.out
  · rcases loc5 with k | k
    · rw [k]; exact LOC3.out
    · exact .inr (fun y hy => by have := k y hy; simp at this; omega)
end Go.Proofs.YtkjioadmebkaoaaDoor
