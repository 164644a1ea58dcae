/- The contract of impl.partKind. The contracts of the iterator partsOf. -/
import Derived.Test.YtmjehpigfkobeabDoorOpSA
import Derived.RangeFuncNested
import Derived.RangeFuncBound
import Derived.RangeFuncCalls
import Derived.RangeFuncLeaves
import Derived.Shelf.Abstract
import Derived.Shelf.RegionOpen
import Derived.WalkKit
import Derived.OwnWalkIn
import Derived.TacticsInMore
import Derived.LoopNIn
import Derived.LoopIn
namespace Go.Proofs.YtmjehpigfkobeabDoor
open Go.RowKit
open Doc1

set_option maxRecDepth 100000 in
set_option maxHeartbeats 1500000 in
theorem partKind_any (p : Pt) (w : World) (h1 : p.put.size ≤ 1048576) (h2 : p.drop.size ≤ 1048576) (hT : Tab w) :
    Calls Tryd.prog 112 #[ptV p] w fun e w' => e = .returned (.int .i64 (pk p : Int)) ∧ Below w.heap.size w w' := by
  unfold ptV
  have hT2 : ∀ o, Tab (w.alloc o) := fun o => hT.below ((Below.refl _ _).alloc (Nat.le_refl _) _)
  have G1 := hide (fun w' h => goodTextI_any p.put w' h1 h)
  have G2 := hide (fun w' h => goodTextI_any p.drop w' h2 h)
  have e1 := emp_b p.put
  have e2 := emp_b p.drop
  obtain ⟨R, hR⟩ : ∃ R, R = pk p := ⟨_, rfl⟩
  rw [← hR]
  unfold pk at hR
  have k0 : (p.keep == 0) = decide (p.keep = 0) := by by_cases h : p.keep = 0 <;> simp [h]
  have hRb : R = if (decide (p.put.data.toList = []) && (decide (p.drop.data.toList = []) && (decide (1 ≤ p.keep) && decide (p.keep ≤ 300)))) = true then 1
      else if (decide (p.keep = 0) && (decide (p.drop.data.toList = []) && (!decide (p.put.data.toList = []) && good p.put.data.toList))) = true then 2
      else if (decide (p.keep = 0) && (decide (p.put.data.toList = []) && (!decide (p.drop.data.toList = []) && good p.drop.data.toList))) = true then 3 else 0 := by
    rw [hR]; simp only [Bool.and_eq_true, Bool.not_eq_true', decide_eq_true_eq, decide_eq_false_iff_not, ne_eq]
  have HR := hide hRb
  clear hR hRb
  have hk : ∀ b1 b2 b3 : Bool, decide (p.keep = 0) = b1 → decide (1 ≤ p.keep) = b2 → decide (p.keep ≤ 300) = b3 → (b1 = true → b2 = false) := by
    intro b1 b2 b3 x1 x2 x3 y
    subst y
    have := of_decide_eq_true x1
    rw [← x2]; apply decide_eq_false; omega
  generalize good p.put.data.toList = g1 at *
  generalize good p.drop.data.toList = g2 at *
  generalize decide (p.put.data.toList = []) = bp at *
  generalize decide (p.drop.data.toList = []) = bd at *
  cases hz : decide (p.keep = 0) with
  | true =>
    have hl : decide (1 ≤ p.keep) = false := hk _ _ _ hz rfl rfl rfl
    rw [hz, hl] at HR
    rw [hz] at k0
    have nl : ¬ (1 ≤ p.keep) := of_decide_eq_false hl
    clear hk hz hl
    cases bp with
    | false =>
      cases bd with
      | false =>
        go_enter Tryd.func112, Tryd.ntmps112
        go_wp2
        go_ret
        exact ⟨ret_i2 (by rw [HR.out]; rfl), (Below.refl _ _).alloc (Nat.le_refl _) _⟩
      | true =>
        cases g1 with
        | false =>
          go_enter Tryd.func112, Tryd.ntmps112
          go_wp2_with (go_at_call 90; refine (G1.out _ (hT2 _)).mono ?_; rintro e w' ⟨rfl, hw⟩; replace hw := hw.symm; subst hw)
          go_ret
          exact ⟨ret_i2 (by rw [HR.out]; rfl), (Below.refl _ _).alloc (Nat.le_refl _) _⟩
        | true =>
          go_enter Tryd.func112, Tryd.ntmps112
          go_wp2_with (go_at_call 90; refine (G1.out _ (hT2 _)).mono ?_; rintro e w' ⟨rfl, hw⟩; replace hw := hw.symm; subst hw)
          go_ret
          exact ⟨ret_i2 (by rw [HR.out]; rfl), (Below.refl _ _).alloc (Nat.le_refl _) _⟩
    | true =>
      cases bd with
      | false =>
        cases g2 with
        | false =>
          go_enter Tryd.func112, Tryd.ntmps112
          go_wp2_with (go_at_call 90; refine (G2.out _ (hT2 _)).mono ?_; rintro e w' ⟨rfl, hw⟩; replace hw := hw.symm; subst hw)
          go_ret
          exact ⟨ret_i2 (by rw [HR.out]; rfl), (Below.refl _ _).alloc (Nat.le_refl _) _⟩
        | true =>
          go_enter Tryd.func112, Tryd.ntmps112
          go_wp2_with (go_at_call 90; refine (G2.out _ (hT2 _)).mono ?_; rintro e w' ⟨rfl, hw⟩; replace hw := hw.symm; subst hw)
          go_ret
          exact ⟨ret_i2 (by rw [HR.out]; rfl), (Below.refl _ _).alloc (Nat.le_refl _) _⟩
      | true =>
        go_enter Tryd.func112, Tryd.ntmps112
        go_wp2
        go_ret
        exact ⟨ret_i2 (by rw [HR.out]; rfl), (Below.refl _ _).alloc (Nat.le_refl _) _⟩
  | false =>
    rw [hz] at HR k0
    clear hk hz
    by_cases hl : 1 ≤ p.keep
    · by_cases hg : p.keep ≤ 300
      · rw [decide_eq_true hl, decide_eq_true hg] at HR
        cases bp <;> cases bd
        all_goals
          go_enter Tryd.func112, Tryd.ntmps112
          go_wp2
          go_ret
          exact ⟨ret_i2 (by rw [HR.out]; rfl), (Below.refl _ _).alloc (Nat.le_refl _) _⟩
      · rw [decide_eq_true hl, decide_eq_false hg] at HR
        cases bp <;> cases bd
        all_goals
          go_enter Tryd.func112, Tryd.ntmps112
          go_wp2
          go_ret
          exact ⟨ret_i2 (by rw [HR.out]; rfl), (Below.refl _ _).alloc (Nat.le_refl _) _⟩
    · rw [decide_eq_false hl] at HR
      cases bp <;> cases bd
      all_goals
        go_enter Tryd.func112, Tryd.ntmps112
        go_wp2
        go_ret
        exact ⟨ret_i2 (by rw [HR.out]; rfl), (Below.refl _ _).alloc (Nat.le_refl _) _⟩
end Go.Proofs.YtmjehpigfkobeabDoor

namespace Go.Proofs.YtmjehpigfkobeabDoor
open Go.RowKit Go.Shelf
open Doc1

attribute [local go_sem] Oper.semAt_some

/-- What the iterator hands on: the part's kind, and the part. -/
def ptE (x : Pt) : Array Value := #[.int .i64 (pk x : Int), ptV x]
theorem grownB {w w1 : World} (hb : Below w.heap.size w w1) : w.grownBy w1 none := ⟨hb.os, hb.tape, hb.output, hb.size, fun k hk _ => hb.block k hk⟩
theorem yield_b {F : Fence} {m : Nat} {P : Program} {l : Nat} {fn : FuncId} {tmps : Array Value} {assign body : Code} {W : World} {A : World → Prop} {B : World → Prop}
    (h : RoundIn F m P l fn tmps assign body W fun e W' => (e = .returned (.bool true) ∧ A W') ∨ (e = .returned (.bool false) ∧ B W')) :
    RoundIn F m P l fn tmps assign body W fun e W' => ∃ b : Bool, e = .returned (.bool b) ∧ (b = true → A W') ∧ (b = false → B W') :=
  h.mono (fun e W' hh => by
    rcases hh with ⟨rfl, ha⟩ | ⟨rfl, hb⟩
    · exact ⟨true, rfl, fun _ => ha, fun c => by cases c⟩
    · exact ⟨false, rfl, (fun c => by cases c), fun _ => hb⟩)

theorem cells3_kept {w w2 : World} {a b c : Value} {t : TypeId} (h : Below (w.alloc (.cells #[a, b, c] t)).drew.heap.size (w.alloc (.cells #[a, b, c] t)).drew w2) : w2.cell? ⟨w.heap.size, 0, none⟩ = some a ∧ w2.cell? ⟨w.heap.size, 1, none⟩ = some b ∧ w2.cell? ⟨w.heap.size, 2, none⟩ = some c := by
  have hh := heap_alloc_new w (.cells #[a, b, c] t)
  have hk := h.block w.heap.size (by show w.heap.size < (w.alloc _).heap.size; simp)
  refine ⟨(World.cell?_of_block hk).trans ?_, (World.cell?_of_block hk).trans ?_, (World.cell?_of_block hk).trans ?_⟩
  all_goals
    show (w.alloc (.cells #[a, b, c] t)).cell? _ = _
    unfold World.cell?
    rw [hh]; rfl

set_option maxRecDepth 100000 in
set_option maxHeartbeats 2000000 in
theorem parts1_in (n : Nat) (hn : 1 ≤ n) (li Bs n₀ : Nat) (aw : Option Addr) (g cap : Nat) (l : List Pt) (hadr : ∀ k, k < l.length → aw = some ⟨g, 0, none⟩) (J Jx : List Pt → World → Prop) (W : World) (hg : g < n₀) (hn0 : n₀ ≤ W.heap.size) (hln : l.length ≤ 1048576) (_hcap : l.length ≤ cap ∧ cap ≤ maxLen)
    (hsz : ∀ i (hi : i < l.length), l[i].put.size ≤ 1048576 ∧ l[i].drop.size ≤ 1048576) (hT : Tab W) (hTn : 3 < n₀)
    (hJ : AbidesFrom W.heap.size J)
    (hY : ∀ pre x W1, J pre W1 → pre.length < l.length → YieldAt Fence.wide (n - 1) Tryd.prog li (ptE x) W1 fun e W' =>
      (e = .returned (.bool true) ∧ J (pre ++ [x]) W' ∧ Below n₀ W1 W') ∨ (e = .returned (.bool false) ∧ Jx (pre ++ [x]) W'))
    (hBs : W.cell? ⟨Bs, 0, none⟩ = some (.slice aw l.length cap)) (hc : CLs W g (encP l)) (h0 : J [] W) :
    CallsIn Fence.wide n Tryd.prog 111 #[.func (.yield li) #[] #[], .pointer (some ⟨Bs, 0, none⟩)] W fun e W' => (∃ v, e = .returned v) ∧
      ((∃ ys, ys = l ∧ J ys W') ∨ (∃ pre, pre <+: l ∧ Jx pre W')) := by
  have hmix : Tryd.prog.follows .mixedOrders = true := by kernel_rfl
  refine callsIn_of_wp Tryd.func111 rfl trivial ?_ rfl
  simp only [Tryd.ntmps111, List.size_toArray, List.length_cons, List.length_nil, Nat.reduceAdd, Nat.reduceSub, Array.replicate_succ, Array.replicate_zero, List.push_toArray, List.append_toArray, List.nil_append, List.cons_append]
  gi_wp2
  gi_loopw [7] (fun i wr => ∃ k : Nat, k ≤ l.length ∧ i = .int .i64 k ∧ J (l.take k) wr ∧ Below n₀ W wr ∧ W.heap.size ≤ wr.heap.size) (fun i _ => l.length - (intOf i).toNat)
  case atStart => exact ⟨0, Nat.zero_le _, rfl, h0, Below.refl _ _, Nat.le_refl _⟩
  case round =>
    obtain ⟨k, hk, rfl, hJs, hnx, hsw⟩ := hrel
    by_cases hlt : k < l.length
    · obtain rfl := hadr k hlt
      obtain ⟨c0, c1, c2⟩ := (hc.later hnx hg).ptat k hlt
      have hs := hsz k hlt
      have hTr : Tab wr := hT.low hnx hTn
      have PK := hide (fun w' (hb : Below wr.heap.size wr w') => partKind_any l[k] w' hs.1 hs.2 (hTr.below hb))
      have hlen : (l.take k).length < l.length := by rw [List.length_take]; omega
      have YY := hide (fun w' (hb : Below wr.heap.size wr w') => hY (l.take k) l[k] w' (hJ _ _ _ none hJs (grownB hb) (fun r e => by cases e)) hlen)
      gi_wp2
      gi_region_with_o (first
        | (refine ⟨trivial, ?_⟩; gi_at_call 112; refine (callsIn_wide.2 (PK.out _ (((Below.refl _ _).alloc (Nat.le_refl _) _).drew))).mono ?_; rintro e w2 ⟨rfl, hb2⟩; have hB2 : Below wr.heap.size wr w2 := (((Below.refl _ _).alloc (Nat.le_refl _) _).drew).trans (hb2.mono (by show wr.heap.size ≤ (wr.alloc _).heap.size; simp)); obtain ⟨d0, d1, d2⟩ := cells3_kept hb2; obtain ⟨fn, tmps, assign, body, hy, hR⟩ := YY.out w2 hB2; have hR2 := yield_b hR; unfold ptE ptV at hy)
        | (refine hR2.mono ?_; rintro e w3 ⟨b, rfl, h3⟩))
      all_goals
        have hB3 : Below n₀ W w2 := hnx.trans (hB2.mono (by omega))
        have hs2 := hB2.size
        cases b with
        | true =>
          obtain ⟨hJ3, hb3⟩ := h3.1 rfl
          have hs3 := hb3.size
          rw [← List.take_succ_eq_append_getElem hlt] at hJ3
          clear c0 c1 c2 d0 d1 d2 hy hR hR2 h3
          gi_wp2
          go_roundw
          case rel => exact ⟨k + 1, by omega, by simp, hJ3, hB3.trans hb3, by omega⟩
          case measure => simp [intOf]; omega
        | false =>
          have hJ3 := h3.2 rfl
          clear c0 c1 c2 d0 d1 d2 hy hR hR2 h3
          gi_wp2
          refine bodyPost_ret (results_none rfl _ _ _) rfl ?_
          refine ⟨⟨_, rfl⟩, .inr ⟨_, ?_, hJ3⟩⟩
          rw [← List.take_succ_eq_append_getElem hlt]
          exact List.take_prefix _ _
    · obtain rfl : k = l.length := by omega
      rw [List.take_length] at hJs
      gi_wp2
      go_end0
      exact ⟨⟨_, rfl⟩, .inl ⟨_, rfl, hJs⟩⟩

set_option maxHeartbeats 1000000 in
/-- partsOf hands back a function value that has its list in a box. -/
theorem partsOf_any (v : Value) (w : World) (a : Option Addr) (len cap : Nat) (hv : v = .slice a len cap) :
    Calls Tryd.prog 94 #[v] w fun e w' => e = .returned (.func (.func 111) #[] #[.pointer (some ⟨w.heap.size, 0, none⟩)]) ∧ w' = w.alloc (.cells #[v] 22) := by
  subst hv
  go_enter Tryd.func94, Tryd.ntmps94
  go_wp2
  go_ret
  exact ⟨rfl, rfl⟩

/-- What partsOf hands back goes through the parts: all, or as far as a round lets it. -/
theorem parts_stops {w : World} {aw : Option Addr} {g cap : Nat} {l : List Pt} (n Bs : Nat) (hn : 1 ≤ n) (hp : Pin w aw g cap l) (hT : Tab w) (n₀ : Nat) (hg : g < n₀) (hBs : Bs < w.heap.size) (hn₀ : n₀ ≤ w.heap.size) (hTn : 3 < n₀) (hc : w.cell? ⟨Bs, 0, none⟩ = some (.slice aw l.length cap)) :
    SeqStopsK Fence.wide n Tryd.prog 111 #[.pointer (some ⟨Bs, 0, none⟩)] ptE (Below n₀) (fun ys => ys = l) (fun pre => pre <+: l) l.length w := fun li J Jx W hW hJ _ hY h0 =>
  parts1_in n hn li Bs n₀ aw g cap l (fun _ hk => hp.adr hk) J Jx W hg (Nat.le_trans hn₀ hW.size) hp.len hp.cap hp.sz (hT.below hW) hTn hJ hY ((hW.cell (p := ⟨Bs, 0, none⟩) hBs).trans hc) (hp.at'.later hW hp.lt) h0
end Go.Proofs.YtmjehpigfkobeabDoor
