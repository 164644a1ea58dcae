/- MoveMarks: what is moved, and the model's own pieces. The model's MoveMarks. The program's MoveMarks. -/
import Derived.Test.YtbooongkbninhaaDoorAddSM
import Derived.Test.YtbooongkbninhaaDoorHeapQ
import Derived.Test.YtbooongkbninhaaDoorMoveSZ
import Derived.Test.YtbooongkbninhaaDoorHeapZ
import Derived.Test.YtbooongkbninhaaDoorPlcN
namespace Go.Proofs.YtbooongkbninhaaDoor
open Go.RowKit
open Doc1

/-- A mark behind a change, and all of them put to one another. -/
def mvM (op : List Pt) (m : Mk) : Mk := ⟨mvA op m.frm true, mvA op m.to false, m.style⟩
def mmOk (op : List Pt) (l : List Mk) : Bool := goodO op && goodM l (tkL op)
def mmL (op : List Pt) (l : List Mk) : List Mk := addMs (l.map (mvM op))
theorem mm_small {op : List Pt} {l : List Mk} (h : mmOk op l = true) : (mmL op l).length ≤ 40 := by
  unfold mmOk at h
  rw [Bool.and_eq_true] at h
  have h1 := (goodM_nums h.2).2
  obtain ⟨_, _, _, _, h2⟩ := rp_all _ (l.map (mvM op)) rfl
  rw [List.length_map] at h2
  unfold mmL; omega
/-- A row of one's own is none, or one that lies there. -/
theorem mr_own_in {w : World} {B : Nat} {v : Value} {L : List Mk} (h : MrOwn w B v L) (hs : ∀ x ∈ L, x.style.size ≤ 1048576) (hl : L.length ≤ 1048576) : (v = .slice none 0 0 ∧ L = []) ∨ ∃ g cap, v = .slice (some ⟨g, 0, none⟩) L.length cap ∧ MrIn w g cap L := by
  rcases Nat.eq_zero_or_pos L.length with h0 | h0
  · obtain rfl := List.eq_nil_of_length_eq_zero h0
    rcases h.2 with ⟨rfl, -⟩ | ⟨g, cap, cur, rfl, hb, hh, hle, hm, hz, ht⟩
    · exact .inl ⟨rfl, rfl⟩
    · exact .inr ⟨g, cap, rfl, ⟨by simp, hm⟩, fun i hi => by simp at hi, by simp, (fun j u hu => by simp [encMr] at hu), (Array.getElem?_eq_some_iff.1 hh).1⟩
  · obtain ⟨g, cap, rfl, hle, hm, hB, hlt, hc, hbk⟩ := own_cat h h0
    exact .inr ⟨g, cap, rfl, ⟨hle, hm⟩, fun i hi => hs _ (List.getElem_mem hi), hl, hc, hlt⟩

set_option maxRecDepth 100000 in
set_option maxHeartbeats 4000000 in
theorem l5Add_nil (m : Mk) (w : World) :
    Calls Tryd.prog 32 #[.slice none 0 0, .agg #[.int .i64 m.frm, .int .i64 m.to, .string m.style]] w fun e w' => ∃ v, e = .returned v ∧ MrOwn w' w.heap.size v (addL [] m) ∧ Below w.heap.size w w' := by
  obtain ⟨i0, hi0, hz0, hz1, hz2⟩ := info_parts Tryd.infoMk
  have hb0 : Below w.heap.size w (w.alloc (.cells #[.int .i64 m.frm, .int .i64 m.to, .string m.style] 34)) := (Below.refl _ _).alloc (Nat.le_refl _) _
  have bx := bx3_new w m 34
  obtain ⟨W, hW⟩ : ∃ W, W = w.alloc (.cells #[.int .i64 m.frm, .int .i64 m.to, .string m.style] 34) := ⟨_, rfl⟩
  rw [← hW] at hb0 bx
  have hsW : w.heap.size ≤ W.heap.size := hb0.size
  go_enter Tryd.func32, Tryd.ntmps32
  go_wp2_with fail
  rw [← hW]
  clear hW
  go_loopw [5, 6, 11] (fun v b i wr => v = .slice none 0 0 ∧ b = .bool false ∧ i = .int .i64 0 ∧ wr = W) (fun _ _ _ _ => 0)
  case atStart => exact ⟨rfl, rfl, rfl, rfl⟩
  case round =>
    obtain ⟨rfl, rfl, rfl, rfl⟩ := hrel
    obtain ⟨p0, p1, p2⟩ := bx.cells
    have hown2 : wr.ownsRow w.heap.size 34 3 (.slice none 0 0) 0 [] := World.ownsRow_nil _ _ _ _
    go_wp2_with (at_builtin; refine wpList_append_own _ rfl _ _ 24 rfl w.heap.size 34 i0 (.agg #[.int .i64 0, .int .i64 0, .string ⟨#[]⟩]) 3 32 Tryd.underlying24 hi0 hz0 hz1 hz2 rfl (by decide) _ _ _ rfl (hown2.alloc _) ⟨wr.heap.size, 0, none⟩ 1 1 [.int .i64 m.frm, .int .i64 m.to, .string m.style] rfl rfl (cellC_new _ _ _ _ _) (by intro u hu; simp at hu; rcases hu with rfl | rfl | rfl <;> rfl) (by unfold maxLen; omega) (by omega) (by simp; omega) ?_; intro v3 w3 hown3 hgrow3 _; have hb3 := below_append hb0 hown2 hsW hgrow3; have HO3 := hide hown3; clear hown3 hgrow3 hown2)
    go_ret
    exact ⟨_, rfl, HO3.out, hb3⟩
/-- l5Add to a row of one's own. -/
theorem l5Add_own {w : World} {B : Nat} {v : Value} {L : List Mk} (m : Mk) (hst : m.style.size ≤ 1048576) (hm : m.frm < m.to) (h : MrOwn w B v L) (hs : ∀ x ∈ L, x.style.size ≤ 1048576) (hl : L.length ≤ 1048576) (hpw : L.Pairwise (fun a b => mkLt a b = true)) (hlts : ∀ x ∈ L, x.frm < x.to) :
    Calls Tryd.prog 32 #[v, .agg #[.int .i64 m.frm, .int .i64 m.to, .string m.style]] w fun e w' => ∃ v, e = .returned v ∧ MrOwn w' w.heap.size v (addL L m) ∧ Below w.heap.size w w' := by
  rcases mr_own_in h hs hl with ⟨rfl, rfl⟩ | ⟨g, cap, rfl, hin⟩
  · exact l5Add_nil m w
  · exact l5Add_any m hst hm hin hpw hlts

set_option maxHeartbeats 4000000 in
/-- l3Sizes of any parts tells two numbers. -/
theorem l3Sizes_wild {w : World} {g cap : Nat} {l : List Pt} (h : Pin w (some ⟨g, 0, none⟩) g cap l) :
    Calls Tryd.prog 23 #[.slice (some ⟨g, 0, none⟩) l.length cap] w fun e w' => ∃ a b : Int, e = .returned (.tuple #[.int .i64 a, .int .i64 b]) ∧ Below w.heap.size w w' := by
  have hcp := h.cap
  have hln := h.len
  have H := hide h
  clear h
  go_enter Tryd.func23, Tryd.ntmps23
  go_wp2
  go_loopw [4, 5, 10] (fun a b i wr => ∃ k : Nat, k ≤ l.length ∧ i = .int .i64 k ∧ (∃ x, a = .int .i64 x) ∧ (∃ y, b = .int .i64 y) ∧ Below w.heap.size w wr) (fun _ _ i _ => l.length - (intOf i).toNat)
  case atStart => exact ⟨0, by omega, rfl, ⟨_, rfl⟩, ⟨_, rfl⟩, Below.refl _ _⟩
  case round =>
    obtain ⟨k, hk, rfl, ⟨A, rfl⟩, ⟨B, rfl⟩, hbel⟩ := hrel
    by_cases hlt : k < l.length
    · obtain ⟨c0, c1, c2⟩ := (H.out.later hbel).at'.ptat k hlt
      generalize l[k] = p at *
      go_wp2
      refine ⟨⟨k + 1, by omega, by go_num, ⟨_, rfl⟩, ⟨_, rfl⟩, hbel.alloc hbel.size _⟩, by simp [intOf]; omega⟩
    · obtain rfl : k = l.length := by omega
      go_wp2
      go_ret2
      exact ⟨_, _, rfl, hbel⟩
end Go.Proofs.YtbooongkbninhaaDoor

namespace Go.Proofs.YtbooongkbninhaaDoor
open Go.RowKit
open Doc1

/-- Between two rounds: the marks that are moved already. -/
structure MMI (w : World) (op : List Pt) (l : List Mk) (k : Nat) (v : Value) (wr : World) : Prop where
  own : MrOwn wr w.heap.size v (addMs ((l.take k).map (mvM op)))
  bel : Below w.heap.size w wr

set_option maxRecDepth 100000 in
set_option maxHeartbeats 8000000 in
theorem mmS {w : World} {g cap gm cm : Nat} {op : List Pt} {l : List Mk} (h : Pin w (some ⟨g, 0, none⟩) g cap op) (hm : MrIn w gm cm l) :
    Calls Tryd.prog 8 #[.slice (some ⟨g, 0, none⟩) op.length cap, .slice (some ⟨gm, 0, none⟩) l.length cm] w (RsPost (mmOk op l) (mmL op l) w) := by
  have hcp := hm.cap
  have hln := hm.len
  have O := hide (fun w' (hb : Below w.heap.size w w') => goodOpS (h.later hb))
  have H := hide hm
  cases ho : goodO op with
  | false =>
    rw [ho] at O
    have S := hide (l3Sizes_wild h)
    have HN : Hid (∀ w', Below w.heap.size w w' → RsPost (mmOk op l) (mmL op l) w (.returned (.tuple #[.slice none 0 0, .bool false])) w') := hide (fun w' hb => rs_no (by unfold mmOk; rw [ho]; rfl) hb)
    clear ho hm h
    go_enter Tryd.func8, Tryd.ntmps8
    go_wp2_with (first | (go_at_call 23; refine S.out.mono ?_; rintro e w1 ⟨xa, xb, rfl, hb1⟩) | (go_at_call 29; refine (O.out _ hb1).mono ?_; rintro e w2 ⟨rfl, hb2⟩))
    go_ret2
    exact HN.out _ (hb1.trans (hb2.mono hb1.size))
  | true =>
    rw [ho] at O
    obtain ⟨h60, ht, hmk⟩ := goodO_le ho
    have S := hide (l3Sizes_any h h60 (goodO_pk ho))
    have G := hide (fun w1 (hb : Below w.heap.size w w1) => goodMarksS (tkL op) (hm.later hb))
    cases hg : goodM l (tkL op) with
    | false =>
      rw [hg] at G
      have HN : Hid (∀ w', Below w.heap.size w w' → RsPost (mmOk op l) (mmL op l) w (.returned (.tuple #[.slice none 0 0, .bool false])) w') := hide (fun w' hb => rs_no (by unfold mmOk; rw [hg, Bool.and_false]) hb)
      clear hg ho hm h h60 ht hmk
      go_enter Tryd.func8, Tryd.ntmps8
      go_wp2_with (first | (go_at_call 23; refine S.out.mono ?_; rintro e w1 ⟨rfl, hb1⟩) | (go_at_call 29; refine (O.out _ hb1).mono ?_; rintro e w2 ⟨rfl, hb2⟩; have hb3 := hb1.trans (hb2.mono hb1.size)) | (go_at_call 30; refine (G.out _ hb3).mono ?_; rintro e w4 ⟨rfl, hb4⟩))
      go_ret2
      exact HN.out _ (hb3.trans (hb4.mono hb3.size))
    | true =>
      rw [hg] at G
      have HY : Hid (mmOk op l = true) := hide (by unfold mmOk; rw [ho, hg]; rfl)
      obtain ⟨hpw, hok⟩ := good_pw hg
      have HOK := hide hok
      have GP := hide (fun w' (hb : Below w.heap.size w w') (n : Nat) (hn : (n : Int) ≤ tkL op) => l5Gap_any n (h.later hb) ho hn)
      have HV : Hid (∀ (n : Nat) (f : Bool), (n : Int) ≤ tkL op → mvA op (n : Int) f = if f then ((mvR op n).2 : Int) else ((mvR op n).1 : Int)) := hide (fun n f hn => by
        unfold mvA
        rw [show mvK op (n : Int) = true from decide_eq_true ⟨ho, by omega, hn⟩]
        simp)
      obtain ⟨hz, h40⟩ := goodM_nums hg
      clear hg ho hm h h60 hmk hpw hok ht
      go_enter Tryd.func8, Tryd.ntmps8
      go_wp2_with (first | (go_at_call 23; refine S.out.mono ?_; rintro e w1 ⟨rfl, hb1⟩) | (go_at_call 29; refine (O.out _ hb1).mono ?_; rintro e w2 ⟨rfl, hb2⟩; have hb3 := hb1.trans (hb2.mono hb1.size)) | (go_at_call 30; refine (G.out _ hb3).mono ?_; rintro e w4 ⟨rfl, hb4⟩))
      have M0 : Hid (MMI w op l 0 (.slice none 0 0) w4) := hide ⟨World.ownsRow_nil _ _ _ _, hb3.trans (hb4.mono hb3.size)⟩
      clear hb1 hb2 hb3 hb4 S O G
      go_loopw [8, 31] (fun v i wr => ∃ k : Nat, k ≤ l.length ∧ i = .int .i64 k ∧ ∃ v0, v0 = v ∧ Hid (MMI w op l k v0 wr)) (fun _ i _ => l.length - (intOf i).toNat)
      case atStart => exact ⟨0, by omega, rfl, _, rfl, M0⟩
      case round =>
        obtain ⟨k, hk, rfl, v, hv0, HI⟩ := hrel
        subst hv0
        have hbel := HI.out.bel
        have hsz := hbel.size
        by_cases hlt : k < l.length
        · obtain ⟨c0, c1, c2⟩ := (H.out.later hbel).at'.mrat k hlt
          have hxo := mkOk_lt (HOK.out l[k] (List.getElem_mem hlt))
          have hnx : Hid (addMs ((l.take (k + 1)).map (mvM op)) = stepM (addMs ((l.take k).map (mvM op))) (mvM op l[k])) := hide (by
            rw [List.take_succ_eq_append_getElem hlt, List.map_append, List.map_singleton, addMs_snoc])
          obtain ⟨x, hxx⟩ : ∃ x, x = l[k] := ⟨_, rfl⟩
          rw [← hxx] at c0 c1 c2 hnx hxo
          obtain ⟨x1, x2, x3, x4⟩ := hxo
          obtain ⟨n1, hn1⟩ : ∃ n : Nat, x.frm = n := ⟨x.frm.toNat, by omega⟩
          obtain ⟨n2, hn2⟩ : ∃ n : Nat, x.to = n := ⟨x.to.toNat, by omega⟩
          have eF := HV.out n1 true (by omega)
          have eT := HV.out n2 false (by omega)
          rw [← hn1] at eF
          rw [← hn2] at eT
          rw [if_pos rfl] at eF
          rw [if_neg (by simp)] at eT
          have G1 := fun w' hb => GP.out w' hb n1 (by omega)
          have G2 := fun w' hb => GP.out w' hb n2 (by omega)
          rw [← hn1, ← eF] at G1
          rw [← hn2, ← eT] at G2
          replace G1 := hide G1
          replace G2 := hide G2
          obtain ⟨y0, y1, y2⟩ := cellsE_new wr (.int .i64 x.frm) (.int .i64 x.to) (.string x.style)
          have z0 := y0 34
          have z1 := y1 34
          have z2 := y2 34
          have hb2 : Below wr.heap.size wr (wr.alloc (.cells #[.int .i64 x.frm, .int .i64 x.to, .string x.style] 34)) := (Below.refl _ _).alloc (Nat.le_refl _) _
          have hsx : (wr.alloc (.cells #[.int .i64 x.frm, .int .i64 x.to, .string x.style] 34)).heap.size = wr.heap.size + 1 := by simp
          have HB2 := hide (hbel.trans (hb2.mono hsz))
          have HO2 := hide (own_below HI.out.own hb2)
          have HA := hide (Nat.le_refl (rp_all _ ((l.take k).map (mvM op)) rfl).choose.length)
          clear hb2 y0 y1 y2 hxx hn1 hn2 eF eT HA
          go_wp2_with fail
          refine (G1.out _ HB2.out).mono ?_
          rintro e w4 ⟨rfl, hb4⟩
          have q4 := hb4.block wr.heap.size (by omega)
          have d1 := (World.cell?_of_block (a := ⟨wr.heap.size, 1, none⟩) q4).trans z1
          have d2 := (World.cell?_of_block (a := ⟨wr.heap.size, 2, none⟩) q4).trans z2
          have hs4 := hb4.size
          have HB4 := hide (HB2.out.trans (hb4.mono HB2.out.size))
          have HO4 := hide (own_below HO2.out hb4)
          clear q4 hb4 z0 z1 z2 HO2 HB2
          go_wp2_with fail
          refine (G2.out _ HB4.out).mono ?_
          rintro e w5 ⟨rfl, hb5⟩
          have q5 := hb5.block wr.heap.size (by omega)
          have f2 := (World.cell?_of_block (a := ⟨wr.heap.size, 2, none⟩) q5).trans d2
          have HB5 := hide (HB4.out.trans (hb5.mono HB4.out.size))
          have HO5 := hide (own_below HO4.out hb5)
          clear q5 hb5 d1 d2 HO4 HB4
          obtain ⟨E', hr, hE, hpw2, hl2⟩ := rp_all _ ((l.take k).map (mvM op)) rfl
          rw [List.length_map, List.length_take] at hl2
          by_cases hft : mvA op x.frm true < mvA op x.to false
          · have L5 := hide (l5Add_own (mvM op x) (by show x.style.size ≤ 1048576; omega) hft HO5.out (addMs_style (fun s => s.size ≤ 1048576) _ _ rfl (fun y hy => by
              obtain ⟨z, hz, rfl⟩ := List.mem_map.1 hy
              have := (mkOk_lt (HOK.out z (List.mem_of_mem_take hz))).2.1
              show z.style.size ≤ 1048576
              omega)) (by omega) hpw2 hr.lts)
            have HS : Hid (stepM (addMs ((l.take k).map (mvM op))) (mvM op x) = addL (addMs ((l.take k).map (mvM op))) (mvM op x)) := hide (if_pos hft)
            unfold mvM at L5
            simp only [show (fun m : Mk => (⟨mvA op m.frm true, mvA op m.to false, m.style⟩ : Mk)) = mvM op from rfl] at L5
            clear hr hE hpw2
            go_wp2_with (go_at_call 32; refine L5.out.mono ?_; rintro e w6 ⟨v6, rfl, ho6, hb6⟩; have HO6 := hide ho6; have HB6 := hide hb6; clear ho6 hb6)
            have hs5 := HB5.out.size
            have A : Hid (MMI w op l (k + 1) v6 w6) := hide ⟨by rw [hnx.out, HS.out]; exact MrOwn.mono HO6.out hs5, HB5.out.trans (HB6.out.mono hs5)⟩
            exact ⟨⟨k + 1, by omega, by go_num, _, rfl, A⟩, by simp [intOf]; omega⟩
          · have HS : Hid (stepM (addMs ((l.take k).map (mvM op))) (mvM op x) = addMs ((l.take k).map (mvM op))) := hide (if_neg hft)
            have A : Hid (MMI w op l (k + 1) v w5) := hide ⟨by rw [hnx.out, HS.out]; exact HO5.out, HB5.out⟩
            clear hr hE hpw2
            go_wp2
            exact ⟨⟨k + 1, by omega, by go_num, _, rfl, A⟩, by simp [intOf]; omega⟩
        · obtain rfl : k = l.length := by omega
          have ho := HI.out.own
          rw [List.take_length] at ho
          have HO := hide ho
          have hl := mm_small HY.out
          clear ho
          go_wp2
          go_ret2
          refine rs_yes HY.out hbel (Nat.le_refl _) ?_
          unfold MkPost
          rw [if_neg (by omega)]
          exact ⟨_, rfl, HO.out⟩
end Go.Proofs.YtbooongkbninhaaDoor

namespace Go.Proofs.YtbooongkbninhaaDoor
open Go.RowKit Go.Shelf
open Doc1

set_option maxRecDepth 100000 in
set_option maxHeartbeats 8000000 in
theorem mmI {w : World} {g cap gm cm : Nat} {op : List Pt} {l : List Mk} (h : Pin w (some ⟨g, 0, none⟩) g cap op) (hm : MrIn w gm cm l) (hT : Tab w)
    (hG : ∀ w1 size, MrIn w1 gm cm l → Calls Tryd.prog 11 #[.slice (some ⟨gm, 0, none⟩) l.length cm, .int .i64 size] w1 fun e w' => e = .returned (.bool (goodM l size)) ∧ Below w1.heap.size w1 w') :
    Calls Tryd.prog 7 #[.slice (some ⟨g, 0, none⟩) op.length cap, .slice (some ⟨gm, 0, none⟩) l.length cm] w (RsPost (mmOk op l) (mmL op l) w) := by
  have hcp := hm.cap
  have hln := hm.len
  have S := hide (sizesI_any h hT)
  have HP := hide (fun w' (hb : Below w.heap.size w w') a f => moveI a f (h.later hb) (hT.below hb))
  have H := hide hm
  unfold mmOk
  cases ho : goodO op with
  | false =>
    rw [ho] at S
    have HN : Hid (∀ w', Below w.heap.size w w' → RsPost (false && goodM l (tkL op)) (mmL op l) w (.returned (.tuple #[.slice none 0 0, .bool false])) w') := hide (fun w' hb => rs_no rfl hb)
    clear ho hm h hG
    go_enter Tryd.func7, Tryd.ntmps7
    go_wp2_with (go_at_call 25; refine S.out.mono ?_; rintro e w1 ⟨rfl, hb1⟩)
    go_ret2
    exact HN.out _ hb1
  | true =>
    have hsT : szT op = tkL op := by unfold szT; rw [ho]; rfl
    rw [ho, hsT] at S
    have G := hide (fun w1 (hb : Below w.heap.size w w1) => hG w1 (tkL op) (hm.later hb))
    cases hg : goodM l (tkL op) with
    | false =>
      rw [hg] at G
      have HN : Hid (∀ w', Below w.heap.size w w' → RsPost (true && false) (mmL op l) w (.returned (.tuple #[.slice none 0 0, .bool false])) w') := hide (fun w' hb => rs_no rfl hb)
      clear hg ho hm h hG hsT
      go_enter Tryd.func7, Tryd.ntmps7
      go_wp2_with (first | (go_at_call 25; refine S.out.mono ?_; rintro e w1 ⟨rfl, hb1⟩) | (go_at_call 11; refine (G.out _ hb1).mono ?_; rintro e w2 ⟨rfl, hb2⟩))
      go_ret2
      exact HN.out _ (hb1.trans (hb2.mono hb1.size))
    | true =>
      rw [hg] at G
      have HG := hide hg
      obtain ⟨hz, h40⟩ := goodM_nums hg
      clear hg ho hm h hG hsT
      go_enter Tryd.func7, Tryd.ntmps7
      go_wp2_with (first | (go_at_call 25; refine S.out.mono ?_; rintro e w1 ⟨rfl, hb1⟩) | (go_at_call 11; refine (G.out _ hb1).mono ?_; rintro e w2 ⟨rfl, hb2⟩))
      have hB2 := hb1.trans (hb2.mono hb1.size)
      have hw2 := hB2.size
      obtain ⟨W, hW⟩ : ∃ W, W = w2.alloc (.cells #[.slice none 0 0] 59) := ⟨_, rfl⟩
      have hbW : Below w.heap.size w W := by rw [hW]; exact hB2.alloc hw2 _
      have hWs : w2.heap.size < W.heap.size := by rw [hW]; simp
      have P0 := pi_new w2 59
      rw [← hW] at P0
      rw [← hW]
      have HP0 := hide P0
      have HB := hide hbW
      clear hW hb1 hb2 hB2 hbW P0
      go_loopw [32] (fun i wr => ∃ k : Nat, k ≤ l.length ∧ i = .int .i64 k ∧ Hid (PI (((l.take k).map (mvM op)).flatMap endsOf) w2.heap.size W wr)) (fun i _ => l.length - (intOf i).toNat)
      case atStart => exact ⟨0, by omega, rfl, by simpa using HP0⟩
      case round =>
        obtain ⟨k, hk, rfl, HC⟩ := hrel
        have HBr := hide (HB.out.trans (HC.out.below hw2 hWs))
        by_cases hlt : k < l.length
        · obtain ⟨c0, c1, c2⟩ := (H.out.later HBr.out).at'.mrat k hlt
          have hE := ends_len ((l.take k).map (mvM op))
          rw [List.length_map, List.length_take] at hE
          have hnx : Hid (((l.take k).map (mvM op)).flatMap endsOf ++ endsOf (mvM op l[k]) = ((l.take (k + 1)).map (mvM op)).flatMap endsOf) := hide (by
            rw [List.take_succ_eq_append_getElem hlt, List.map_append, List.flatMap_append]; simp)
          obtain ⟨x, hxx⟩ : ∃ x, x = l[k] := ⟨_, rfl⟩
          rw [← hxx] at c0 c1 c2 hnx
          obtain ⟨y0, y1, y2⟩ := cellsE_new wr (.int .i64 x.frm) (.int .i64 x.to) (.string x.style)
          have z0 := y0 34
          have z1 := y1 34
          have z2 := y2 34
          have hb2 : Below wr.heap.size wr (wr.alloc (.cells #[.int .i64 x.frm, .int .i64 x.to, .string x.style] 34)) := (Below.refl _ _).alloc (Nat.le_refl _) _
          have hsx : (wr.alloc (.cells #[.int .i64 x.frm, .int .i64 x.to, .string x.style] 34)).heap.size = wr.heap.size + 1 := by simp
          have P1 := hide (HP.out _ (HBr.out.trans (hb2.mono HBr.out.size)) x.frm true)
          have HB2 := hide hb2
          clear hb2 y0 y1 y2 hxx
          go_wp2_with fail
          refine P1.out.mono ?_
          rintro e w4 ⟨rfl, hb4⟩
          have x4 := hb4.block wr.heap.size (by omega)
          have d1 := (World.cell?_of_block (a := ⟨wr.heap.size, 1, none⟩) x4).trans z1
          have d2 := (World.cell?_of_block (a := ⟨wr.heap.size, 2, none⟩) x4).trans z2
          have HB4 := hide (HB2.out.trans (hb4.mono (by omega)))
          have hs4 := hb4.size
          have P2 := hide (HP.out _ (HBr.out.trans (HB4.out.mono HBr.out.size)) x.to false)
          clear x4 hb4 z0 z1 z2 P1 HB2
          go_wp2_with fail
          refine P2.out.mono ?_
          rintro e w5 ⟨rfl, hb5⟩
          have x5 := hb5.block wr.heap.size (by omega)
          have f2 := (World.cell?_of_block (a := ⟨wr.heap.size, 2, none⟩) x5).trans d2
          have HB5 := hide (HB4.out.trans (hb5.mono (by omega)))
          have P3 := hide (pi_push (HC.out.up HB5.out) (mvM op x) (by omega))
          rw [hnx.out] at P3
          clear x5 hb5 d1 d2 P2 HB4 hnx hE HC
          go_wp2_with fail
          refine P3.out.mono ?_
          rintro e w6 ⟨rfl, hp6⟩
          have HP6 := hide hp6
          clear hp6
          go_wp2
          exact ⟨⟨k + 1, by omega, by go_num, HP6⟩, by simp [intOf]; omega⟩
        · obtain rfl : k = l.length := by omega
          rw [List.take_length] at HC
          obtain ⟨hpw, hok⟩ := good_pw HG.out
          obtain ⟨E', hr, hE, hpw2, hl2⟩ := rp_all _ (l.map (mvM op)) rfl
          have hlen := ends_len (l.map (mvM op))
          rw [List.length_map] at hlen
          have MN := hide (pi_marks HC.out hE hr hpw2 (by omega) (addMs_style (fun s => s.size ≤ 1048576) _ _ rfl (fun x hx => by
            obtain ⟨y, hy, rfl⟩ := List.mem_map.1 hx
            have := (mkOk_lt (hok y hy)).2.1
            show y.style.size ≤ 1048576
            omega)) hw2 hWs)
          have hwr := HBr.out.size
          clear hpw hok hr hE HC hlen hpw2 hl2
          go_wp2_with (go_at_call 28; refine MN.out.mono ?_; rintro e w5 ⟨hpo, hm5⟩; obtain ⟨v5, b5, he5⟩ := mk_form hpo; subst he5; have HPO := hide hpo; have HM5 := hide hm5; clear hpo hm5)
          go_ret2
          exact rs_yes (by rfl) (HBr.out.trans HM5.out) hwr HPO.out
end Go.Proofs.YtbooongkbninhaaDoor
