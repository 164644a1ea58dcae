/- The model's l3Compose. The contract of the model's ComposeOps. -/
import Derived.Test.YtknilofnelhgmaaDoorCmpS0
import Derived.Test.YtknilofnelhgmaaDoorComp3
import Derived.Test.YtknilofnelhgmaaDoorMoveSM
namespace Go.Proofs.YtknilofnelhgmaaDoor
open Go.RowKit
open Doc1

theorem done_nil {W : World} {B g : Nat} (h : Rd W B g []) : Calls Tryd.prog 99 #[.pointer (some ⟨B, 0, none⟩)] W fun e w' => e = .returned (.bool true) ∧ w' = W := done_any h
theorem done_cons {W : World} {B g : Nat} {p : Pt} {r : List Pt} (h : Rd W B g (p :: r)) : Calls Tryd.prog 99 #[.pointer (some ⟨B, 0, none⟩)] W fun e w' => e = .returned (.bool false) ∧ w' = W := by
  have := done_any h
  rw [decide_eq_false (by simp)] at this
  exact this
/-- Between two rounds: both readers, and what is told. -/
structure CS (w : World) (gx gy : Nat) (lx ly P : List Pt) (v : Value) (wr : World) : Prop where
  rx : Rd wr w.heap.size gx lx
  ry : Rd wr (w.heap.size + 1) gy ly
  ow : POwn wr (w.heap.size + 2) v (normL P)
  nx : v.ownBlock ≠ some gx ∧ v.ownBlock ≠ some gy
  gl : gx ≠ w.heap.size + 1 ∧ gy ≠ w.heap.size
  be : Below w.heap.size w wr
theorem CS.up {w : World} {gx gy : Nat} {lx ly P : List Pt} {v : Value} {wr w' : World} (h : CS w gx gy lx ly P v wr) (hb : Below wr.heap.size wr w') : CS w gx gy lx ly P v w' :=
  ⟨h.rx.up hb, h.ry.up hb, own_below h.ow hb, h.nx, h.gl, h.be.trans (hb.mono h.be.size)⟩
theorem CS.drewN {w : World} {gx gy : Nat} {lx ly P : List Pt} {v : Value} {wr : World} (h : CS w gx gy lx ly P v wr) (n : Nat) : CS w gx gy lx ly P v (wr.drewN n) := h.up ⟨rfl, rfl, rfl, Nat.le_refl _, fun _ _ => rfl⟩
theorem CS.takeX {w : World} {gx gy g' : Nat} {lx lx' ly P : List Pt} {v : Value} {wr w' : World} (h : CS w gx gy lx ly P v wr) (hr : Rd w' w.heap.size g' lx') (hg' : g' = gx ∨ wr.heap.size ≤ g') (hg : wr.grownBy w' (some w.heap.size)) : CS w g' gy lx' ly P v w' := by
  have hl := h.rx.lt
  have hl2 := h.ry.lt
  refine ⟨hr, h.ry.grown hg (fun e => by have := Option.some.inj e; omega) (fun e => h.gl.2 (Option.some.inj e).symm), own_grown h.ow hg (fun b hb e => by have := (h.ow.lt b hb).1; have := Option.some.inj e; omega), ⟨fun e => ?_, h.nx.2⟩, ⟨?_, h.gl.2⟩, h.be.trans ⟨hg.os, hg.tape, hg.output, hg.size, fun k hk => hg.block k (by have := h.be.size; omega) (fun e => by have := Option.some.inj e; omega)⟩⟩
  · rcases hg' with rfl | c
    · exact h.nx.1 e
    · have := (h.ow.lt g' e).2; omega
  · rcases hg' with rfl | c
    · exact h.gl.1
    · omega
theorem CS.takeY {w : World} {gx gy g' : Nat} {lx ly ly' P : List Pt} {v : Value} {wr w' : World} (h : CS w gx gy lx ly P v wr) (hr : Rd w' (w.heap.size + 1) g' ly') (hg' : g' = gy ∨ wr.heap.size ≤ g') (hg : wr.grownBy w' (some (w.heap.size + 1))) : CS w gx g' lx ly' P v w' := by
  have hl := h.rx.lt
  have hl2 := h.ry.lt
  refine ⟨h.rx.grown hg (fun e => by have := Option.some.inj e; omega) (fun e => h.gl.1 (Option.some.inj e).symm), hr, own_grown h.ow hg (fun b hb e => by have := (h.ow.lt b hb).1; have := Option.some.inj e; omega), ⟨h.nx.1, fun e => ?_⟩, ⟨h.gl.1, ?_⟩, h.be.trans ⟨hg.os, hg.tape, hg.output, hg.size, fun k hk => hg.block k (by have := h.be.size; omega) (fun e => by have := Option.some.inj e; omega)⟩⟩
  · rcases hg' with rfl | c
    · exact h.nx.2 e
    · have := (h.ow.lt g' e).2; omega
  · rcases hg' with rfl | c
    · exact h.gl.2
    · omega
theorem CS.add {w : World} {gx gy : Nat} {lx ly P : List Pt} {v v' : Value} {wr w' : World} {p : Pt} (h : CS w gx gy lx ly P v wr) (ow : POwn w' (w.heap.size + 2) v' (addP (normL P) p)) (fr : Fr (w.heap.size + 2) v.ownBlock wr w') (loc : v'.ownBlock = v.ownBlock ∨ ∀ y, v'.ownBlock = some y → wr.heap.size ≤ y) : CS w gx gy lx ly (P ++ [p]) v' w' := by
  have nB : ∀ k, k < w.heap.size + 2 → v.ownBlock ≠ some k := fun k hk e => by have := (h.ow.lt k e).1; omega
  refine ⟨h.rx.grown fr.g (nB _ (by omega)) h.nx.1, h.ry.grown fr.g (nB _ (by omega)) h.nx.2, ?_, ⟨fun e => ?_, fun e => ?_⟩, h.gl, h.be.trans (fr.b.mono (by omega))⟩
  · have : normL (P ++ [p]) = addP (normL P) p := by unfold normL; rw [List.foldl_append]; rfl
    rw [this]; exact ow
  · rcases loc with c | c
    · exact h.nx.1 (c.symm.trans e)
    · have := c gx e; have := h.rx.lt; omega
  · rcases loc with c | c
    · exact h.nx.2 (c.symm.trans e)
    · have := c gy e; have := h.ry.lt; omega
/-- How many parts a reader has left. -/
def rdLen (W : World) (B : Nat) : Nat := match W.cell? ⟨B, 0, none⟩ with
  | some (.slice _ n _) => n
  | _ => 0
theorem Rd.len {W : World} {B g : Nat} {l : List Pt} (h : Rd W B g l) : rdLen W B = l.length := by
  obtain ⟨a, o, cap, e1, -, -, -⟩ := h.ex
  unfold rdLen
  rw [e1]
/-- What is known of what is told and of what is left. -/
structure CE (X Y : List St) (lx ly P : List Pt) (N : Nat) : Prop where
  eq : cmpS X Y = (cmpS (stL lx) (stL ly)).map (stL P ++ ·)
  gx : ∀ p ∈ lx, gqs p
  gy : ∀ p ∈ ly, gqs p
  gP : ∀ p ∈ P, gqs p
  sz : P.length + lx.length + ly.length ≤ N
theorem mapP (o : Option (List St)) (P : List Pt) (p : Pt) : (o.map (stp p ++ ·)).map (stL P ++ ·) = o.map (stL (P ++ [p]) ++ ·) := by
  rw [stL_app, stL_one]
  cases o <;> simp
theorem CE.told {X Y : List St} {lx ly lx' ly' P : List Pt} {N : Nat} {p : Pt} (h : CE X Y lx ly P N) (e : cmpS (stL lx) (stL ly) = (cmpS (stL lx') (stL ly')).map (stp p ++ ·)) (hx : ∀ q ∈ lx', gqs q) (hy : ∀ q ∈ ly', gqs q) (hp : gqs p) (hl : lx'.length + ly'.length + 1 ≤ lx.length + ly.length) : CE X Y lx' ly' (P ++ [p]) N :=
  ⟨by rw [h.eq, e, mapP], hx, hy, fun q hq => (List.mem_append.1 hq).elim (h.gP q) (fun c => by rw [List.mem_singleton] at c; rw [c]; exact hp), by have := h.sz; simp; omega⟩
theorem CE.skip {X Y : List St} {lx ly lx' ly' P : List Pt} {N : Nat} (h : CE X Y lx ly P N) (e : cmpS (stL lx) (stL ly) = cmpS (stL lx') (stL ly')) (hx : ∀ q ∈ lx', gqs q) (hy : ∀ q ∈ ly', gqs q) (hl : lx'.length + ly'.length ≤ lx.length + ly.length) : CE X Y lx' ly' P N :=
  ⟨by rw [h.eq, e], hx, hy, h.gP, by have := h.sz; omega⟩
theorem rest_g {p : Pt} {r : List Pt} {n : Nat} (h : ∀ q ∈ p :: r, gqs q) (h0 : 0 < n) (hle : (n : Int) ≤ psz p) : ∀ q ∈ restL p n r, gqs q := by
  unfold restL
  split
  · exact fun q hq => h q (by simp [hq])
  · rename_i hne
    intro q hq
    rcases List.mem_cons.1 hq with rfl | c
    · exact (cut_math (h p (by simp)) h0 hle r).2.2.2.2 hne
    · exact h q (by simp [c])
theorem rest_len (p : Pt) (r : List Pt) (n : Nat) : (restL p n r).length = if (n : Int) = psz p then r.length else r.length + 1 := by
  unfold restL; split <;> simp
theorem gqs_cases {p : Pt} (h : gqs p) : (∃ m, 0 < m ∧ p = kp m) ∨ (∃ b, b ≠ [] ∧ p = pp b) ∨ (∃ b, b ≠ [] ∧ p = dp b) := by
  rcases h.1 with ⟨m, hm, e⟩ | ⟨b, hb, _, e⟩ | ⟨b, hb, _, e⟩
  · exact .inl ⟨m, hm, e⟩
  · exact .inr (.inl ⟨b, hb, e⟩)
  · exact .inr (.inr ⟨b, hb, e⟩)
theorem noD_head {p : Pt} {r : List Pt} (h : gqs p) (hd : p.drop.data.toList = []) : noD (stL (p :: r)) := by
  intro x s hs
  rw [stL_cons] at hs
  rcases gqs_cases h with ⟨m, hm, rfl⟩ | ⟨b, hb, rfl⟩ | ⟨b, hb, rfl⟩
  · rw [stp_kp] at hs
    obtain ⟨k, rfl⟩ : ∃ k, m = k + 1 := ⟨m - 1, by omega⟩
    simp [sK, List.replicate_succ] at hs
    rw [← hs.1]; simp
  · rw [stp_pp] at hs
    cases b with
    | nil => exact absurd rfl hb
    | cons c b => simp [sP] at hs; rw [← hs.1]; simp
  · rw [dpD] at hd; exact absurd hd hb
/-- Pieces of one length meet. -/
theorem meet {p q : Pt} (hp : gqs p) (hq : gqs q) (hpd : p.drop.data.toList = []) (hqp : q.put.data.toList = []) (hs : psz p = psz q) (X Y : List St) :
    (0 < p.keep → cmpS (stp p ++ X) (stp q ++ Y) = (cmpS X Y).map (stp q ++ ·)) ∧ (¬ 0 < p.keep → 0 < q.keep → cmpS (stp p ++ X) (stp q ++ Y) = (cmpS X Y).map (stp p ++ ·)) ∧
      (¬ 0 < p.keep → ¬ 0 < q.keep → cmpS (stp p ++ X) (stp q ++ Y) = if p.put = q.drop then cmpS X Y else none) := by
  rcases gqs_cases hp with ⟨m, hm, rfl⟩ | ⟨b, hb, rfl⟩ | ⟨b, hb, rfl⟩
  · refine ⟨fun _ => ?_, fun c => absurd (kp_pos hm) c, fun c => absurd (kp_pos hm) c⟩
    rcases gqs_cases hq with ⟨m', hm', rfl⟩ | ⟨d, hd, rfl⟩ | ⟨d, hd, rfl⟩
    · rw [psz_kp, psz_kp] at hs
      rw [stp_kp, stp_kp, show m' = m by omega]
      exact cmp_keepK X Y m
    · rw [ppP] at hqp; exact absurd hqp hd
    · rw [psz_kp, psz_dp] at hs
      rw [stp_kp, stp_dp, show m = d.length by omega]
      exact cmp_keepD X Y d
  · have hk : ¬ 0 < (pp b).keep := by show ¬ (0 : Int) < 0; omega
    refine ⟨fun c => absurd c hk, fun _ hqk => ?_, fun _ hqk => ?_⟩
    · rcases gqs_cases hq with ⟨m', hm', rfl⟩ | ⟨d, hd, rfl⟩ | ⟨d, hd, rfl⟩
      · rw [psz_pp, psz_kp] at hs
        rw [stp_pp, stp_kp, show m' = b.length by omega]
        exact cmp_putK X Y b
      · rw [ppP] at hqp; exact absurd hqp hd
      · exact absurd hqk (by show ¬ (0 : Int) < 0; omega)
    · rcases gqs_cases hq with ⟨m', hm', rfl⟩ | ⟨d, hd, rfl⟩ | ⟨d, hd, rfl⟩
      · exact absurd (kp_pos hm') hqk
      · rw [ppP] at hqp; exact absurd hqp hd
      · rw [psz_pp, psz_dp] at hs
        rw [stp_pp, stp_dp, cmp_putD X Y b d (by omega)]
        by_cases e : b = d
        · have he : (pp b).put = (dp d).drop := by rw [e]; rfl
          rw [if_pos e, if_pos he]
        · have he : ¬ (pp b).put = (dp d).drop := fun c => e (ba_inj c)
          rw [if_neg e, if_neg he]
  · rw [dpD] at hpd; exact absurd hpd hb
theorem cutA_kind {p : Pt} (h : gqs p) (n : Nat) : (p.drop.data.toList = [] → (cutA p n).drop.data.toList = []) ∧ (p.put.data.toList = [] → (cutA p n).put.data.toList = []) := by
  rcases gqs_cases h with ⟨m, hm, rfl⟩ | ⟨b, hb, rfl⟩ | ⟨b, hb, rfl⟩
  · rw [(cutA_kp hm n).1]; exact ⟨fun _ => kpD n, fun _ => kpP n⟩
  · rw [(cutA_pp hb n).1]; exact ⟨fun _ => ppD _, fun c => by rw [ppP] at c; exact absurd c hb⟩
  · rw [(cutA_dp b n).1]; exact ⟨fun c => by rw [dpD] at c; exact absurd c hb, fun _ => dpP _⟩
theorem psz_pos {p : Pt} (h : gqs p) : 0 < psz p := by
  rcases gqs_cases h with ⟨m, hm, rfl⟩ | ⟨b, hb, rfl⟩ | ⟨b, hb, rfl⟩
  · rw [psz_kp]; omega
  · rw [psz_pp]; have := List.length_pos_iff.2 hb; omega
  · rw [psz_dp]; have := List.length_pos_iff.2 hb; omega
theorem whole_cut {p : Pt} (h : gqs p) (r : List Pt) {n : Nat} (hn : (n : Int) = psz p) : cutA p n = p ∧ restL p n r = r := by
  have h0 := psz_pos h
  exact ⟨(cut_math h (n := n) (by omega) (by omega) r).2.2.2.1 hn, by unfold restL; rw [if_pos hn]⟩
/-- What l3Compose answers. -/
def CPost (X Y : List St) (N : Nat) (w : World) (e : Ending) (w' : World) : Prop := ∃ (v : Value) (ok : Bool), e = .returned (.tuple #[v, .bool ok]) ∧ (ok = true → ∃ P, cmpS X Y = some (stL P) ∧ (∀ p ∈ P, gqs p) ∧ P.length ≤ N ∧ POwn w' w.heap.size v (normL P)) ∧ (ok = false → cmpS X Y = none) ∧ Below w.heap.size w w'

theorem put_eq {q : Pt} (hq : gqs q) (hp : q.put.data.toList ≠ []) {xs ys : List St} (h : noD xs) : cmpS xs (stp q ++ ys) = (cmpS xs ys).map (stp q ++ ·) := by
  rcases gqs_cases hq with ⟨m, hm, rfl⟩ | ⟨b, hb, rfl⟩ | ⟨b, hb, rfl⟩
  · exact absurd (kpP m) hp
  · rw [stp_pp]; exact cmp_put h ys b
  · exact absurd (dpP b) hp
theorem drop_eq {p : Pt} (hp : gqs p) (hd : p.drop.data.toList ≠ []) {xs ys : List St} : cmpS (stp p ++ xs) ys = (cmpS xs ys).map (stp p ++ ·) := by
  rcases gqs_cases hp with ⟨m, hm, rfl⟩ | ⟨b, hb, rfl⟩ | ⟨b, hb, rfl⟩
  · exact absurd (kpD m) hd
  · exact absurd (ppD b) hd
  · rw [stp_dp]; exact cmp_drop ys xs b
theorem none_y {q : Pt} (hq : gqs q) (hp : q.put.data.toList = []) {ys : List St} : cmpS (stL []) (stp q ++ ys) = none := by
  have e : stL [] = [] := rfl
  rw [e]
  rcases gqs_cases hq with ⟨m, hm, rfl⟩ | ⟨b, hb, rfl⟩ | ⟨b, hb, rfl⟩
  · obtain ⟨k, rfl⟩ : ∃ k, m = k + 1 := ⟨m - 1, by omega⟩
    rw [stp_kp, sK, List.replicate_succ, List.cons_append, cmpS_y, if_neg (by simp)]
  · rw [ppP] at hp; exact absurd hp hb
  · cases b with
    | nil => exact absurd rfl hb
    | cons c b => rw [stp_dp, sD, List.map_cons, List.cons_append, cmpS_y, if_neg (by simp)]
theorem none_x {p : Pt} (hp : gqs p) (hd : p.drop.data.toList = []) {xs : List St} : cmpS (stp p ++ xs) (stL []) = none := by
  have e : stL [] = [] := rfl
  rw [e]
  rcases gqs_cases hp with ⟨m, hm, rfl⟩ | ⟨b, hb, rfl⟩ | ⟨b, hb, rfl⟩
  · obtain ⟨k, rfl⟩ : ∃ k, m = k + 1 := ⟨m - 1, by omega⟩
    rw [stp_kp, sK, List.replicate_succ, List.cons_append, cmpS_x, if_neg (by simp)]
  · cases b with
    | nil => exact absurd rfl hb
    | cons c b => rw [stp_pp, sP, List.map_cons, List.cons_append, cmpS_x, if_neg (by simp)]
  · rw [dpD] at hd; exact absurd hd hb

set_option maxRecDepth 100000 in
set_option maxHeartbeats 8000000 in
theorem l3Compose_any {w : World} {aa ab : Option Addr} {ga ca gb cb : Nat} {la lb : List Pt} (ha : Pin w aa ga ca la) (hb : Pin w ab gb cb lb) (hga : ∀ p ∈ la, gqs p) (hgb : ∀ p ∈ lb, gqs p) (hl : la.length + lb.length ≤ 200) :
    Calls Tryd.prog 63 #[.slice aa la.length ca, .slice ab lb.length cb] w (CPost (stL la) (stL lb) (la.length + lb.length) w) := by
  have hlA := ha.lt
  have hlB := hb.lt
  have R0 : ∀ t : TypeId, CS w ga gb la lb [] (.slice none 0 0) ((w.alloc (.cells #[.slice aa la.length ca] t)).alloc (.cells #[.slice ab lb.length cb] t)) := fun t => by
    have hb1 : Below w.heap.size w (w.alloc (.cells #[.slice aa la.length ca] t)) := (Below.refl _ _).alloc (Nat.le_refl _) _
    have r1 := rd_new (W := w) ha.cap (fun k hk => ha.adr hk) ha.at' ha.lt t
    have r2 := rd_new (W := w.alloc (.cells #[.slice aa la.length ca] t)) hb.cap (fun k hk => hb.adr hk) (hb.at'.later hb1 hb.lt) (by simp; omega) t
    rw [World.size_alloc] at r2
    exact ⟨r1.up ((Below.refl _ _).alloc (Nat.le_refl _) _), r2, World.ownsRow_nil _ _ _ _, ⟨(fun e => by cases e), (fun e => by cases e)⟩, ⟨by omega, by omega⟩, hb1.alloc (by simp) _⟩
  have HR := hide (R0 135)
  have C0 : Hid (CE (stL la) (stL lb) la lb [] (la.length + lb.length)) := hide ⟨by cases h : cmpS (stL la) (stL lb) <;> simp [stL], hga, hgb, (fun p hp => by cases hp), by simp⟩
  generalize hX : stL la = X at *
  generalize hY : stL lb = Y at *
  generalize hN : la.length + lb.length = N at *
  have HLA := hide ha
  clear hX hY R0 ha hb hga hgb
  go_enter Tryd.func63, Tryd.ntmps63
  go_wp2_with fail
  go_loopw [6] (fun v wr => ∃ v0, v0 = v ∧ ∃ gx gy lx ly P, Hid (CS w gx gy lx ly P v0 wr) ∧ Hid (CE X Y lx ly P N)) (fun _ wr => rdLen wr w.heap.size + rdLen wr (w.heap.size + 1))
  case atStart => exact ⟨_, rfl, ga, gb, la, lb, [], HR, C0⟩
  case round =>
    obtain ⟨v, hv0, gx, gy, lx, ly, P, HS, HE⟩ := hrel
    subst hv0
    have hsz := HE.out.sz
    have L0x := HS.out.rx.len
    have L0y := HS.out.ry.len
    have NBp := norm_bd P (fun p hp => gqs_pk (HE.out.gP p hp)) P.length (Nat.le_refl _)
    rw [List.take_length] at NBp
    have NL := NBp.1
    have NB := hide NBp.2
    clear HR C0 NBp
    cases lx with
    | nil =>
      cases ly with
      | nil =>
        go_wp2_with fail
        refine (done_nil HS.out.rx).mono ?_
        rintro e w' ⟨rfl, hw⟩
        replace hw := hw.symm; subst hw
        go_wp2_with fail
        refine (done_nil HS.out.ry).mono ?_
        rintro e w' ⟨rfl, hw⟩
        replace hw := hw.symm; subst hw
        have hcm : cmpS X Y = some (stL P) := by rw [HE.out.eq]; simp [stL, cmpS_nil]
        have hgP := HE.out.gP
        have hown := HS.out.ow
        have hbe := HS.out.be
        obtain ⟨av, cv, rfl, -, -⟩ := own_shp hown
        go_wp2
        go_ret2
        exact ⟨_, true, rfl, fun _ => ⟨P, hcm, hgP, by omega, POwn.mono hown (by omega)⟩, (fun c => by cases c), hbe⟩
      | cons q s =>
        have hq := HE.out.gy q (by simp)
        have bq := gqs_bd hq
        simp only [List.length_cons, List.length_nil] at hsz L0x L0y
        obtain ⟨oy, cpy, by_, hcy, ⟨cy0, cy1, cy2⟩, -, -⟩ := HS.out.ry.cons
        cases hpe : decide (q.put.data.toList = []) with
        | false =>
          have hpn : q.put.data.toList ≠ [] := of_decide_eq_false hpe
          have e1 := emp_b q.put
          rw [hpe] at e1
          clear hpe
          go_wp2_with fail
          refine (done_nil HS.out.rx).mono ?_
          rintro e w' ⟨rfl, hw⟩
          replace hw := hw.symm; subst hw
          go_wp2_with fail
          refine (done_cons HS.out.ry).mono ?_
          rintro e w' ⟨rfl, hw⟩
          replace hw := hw.symm; subst hw
          go_wp2_with fail
          refine (done_nil HS.out.rx).mono ?_
          rintro e w' ⟨rfl, hw⟩
          replace hw := hw.symm; subst hw
          go_wp2_with fail
          refine (done_cons HS.out.ry).mono ?_
          rintro e w' ⟨rfl, hw⟩
          replace hw := hw.symm; subst hw
          go_wp2_with fail
          refine (size_any HS.out.ry bq.1 bq.2.1 bq.2.2).mono ?_
          rintro e w2 ⟨rfl, k2, hw⟩
          replace HS := hide (by have := HS.out.drewN k2; rw [← hw] at this; exact this)
          clear hw
          obtain ⟨n, hn⟩ : ∃ n : Nat, (n : Int) = psz q := ⟨(psz q).toNat, by have := psz_pos hq; omega⟩
          obtain ⟨w1, w2'⟩ := whole_cut hq s hn
          have h0n : 0 < n := by have := psz_pos hq; omega
          have hln : (n : Int) ≤ psz q := by omega
          have CT := hide (take_gq HS.out.ry hq (by omega) (n := n) h0n hln)
          rw [w1, w2', hn] at CT
          unfold ptV at CT
          clear hn h0n hln w1 w2'
          go_wp2_with fail
          refine CT.out.mono ?_
          rintro e w3 ⟨rfl, g3, hr, hg', hgr⟩
          replace HS := hide (HS.out.takeY hr hg' hgr)
          clear CT hr hg' hgr by_ cy0 cy1 cy2
          have AD := hide (l3Add_fr q HS.out.ow (by have := HS.out.ry.lt; omega) (by omega) (fun q hq => (NB.out q hq).mono (by omega)) (gqs_pk hq))
          unfold ptV at AD
          obtain ⟨av, cv, hv, -, -⟩ := own_shp HS.out.ow
          subst hv
          go_wp2_with fail
          refine AD.out.mono ?_
          rintro e w4 ⟨v2, rfl, ow2, fr2, loc2⟩
          replace HS := hide (HS.out.add ow2 fr2 loc2)
          clear AD ow2 fr2 loc2
          have CE2 := hide (HE.out.told (lx' := []) (ly' := s) (p := q) (by rw [stL_cons]; exact put_eq hq hpn (fun x r c => by cases c)) HE.out.gx (fun z hz => HE.out.gy z (by simp [hz])) hq (by first | omega | (simp only [List.length_cons]; omega) | (simp only [List.length_nil]; omega) | (simp only [List.length_nil, List.length_cons]; omega)))
          go_wp2
          go_roundw
          case rel => exact ⟨v2, rfl, _, _, [], s, P ++ [q], HS, CE2⟩
          case measure => rw [HS.out.rx.len, HS.out.ry.len, L0x, L0y]; first | omega | (simp only [List.length_cons]; omega) | (simp only [List.length_nil]; omega) | (simp only [List.length_nil, List.length_cons]; omega)
        | true =>
          have hpn : q.put.data.toList = [] := of_decide_eq_true hpe
          have e1 := emp_b q.put
          rw [hpe] at e1
          clear hpe
          go_wp2_with fail
          refine (done_nil HS.out.rx).mono ?_
          rintro e w' ⟨rfl, hw⟩
          replace hw := hw.symm; subst hw
          go_wp2_with fail
          refine (done_cons HS.out.ry).mono ?_
          rintro e w' ⟨rfl, hw⟩
          replace hw := hw.symm; subst hw
          go_wp2_with fail
          refine (done_nil HS.out.rx).mono ?_
          rintro e w' ⟨rfl, hw⟩
          replace hw := hw.symm; subst hw
          go_wp2_with fail
          refine (done_cons HS.out.ry).mono ?_
          rintro e w' ⟨rfl, hw⟩
          replace hw := hw.symm; subst hw
          go_wp2_with fail
          refine (done_nil HS.out.rx).mono ?_
          rintro e w' ⟨rfl, hw⟩
          replace hw := hw.symm; subst hw
          have hcm : cmpS X Y = none := by rw [HE.out.eq]; rw [stL_cons, none_y hq hpn]; rfl
          have hbe := HS.out.be
          obtain ⟨av, cv, hv, -, -⟩ := own_shp HS.out.ow
          subst hv
          go_wp2
          go_ret2
          exact ⟨_, false, rfl, (fun c => by cases c), fun _ => hcm, hbe⟩
    | cons p r =>
      have hp := HE.out.gx p (by simp)
      have bp := gqs_bd hp
      simp only [List.length_cons] at hsz L0x
      obtain ⟨ox, cpx, bx, hcx, ⟨cx0, cx1, cx2⟩, -, -⟩ := HS.out.rx.cons
      cases hde : decide (p.drop.data.toList = []) with
      | false =>
        have hdn : p.drop.data.toList ≠ [] := of_decide_eq_false hde
        have e1 := emp_b p.drop
        rw [hde] at e1
        clear hde
        go_wp2_with fail
        refine (done_cons HS.out.rx).mono ?_
        rintro e w' ⟨rfl, hw⟩
        replace hw := hw.symm; subst hw
        go_wp2_with fail
        refine (done_cons HS.out.rx).mono ?_
        rintro e w' ⟨rfl, hw⟩
        replace hw := hw.symm; subst hw
        go_wp2_with fail
        refine (size_any HS.out.rx bp.1 bp.2.1 bp.2.2).mono ?_
        rintro e w2 ⟨rfl, k2, hw⟩
        replace HS := hide (by have := HS.out.drewN k2; rw [← hw] at this; exact this)
        clear hw
        obtain ⟨n, hn⟩ : ∃ n : Nat, (n : Int) = psz p := ⟨(psz p).toNat, by have := psz_pos hp; omega⟩
        obtain ⟨w1, w2'⟩ := whole_cut hp r hn
        have h0n : 0 < n := by have := psz_pos hp; omega
        have hln : (n : Int) ≤ psz p := by omega
        have CT := hide (take_gq HS.out.rx hp (by omega) (n := n) h0n hln)
        rw [w1, w2', hn] at CT
        unfold ptV at CT
        clear hn h0n hln w1 w2'
        go_wp2_with fail
        refine CT.out.mono ?_
        rintro e w3 ⟨rfl, g3, hr, hg', hgr⟩
        replace HS := hide (HS.out.takeX hr hg' hgr)
        clear CT hr hg' hgr bx cx0 cx1 cx2
        have AD := hide (l3Add_fr p HS.out.ow (by have := HS.out.ry.lt; omega) (by omega) (fun q hq => (NB.out q hq).mono (by omega)) (gqs_pk hp))
        unfold ptV at AD
        obtain ⟨av, cv, hv, -, -⟩ := own_shp HS.out.ow
        subst hv
        go_wp2_with fail
        refine AD.out.mono ?_
        rintro e w4 ⟨v2, rfl, ow2, fr2, loc2⟩
        replace HS := hide (HS.out.add ow2 fr2 loc2)
        clear AD ow2 fr2 loc2
        have CE2 := hide (HE.out.told (lx' := r) (ly' := ly) (p := p) (by rw [stL_cons]; exact drop_eq hp hdn) (fun z hz => HE.out.gx z (by simp [hz])) HE.out.gy hp (by first | omega | (simp only [List.length_cons]; omega) | (simp only [List.length_nil]; omega) | (simp only [List.length_nil, List.length_cons]; omega)))
        go_wp2
        go_roundw
        case rel => exact ⟨v2, rfl, _, _, r, ly, P ++ [p], HS, CE2⟩
        case measure => rw [HS.out.rx.len, HS.out.ry.len, L0x, L0y]; first | omega | (simp only [List.length_cons]; omega) | (simp only [List.length_nil]; omega) | (simp only [List.length_nil, List.length_cons]; omega)
      | true =>
        have hpd : p.drop.data.toList = [] := of_decide_eq_true hde
        have e1 := emp_b p.drop
        rw [hde] at e1
        clear hde
        cases ly with
        | nil =>
          simp only [List.length_nil] at hsz L0y
          go_wp2_with fail
          refine (done_cons HS.out.rx).mono ?_
          rintro e w' ⟨rfl, hw⟩
          replace hw := hw.symm; subst hw
          go_wp2_with fail
          refine (done_cons HS.out.rx).mono ?_
          rintro e w' ⟨rfl, hw⟩
          replace hw := hw.symm; subst hw
          go_wp2_with fail
          refine (done_nil HS.out.ry).mono ?_
          rintro e w' ⟨rfl, hw⟩
          replace hw := hw.symm; subst hw
          go_wp2_with fail
          refine (done_cons HS.out.rx).mono ?_
          rintro e w' ⟨rfl, hw⟩
          replace hw := hw.symm; subst hw
          go_wp2_with fail
          refine (done_nil HS.out.ry).mono ?_
          rintro e w' ⟨rfl, hw⟩
          replace hw := hw.symm; subst hw
          have hcm : cmpS X Y = none := by rw [HE.out.eq]; rw [stL_cons, none_x hp hpd]; rfl
          have hbe := HS.out.be
          obtain ⟨av, cv, hv, -, -⟩ := own_shp HS.out.ow
          subst hv
          go_wp2
          go_ret2
          exact ⟨_, false, rfl, (fun c => by cases c), fun _ => hcm, hbe⟩
        | cons q s =>
          have hq := HE.out.gy q (by simp)
          have bq := gqs_bd hq
          simp only [List.length_cons] at hsz L0y
          obtain ⟨oy, cpy, by_, hcy, ⟨cy0, cy1, cy2⟩, -, -⟩ := HS.out.ry.cons
          cases hpe : decide (q.put.data.toList = []) with
          | false =>
            have hpn : q.put.data.toList ≠ [] := of_decide_eq_false hpe
            have e2 := emp_b q.put
            rw [hpe] at e2
            clear hpe
            go_wp2_with fail
            refine (done_cons HS.out.rx).mono ?_
            rintro e w' ⟨rfl, hw⟩
            replace hw := hw.symm; subst hw
            go_wp2_with fail
            refine (done_cons HS.out.rx).mono ?_
            rintro e w' ⟨rfl, hw⟩
            replace hw := hw.symm; subst hw
            go_wp2_with fail
            refine (done_cons HS.out.ry).mono ?_
            rintro e w' ⟨rfl, hw⟩
            replace hw := hw.symm; subst hw
            go_wp2_with fail
            refine (size_any HS.out.ry bq.1 bq.2.1 bq.2.2).mono ?_
            rintro e w2 ⟨rfl, k2, hw⟩
            replace HS := hide (by have := HS.out.drewN k2; rw [← hw] at this; exact this)
            clear hw
            obtain ⟨n, hn⟩ : ∃ n : Nat, (n : Int) = psz q := ⟨(psz q).toNat, by have := psz_pos hq; omega⟩
            obtain ⟨w1, w2'⟩ := whole_cut hq s hn
            have h0n : 0 < n := by have := psz_pos hq; omega
            have hln : (n : Int) ≤ psz q := by omega
            have CT := hide (take_gq HS.out.ry hq (by omega) (n := n) h0n hln)
            rw [w1, w2', hn] at CT
            unfold ptV at CT
            clear hn h0n hln w1 w2'
            go_wp2_with fail
            refine CT.out.mono ?_
            rintro e w3 ⟨rfl, g3, hr, hg', hgr⟩
            replace HS := hide (HS.out.takeY hr hg' hgr)
            clear CT hr hg' hgr by_ cy0 cy1 cy2
            have AD := hide (l3Add_fr q HS.out.ow (by have := HS.out.ry.lt; omega) (by omega) (fun q hq => (NB.out q hq).mono (by omega)) (gqs_pk hq))
            unfold ptV at AD
            obtain ⟨av, cv, hv, -, -⟩ := own_shp HS.out.ow
            subst hv
            go_wp2_with fail
            refine AD.out.mono ?_
            rintro e w4 ⟨v2, rfl, ow2, fr2, loc2⟩
            replace HS := hide (HS.out.add ow2 fr2 loc2)
            clear AD ow2 fr2 loc2
            have CE2 := hide (HE.out.told (lx' := (p :: r)) (ly' := s) (p := q) (by rw [stL_cons]; exact put_eq hq hpn (noD_head hp hpd)) HE.out.gx (fun z hz => HE.out.gy z (by simp [hz])) hq (by first | omega | (simp only [List.length_cons]; omega) | (simp only [List.length_nil]; omega) | (simp only [List.length_nil, List.length_cons]; omega)))
            go_wp2
            go_roundw
            case rel => exact ⟨v2, rfl, _, _, (p :: r), s, P ++ [q], HS, CE2⟩
            case measure => rw [HS.out.rx.len, HS.out.ry.len, L0x, L0y]; first | omega | (simp only [List.length_cons]; omega) | (simp only [List.length_nil]; omega) | (simp only [List.length_nil, List.length_cons]; omega)
          | true =>
            have hqp : q.put.data.toList = [] := of_decide_eq_true hpe
            have e2 := emp_b q.put
            rw [hpe] at e2
            clear hpe
            have zp := psz_pos hp
            have zq := psz_pos hq
            have zp3 := hp.2
            have zq3 := hq.2
            obtain ⟨n, hn⟩ : ∃ n : Nat, (n : Int) = if psz q < psz p then psz q else psz p := ⟨(if psz q < psz p then psz q else psz p).toNat, by split <;> omega⟩
            have h0n : 0 < n := by split at hn <;> omega
            have hnp : (n : Int) ≤ psz p := by split at hn <;> omega
            have hnq : (n : Int) ≤ psz q := by split at hn <;> omega
            have hone : (n : Int) = psz p ∨ (n : Int) = psz q := by split at hn <;> omega
            obtain ⟨x1, x2, x3, -, -⟩ := cut_math hp h0n hnp r
            obtain ⟨y1, y2, y3, -, -⟩ := cut_math hq h0n hnq s
            have hgx := hide (rest_g HE.out.gx h0n hnp)
            have hgy := hide (rest_g HE.out.gy h0n hnq)
            have hlen : (restL p n r).length + (restL q n s).length + 1 ≤ r.length + 1 + (s.length + 1) := by
              rw [rest_len, rest_len]
              rcases hone with e | e
              · rw [if_pos e]; split <;> omega
              · rw [if_pos e]; split <;> omega
            have MT := hide (meet x2 y2 ((cutA_kind hp n).1 hpd) ((cutA_kind hq n).2 hqp) (by rw [x3, y3]) (stL (restL p n r)) (stL (restL q n s)))
            have EQ0 : Hid (cmpS (stL (p :: r)) (stL (q :: s)) = cmpS (stp (cutA p n) ++ stL (restL p n r)) (stp (cutA q n) ++ stL (restL q n s))) := hide (by rw [stL_cons, stL_cons, x1, y1])
            have b2 := gqs_bd x2
            have b3 := gqs_bd y2
            have hx2 := hide x2
            have hy2 := hide y2
            clear x1 y1 x2 y2 x3 y3 hone
            have TX : Hid (∀ W g, Rd W w.heap.size g (p :: r) → Calls Tryd.prog 100 #[.pointer (some ⟨w.heap.size, 0, none⟩), .int .i64 (n : Int)] W fun e w' => e = .returned (.agg #[.int .i64 (cutA p n).keep, .string (cutA p n).put, .string (cutA p n).drop]) ∧ ∃ g', Rd w' w.heap.size g' (restL p n r) ∧ (g' = g ∨ W.heap.size ≤ g') ∧ W.grownBy w' (some w.heap.size)) := hide (fun W g h => take_gq h hp (by omega) h0n hnp)
            have TY : Hid (∀ W g, Rd W (w.heap.size + 1) g (q :: s) → Calls Tryd.prog 100 #[.pointer (some ⟨w.heap.size + 1, 0, none⟩), .int .i64 (n : Int)] W fun e w' => e = .returned (.agg #[.int .i64 (cutA q n).keep, .string (cutA q n).put, .string (cutA q n).drop]) ∧ ∃ g', Rd w' (w.heap.size + 1) g' (restL q n s) ∧ (g' = g ∨ W.heap.size ≤ g') ∧ W.grownBy w' (some (w.heap.size + 1))) := hide (fun W g h => take_gq h hq (by omega) h0n hnq)
            have SX : Hid (∀ W g, Rd W w.heap.size g (p :: r) → Calls Tryd.prog 101 #[.pointer (some ⟨w.heap.size, 0, none⟩)] W fun e w' => e = .returned (.int .i64 (psz p)) ∧ ∃ k, w' = W.drewN k) := hide (fun W g h => size_any h bp.1 bp.2.1 bp.2.2)
            have SY : Hid (∀ W g, Rd W (w.heap.size + 1) g (q :: s) → Calls Tryd.prog 101 #[.pointer (some ⟨w.heap.size + 1, 0, none⟩)] W fun e w' => e = .returned (.int .i64 (psz q)) ∧ ∃ k, w' = W.drewN k) := hide (fun W g h => size_any h bq.1 bq.2.1 bq.2.2)
            have HEg := hide (fun (z : Pt) (lx' ly' : List Pt) (e : cmpS (stL (p :: r)) (stL (q :: s)) = (cmpS (stL lx') (stL ly')).map (stp z ++ ·)) (h1 : ∀ c ∈ lx', gqs c) (h2 : ∀ c ∈ ly', gqs c) (h3 : gqs z) (h4 : lx'.length + ly'.length + 1 ≤ (p :: r).length + (q :: s).length) => HE.out.told e h1 h2 h3 h4)
            have HEs := hide (fun (lx' ly' : List Pt) (e : cmpS (stL (p :: r)) (stL (q :: s)) = cmpS (stL lx') (stL ly')) (h1 : ∀ c ∈ lx', gqs c) (h2 : ∀ c ∈ ly', gqs c) (h4 : lx'.length + ly'.length ≤ (p :: r).length + (q :: s).length) => HE.out.skip e h1 h2 h4)
            have HEe := hide HE.out.eq
            clear b2 b3 hnp hnq h0n
            generalize hp' : cutA p n = p' at *
            generalize hq' : cutA q n = q' at *
            generalize hrx : restL p n r = rx at *
            generalize hry : restL q n s = ry at *
            clear hp' hq' hrx hry HE
            by_cases hlt : psz q < psz p
            · skip
              rw [if_pos hlt] at hn
              rw [hn] at TX TY
              clear hn
              go_wp2_with fail
              refine (done_cons HS.out.rx).mono ?_
              rintro e w' ⟨rfl, hw⟩
              replace hw := hw.symm; subst hw
              go_wp2_with fail
              refine (done_cons HS.out.rx).mono ?_
              rintro e w' ⟨rfl, hw⟩
              replace hw := hw.symm; subst hw
              go_wp2_with fail
              refine (done_cons HS.out.ry).mono ?_
              rintro e w' ⟨rfl, hw⟩
              replace hw := hw.symm; subst hw
              go_wp2_with fail
              refine (done_cons HS.out.rx).mono ?_
              rintro e w' ⟨rfl, hw⟩
              replace hw := hw.symm; subst hw
              go_wp2_with fail
              refine (done_cons HS.out.ry).mono ?_
              rintro e w' ⟨rfl, hw⟩
              replace hw := hw.symm; subst hw
              clear bx cx0 cx1 cx2 by_ cy0 cy1 cy2
              go_wp2_with fail
              refine (SX.out _ _ HS.out.rx).mono ?_
              rintro e wa ⟨rfl, kk, hw⟩
              replace HS := hide (by have := HS.out.drewN kk; rw [← hw] at this; exact this)
              clear hw kk
              go_wp2_with fail
              refine (SY.out _ _ HS.out.ry).mono ?_
              rintro e wb ⟨rfl, kk, hw⟩
              replace HS := hide (by have := HS.out.drewN kk; rw [← hw] at this; exact this)
              clear hw kk
              go_wp2_with fail
              refine (SY.out _ _ HS.out.ry).mono ?_
              rintro e wc ⟨rfl, kk, hw⟩
              replace HS := hide (by have := HS.out.drewN kk; rw [← hw] at this; exact this)
              clear hw kk
              go_wp2_with fail
              refine (TX.out _ _ HS.out.rx).mono ?_
              rintro e w5 ⟨rfl, g5, hr, hg', hgr⟩
              have HSz := HS
              have hgz := hide hgr
              replace HS := hide ((HS.out.takeX hr hg' hgr).up ((Below.refl _ _).alloc (Nat.le_refl _) (.cells #[.int .i64 p'.keep, .string p'.put, .string p'.drop] 38)))
              clear hr hg' hgr TX SX SY
              go_wp2_with fail
              refine (TY.out _ _ HS.out.ry).mono ?_
              rintro e w7 ⟨rfl, g7, hr, hg', hgr⟩
              have h5 : w.heap.size + 1 < w5.heap.size := by have := HSz.out.ry.lt.1; have := hgz.out.size; omega
              have hPb := hide ((hgr.block w5.heap.size (by simp) (fun e => by have := Option.some.inj e; omega)).trans (heap_alloc_new w5 _))
              have hs7 : w5.heap.size < w7.heap.size := by have := hgr.size; simp at this; omega
              replace HS := hide ((HS.out.takeY hr hg' hgr).up ((Below.refl _ _).alloc (Nat.le_refl _) (.cells #[.int .i64 q'.keep, .string q'.put, .string q'.drop] 38)))
              clear hr hg' hgr TY
              obtain ⟨⟨pa0, pa1, pa2⟩, -⟩ := cells3_of ((Below.heap_alloc w7 (.cells #[.int .i64 q'.keep, .string q'.put, .string q'.drop] 38) _ hs7).trans hPb.out)
              have hB2 : w.heap.size + 2 ≤ (w7.alloc (.cells #[.int .i64 q'.keep, .string q'.put, .string q'.drop] 38)).heap.size := by simp; omega
              by_cases hkp : 0 < p'.keep
              · have d1 : decide (0 < p'.keep) = true := decide_eq_true hkp
                have CE2 := hide (HEg.out q' rx ry (by rw [EQ0.out]; exact MT.out.1 (by omega)) hgx.out hgy.out hy2.out (by first | omega | (simp only [List.length_cons]; omega) | (simp only [List.length_nil]; omega) | (simp only [List.length_nil, List.length_cons]; omega)))
                have AD := hide (l3Add_fr q' HS.out.ow hB2 (by omega) (fun q hq => (NB.out q hq).mono (by omega)) (gqs_pk hy2.out))
                unfold ptV at AD
                obtain ⟨av, cv, hv, -, -⟩ := own_shp HS.out.ow
                subst hv
                go_wp2_with fail
                refine AD.out.mono ?_
                rintro e w8 ⟨v2, rfl, ow2, fr2, loc2⟩
                replace HS := hide (HS.out.add ow2 fr2 loc2)
                clear AD ow2 fr2 loc2 pa0 pa1 pa2
                go_wp2
                go_roundw
                case rel => exact ⟨v2, rfl, _, _, rx, ry, P ++ [q'], HS, CE2⟩
                case measure => rw [HS.out.rx.len, HS.out.ry.len, L0x, L0y]; omega
              · have d1 : decide (0 < p'.keep) = false := decide_eq_false hkp
                by_cases hkq : 0 < q'.keep
                · have d2 : decide (0 < q'.keep) = true := decide_eq_true hkq
                  have CE2 := hide (HEg.out p' rx ry (by rw [EQ0.out]; exact MT.out.2.1 (by omega) (by omega)) hgx.out hgy.out hx2.out (by first | omega | (simp only [List.length_cons]; omega) | (simp only [List.length_nil]; omega) | (simp only [List.length_nil, List.length_cons]; omega)))
                  have AD := hide (l3Add_fr p' HS.out.ow hB2 (by omega) (fun q hq => (NB.out q hq).mono (by omega)) (gqs_pk hx2.out))
                  unfold ptV at AD
                  obtain ⟨av, cv, hv, -, -⟩ := own_shp HS.out.ow
                  subst hv
                  go_wp2_with fail
                  refine AD.out.mono ?_
                  rintro e w8 ⟨v2, rfl, ow2, fr2, loc2⟩
                  replace HS := hide (HS.out.add ow2 fr2 loc2)
                  clear AD ow2 fr2 loc2 pa0 pa1 pa2
                  go_wp2
                  go_roundw
                  case rel => exact ⟨v2, rfl, _, _, rx, ry, P ++ [p'], HS, CE2⟩
                  case measure => rw [HS.out.rx.len, HS.out.ry.len, L0x, L0y]; omega
                · have d2 : decide (0 < q'.keep) = false := decide_eq_false hkq
                  have M3 := MT.out.2.2 (by omega) (by omega)
                  obtain ⟨av, cv, hv, -, -⟩ := own_shp HS.out.ow
                  subst hv
                  by_cases he : p'.put = q'.drop
                  · rw [if_pos he] at M3
                    have CE2 := hide (HEs.out rx ry (by rw [EQ0.out]; exact M3) hgx.out hgy.out (by first | omega | (simp only [List.length_cons]; omega) | (simp only [List.length_nil]; omega) | (simp only [List.length_nil, List.length_cons]; omega)))
                    have he3 : (p'.put.toList == q'.drop.toList) = true := by rw [he]; simp
                    have he4 : decide (p'.put = q'.drop) = true := decide_eq_true he
                    clear he M3
                    go_wp2
                    go_roundw
                    case rel => exact ⟨_, rfl, _, _, rx, ry, P, HS, CE2⟩
                    case measure => rw [HS.out.rx.len, HS.out.ry.len, L0x, L0y]; omega
                  · rw [if_neg he] at M3
                    have hcm : cmpS X Y = none := by rw [HEe.out, EQ0.out, M3]; rfl
                    have he3 : (p'.put.toList == q'.drop.toList) = false := by rw [ByteArray.toList_eq, ByteArray.toList_eq]; exact beq_eq_false_iff_ne.2 (fun c => he (ba_eq c))
                    have hbe := HS.out.be
                    clear M3
                    go_wp2
                    go_ret2
                    exact ⟨_, false, rfl, (fun c => by cases c), fun _ => hcm, hbe⟩
            · skip
              rw [if_neg hlt] at hn
              rw [hn] at TX TY
              clear hn
              replace hlt : psz p ≤ psz q := by omega
              go_wp2_with fail
              refine (done_cons HS.out.rx).mono ?_
              rintro e w' ⟨rfl, hw⟩
              replace hw := hw.symm; subst hw
              go_wp2_with fail
              refine (done_cons HS.out.rx).mono ?_
              rintro e w' ⟨rfl, hw⟩
              replace hw := hw.symm; subst hw
              go_wp2_with fail
              refine (done_cons HS.out.ry).mono ?_
              rintro e w' ⟨rfl, hw⟩
              replace hw := hw.symm; subst hw
              go_wp2_with fail
              refine (done_cons HS.out.rx).mono ?_
              rintro e w' ⟨rfl, hw⟩
              replace hw := hw.symm; subst hw
              go_wp2_with fail
              refine (done_cons HS.out.ry).mono ?_
              rintro e w' ⟨rfl, hw⟩
              replace hw := hw.symm; subst hw
              clear bx cx0 cx1 cx2 by_ cy0 cy1 cy2
              go_wp2_with fail
              refine (SX.out _ _ HS.out.rx).mono ?_
              rintro e wa ⟨rfl, kk, hw⟩
              replace HS := hide (by have := HS.out.drewN kk; rw [← hw] at this; exact this)
              clear hw kk
              go_wp2_with fail
              refine (SY.out _ _ HS.out.ry).mono ?_
              rintro e wb ⟨rfl, kk, hw⟩
              replace HS := hide (by have := HS.out.drewN kk; rw [← hw] at this; exact this)
              clear hw kk
              go_wp2_with fail
              refine (TX.out _ _ HS.out.rx).mono ?_
              rintro e w5 ⟨rfl, g5, hr, hg', hgr⟩
              have HSz := HS
              have hgz := hide hgr
              replace HS := hide ((HS.out.takeX hr hg' hgr).up ((Below.refl _ _).alloc (Nat.le_refl _) (.cells #[.int .i64 p'.keep, .string p'.put, .string p'.drop] 38)))
              clear hr hg' hgr TX SX SY
              go_wp2_with fail
              refine (TY.out _ _ HS.out.ry).mono ?_
              rintro e w7 ⟨rfl, g7, hr, hg', hgr⟩
              have h5 : w.heap.size + 1 < w5.heap.size := by have := HSz.out.ry.lt.1; have := hgz.out.size; omega
              have hPb := hide ((hgr.block w5.heap.size (by simp) (fun e => by have := Option.some.inj e; omega)).trans (heap_alloc_new w5 _))
              have hs7 : w5.heap.size < w7.heap.size := by have := hgr.size; simp at this; omega
              replace HS := hide ((HS.out.takeY hr hg' hgr).up ((Below.refl _ _).alloc (Nat.le_refl _) (.cells #[.int .i64 q'.keep, .string q'.put, .string q'.drop] 38)))
              clear hr hg' hgr TY
              obtain ⟨⟨pa0, pa1, pa2⟩, -⟩ := cells3_of ((Below.heap_alloc w7 (.cells #[.int .i64 q'.keep, .string q'.put, .string q'.drop] 38) _ hs7).trans hPb.out)
              have hB2 : w.heap.size + 2 ≤ (w7.alloc (.cells #[.int .i64 q'.keep, .string q'.put, .string q'.drop] 38)).heap.size := by simp; omega
              by_cases hkp : 0 < p'.keep
              · have d1 : decide (0 < p'.keep) = true := decide_eq_true hkp
                have CE2 := hide (HEg.out q' rx ry (by rw [EQ0.out]; exact MT.out.1 (by omega)) hgx.out hgy.out hy2.out (by first | omega | (simp only [List.length_cons]; omega) | (simp only [List.length_nil]; omega) | (simp only [List.length_nil, List.length_cons]; omega)))
                have AD := hide (l3Add_fr q' HS.out.ow hB2 (by omega) (fun q hq => (NB.out q hq).mono (by omega)) (gqs_pk hy2.out))
                unfold ptV at AD
                obtain ⟨av, cv, hv, -, -⟩ := own_shp HS.out.ow
                subst hv
                go_wp2_with fail
                refine AD.out.mono ?_
                rintro e w8 ⟨v2, rfl, ow2, fr2, loc2⟩
                replace HS := hide (HS.out.add ow2 fr2 loc2)
                clear AD ow2 fr2 loc2 pa0 pa1 pa2
                go_wp2
                go_roundw
                case rel => exact ⟨v2, rfl, _, _, rx, ry, P ++ [q'], HS, CE2⟩
                case measure => rw [HS.out.rx.len, HS.out.ry.len, L0x, L0y]; omega
              · have d1 : decide (0 < p'.keep) = false := decide_eq_false hkp
                by_cases hkq : 0 < q'.keep
                · have d2 : decide (0 < q'.keep) = true := decide_eq_true hkq
                  have CE2 := hide (HEg.out p' rx ry (by rw [EQ0.out]; exact MT.out.2.1 (by omega) (by omega)) hgx.out hgy.out hx2.out (by first | omega | (simp only [List.length_cons]; omega) | (simp only [List.length_nil]; omega) | (simp only [List.length_nil, List.length_cons]; omega)))
                  have AD := hide (l3Add_fr p' HS.out.ow hB2 (by omega) (fun q hq => (NB.out q hq).mono (by omega)) (gqs_pk hx2.out))
                  unfold ptV at AD
                  obtain ⟨av, cv, hv, -, -⟩ := own_shp HS.out.ow
                  subst hv
                  go_wp2_with fail
                  refine AD.out.mono ?_
                  rintro e w8 ⟨v2, rfl, ow2, fr2, loc2⟩
                  replace HS := hide (HS.out.add ow2 fr2 loc2)
                  clear AD ow2 fr2 loc2 pa0 pa1 pa2
                  go_wp2
                  go_roundw
                  case rel => exact ⟨v2, rfl, _, _, rx, ry, P ++ [p'], HS, CE2⟩
                  case measure => rw [HS.out.rx.len, HS.out.ry.len, L0x, L0y]; omega
                · have d2 : decide (0 < q'.keep) = false := decide_eq_false hkq
                  have M3 := MT.out.2.2 (by omega) (by omega)
                  obtain ⟨av, cv, hv, -, -⟩ := own_shp HS.out.ow
                  subst hv
                  by_cases he : p'.put = q'.drop
                  · rw [if_pos he] at M3
                    have CE2 := hide (HEs.out rx ry (by rw [EQ0.out]; exact M3) hgx.out hgy.out (by first | omega | (simp only [List.length_cons]; omega) | (simp only [List.length_nil]; omega) | (simp only [List.length_nil, List.length_cons]; omega)))
                    have he3 : (p'.put.toList == q'.drop.toList) = true := by rw [he]; simp
                    have he4 : decide (p'.put = q'.drop) = true := decide_eq_true he
                    clear he M3
                    go_wp2
                    go_roundw
                    case rel => exact ⟨_, rfl, _, _, rx, ry, P, HS, CE2⟩
                    case measure => rw [HS.out.rx.len, HS.out.ry.len, L0x, L0y]; omega
                  · rw [if_neg he] at M3
                    have hcm : cmpS X Y = none := by rw [HEe.out, EQ0.out, M3]; rfl
                    have he3 : (p'.put.toList == q'.drop.toList) = false := by rw [ByteArray.toList_eq, ByteArray.toList_eq]; exact beq_eq_false_iff_ne.2 (fun c => he (ba_eq c))
                    have hbe := HS.out.be
                    clear M3
                    go_wp2
                    go_ret2
                    exact ⟨_, false, rfl, (fun c => by cases c), fun _ => hcm, hbe⟩
end Go.Proofs.YtknilofnelhgmaaDoor

namespace Go.Proofs.YtknilofnelhgmaaDoor
open Go.RowKit
open Doc1

theorem own_pin0 {w : World} {B : Nat} {v : Value} {l : List Pt} (h : POwn w B v l) (h0w : 0 < w.heap.size) (hs : ∀ p ∈ l, p.put.size ≤ 1048576 ∧ p.drop.size ≤ 1048576) (hl : l.length ≤ 1048576) :
    ∃ aw g cap, v = .slice aw l.length cap ∧ Pin w aw g cap l := by
  rcases Nat.eq_zero_or_pos l.length with h0 | h0
  · obtain rfl := List.eq_nil_of_length_eq_zero h0
    rcases h.2 with ⟨rfl, -⟩ | ⟨g, cap, cur, rfl, hb, hh, hle, hm, hz, ht⟩
    · exact ⟨none, 0, 0, rfl, ⟨by simp, by unfold maxLen; omega⟩, fun i hi => by simp at hi, by simp, (fun j u hu => by simp [encP] at hu), h0w, fun c => absurd rfl c⟩
    · exact ⟨_, g, cap, rfl, ⟨by simp, hm⟩, fun i hi => by simp at hi, by simp, (fun j u hu => by simp [encP] at hu), (Array.getElem?_eq_some_iff.1 hh).1, fun _ => rfl⟩
  · obtain ⟨g, cap, rfl, hle, hm, hB, hlt, hc, hbk⟩ := own_cat h h0
    exact ⟨_, g, cap, rfl, ⟨hle, hm⟩, fun i hi => hs _ (List.getElem_mem hi), hl, hc, hlt, fun _ => rfl⟩
theorem norm_gqs {l : List Pt} (hg : goodO l = true) : (∀ q ∈ normL l, gqs q) ∧ (normL l).length ≤ 60 := by
  have hp := goodO_pk hg
  have hn := goodO_pk (norm_goodO hg).1
  exact ⟨fun q hq => pk_gqs (gq_norm hp q hq) (hn q hq), (goodO_le (norm_goodO hg).1).1⟩
theorem gqs_small {P : List Pt} (h : ∀ p ∈ P, gqs p) : ∀ p ∈ P, p.put.size ≤ 1048576 ∧ p.drop.size ≤ 1048576 := fun p hp => by
  obtain ⟨-, h2, h3⟩ := gqs_bd (h p hp)
  omega
theorem normP_small {P : List Pt} (h : ∀ p ∈ P, gqs p) (hl : P.length ≤ 200) : (∀ p ∈ normL P, p.put.size ≤ 1048576 ∧ p.drop.size ≤ 1048576) ∧ (normL P).length ≤ 1048576 := by
  have hn := norm_bd P (fun p hp => gqs_pk (h p hp)) P.length (Nat.le_refl _)
  rw [List.take_length] at hn
  refine ⟨fun q hq => ?_, by omega⟩
  have := hn.2 q hq
  exact ⟨by have := this.2.1; omega, by have := this.2.2; omega⟩
theorem cmpO_model {a b : List Pt} (ha : goodO a = true) (hb : goodO b = true) :
    (cmpS (stL (normL a)) (stL (normL b)) = none → cmpO a b = ([], false)) ∧ (∀ P, cmpS (stL (normL a)) (stL (normL b)) = some (stL P) → (∀ p ∈ P, gqs p) → cmpO a b = (if goodO (normL P) then normL P else [], goodO (normL P))) := by
  obtain ⟨h1, h2⟩ := cmpO_eq ha hb
  rcases cmp_norm (goodO_pk ha) (goodO_pk hb) with ⟨e1, e2⟩ | ⟨x, y, e1, e2, hxy⟩
  · exact ⟨fun _ => h2 e2, fun P hP => by rw [e1] at hP; cases hP⟩
  · refine ⟨fun h => (by rw [e1] at h; cases h), fun P hP hg => ?_⟩
    rw [e1] at hP
    cases hP
    rw [h1 y e2, ← hxy g0, norm_gath P (fun p hp => gqs_pk (hg p hp))]

set_option maxRecDepth 100000 in
set_option maxHeartbeats 4000000 in
theorem compS {w : World} {aa ab : Option Addr} {ga ca gb cb : Nat} {la lb : List Pt} (ha : Pin w aa ga ca la) (hb : Pin w ab gb cb lb) :
    Calls Tryd.prog 19 #[.slice aa la.length ca, .slice ab lb.length cb] w fun e w' => ∃ v, e = .returned (.tuple #[v, .bool (cmpO la lb).2]) ∧ POwn w' w.heap.size v (cmpO la lb).1 ∧ Below w.heap.size w w' := by
  have GA := hide (goodOpS ha)
  have GB := hide (fun w1 (h : Below w.heap.size w w1) => goodOpS (hb.later h))
  cases h1 : goodO la with
  | false =>
    rw [cmpO_no (fun c => by have := c.1; rw [h1] at this; cases this)]
    rw [h1] at GA
    clear ha hb GB
    go_enter Tryd.func19, Tryd.ntmps19
    go_wp2_with fail
    refine GA.out.mono ?_
    rintro e w1 ⟨rfl, hb1⟩
    go_wp2
    go_ret2
    exact ⟨_, rfl, World.ownsRow_nil _ _ _ _, hb1⟩
  | true =>
    rw [h1] at GA
    cases h2 : goodO lb with
    | false =>
      rw [cmpO_no (fun c => by have := c.2.1; rw [h2] at this; cases this)]
      rw [h2] at GB
      clear ha hb
      go_enter Tryd.func19, Tryd.ntmps19
      go_wp2_with fail
      refine GA.out.mono ?_
      rintro e w1 ⟨rfl, hb1⟩
      go_wp2_with fail
      refine (GB.out _ hb1).mono ?_
      rintro e w2 ⟨rfl, hb2⟩
      go_wp2
      go_ret2
      exact ⟨_, rfl, World.ownsRow_nil _ _ _ _, hb1.trans (hb2.mono hb1.size)⟩
    | true =>
      rw [h2] at GB
      obtain ⟨a60, apk, -, -⟩ := goodO_parts h1
      obtain ⟨b60, bpk, -, -⟩ := goodO_parts h2
      have NA := hide (fun w1 (h : Below w.heap.size w w1) => l3Normal_any (ha.later h) a60 apk)
      have NB := hide (fun w1 (h : Below w.heap.size w w1) => l3Normal_any (hb.later h) b60 bpk)
      have QA := norm_gqs h1
      have QB := norm_gqs h2
      have ltw : 0 < w.heap.size := Nat.lt_of_le_of_lt (Nat.zero_le _) ha.lt
      have M := hide (cmpO_model h1 h2)
      have HQ := hide (And.intro QA QB)
      obtain ⟨Z, hZ⟩ : ∃ Z, cmpO la lb = Z := ⟨_, rfl⟩
      rw [hZ]
      rw [hZ] at M
      clear ha hb h1 h2 QA QB a60 b60 apk bpk hZ
      go_enter Tryd.func19, Tryd.ntmps19
      go_wp2_with fail
      refine GA.out.mono ?_
      rintro e w1 ⟨rfl, hb1⟩
      go_wp2_with fail
      refine (GB.out _ hb1).mono ?_
      rintro e w2 ⟨rfl, hb2⟩
      replace hb2 := hb1.trans (hb2.mono hb1.size)
      clear hb1
      go_wp2_with fail
      refine (NA.out _ hb2).mono ?_
      rintro e w3 ⟨va, rfl, oa, hb3⟩
      obtain ⟨aa', ga', ca', rfl, pa⟩ := own_pin0 oa (by have := hb2.size; have := hb3.size; omega) (gqs_small HQ.out.1.1) (by have := HQ.out.1.2; omega)
      have PA := hide pa
      replace hb3 := hb2.trans (hb3.mono hb2.size)
      clear hb2 oa pa
      go_wp2_with fail
      refine (NB.out _ hb3).mono ?_
      rintro e w4 ⟨vb, rfl, ob, hb4⟩
      obtain ⟨ab', gb', cb', rfl, pb⟩ := own_pin0 ob (by have := hb3.size; have := hb4.size; omega) (gqs_small HQ.out.2.1) (by have := HQ.out.2.2; omega)
      have C := hide (l3Compose_any (PA.out.later hb4) pb HQ.out.1.1 HQ.out.2.1 (by have := HQ.out.1.2; have := HQ.out.2.2; omega))
      replace hb4 := hb3.trans (hb4.mono hb3.size)
      clear hb3 ob pb PA NA NB GA GB
      go_wp2_with fail
      refine C.out.mono ?_
      rintro e w5 ⟨v, ok, rfl, ht, hf, hb5⟩
      replace hb5 := hide (hb4.trans (hb5.mono hb4.size))
      clear C
      cases ok with
      | false =>
        have eZ := M.out.1 (hf rfl)
        subst eZ
        clear ht hf M
        go_wp2
        go_ret2
        exact ⟨_, rfl, World.ownsRow_nil _ _ _ _, hb5.out⟩
      | true =>
        obtain ⟨P, hP, hg, hPl, ow⟩ := ht rfl
        have eZ := M.out.2 P hP hg
        obtain ⟨n1, n2⟩ := normP_small hg (by have := HQ.out.1.2; have := HQ.out.2.2; omega)
        obtain ⟨av, gv, cv, rfl, pv⟩ := own_pin0 ow (by have := hb5.out.size; omega) n1 n2
        have G := hide (goodOpS pv)
        have OW := hide (ow.mono hb4.size)
        clear ht hf M n1 n2 ow pv hP
        cases hx : goodO (normL P) with
        | false =>
          rw [hx] at G eZ
          simp only [Bool.false_eq_true, if_false] at eZ
          subst eZ
          go_wp2_with fail
          refine G.out.mono ?_
          rintro e w6 ⟨rfl, hb6⟩
          go_wp2
          go_ret2
          exact ⟨_, rfl, World.ownsRow_nil _ _ _ _, hb5.out.trans (hb6.mono hb5.out.size)⟩
        | true =>
          rw [hx] at G eZ
          simp only [if_true] at eZ
          subst eZ
          go_wp2_with fail
          refine G.out.mono ?_
          rintro e w6 ⟨rfl, hb6⟩
          go_wp2
          go_ret2
          exact ⟨_, rfl, own_below OW.out hb6, hb5.out.trans (hb6.mono hb5.out.size)⟩
end Go.Proofs.YtknilofnelhgmaaDoor
