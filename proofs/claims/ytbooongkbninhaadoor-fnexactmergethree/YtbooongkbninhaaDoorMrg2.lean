/- Two gatherings beside one another, and what fills them. -/
import Derived.Test.YtbooongkbninhaaDoorOpW78
import Derived.Test.YtbooongkbninhaaDoorMrg1
import Derived.Laws.EntriesVeiled
namespace Go.Proofs.YtbooongkbninhaaDoor
open Go.RowKit
open Doc1

/-- Both gatherings stand, apart from one another, and of what lay only they have changed. -/
def G2 (W2 : World) (gx gy : Nat) (SA SB : List St) (wr : World) : Prop :=
  ∃ VX VY, Gt gx VX (gath g0 SA) wr ∧ Gt gy VY (gath g0 SB) wr ∧ (∀ k, OB gx VX k → ¬ OB gy VY k) ∧ Moves (fun k => k = gx ∨ k = gy) W2 (fun k => OB gx VX k ∨ OB gy VY k) wr
theorem gath_one (S : List St) (x : St) : gath g0 (S ++ [x]) = (gath g0 S).add x := by
  have := gath_snoc id S x
  simp only [List.map_id, id] at this
  exact this
theorem G2.up {W2 wr w1 : World} {gx gy : Nat} {SA SB : List St} (h : G2 W2 gx gy SA SB wr) (hb : Below wr.heap.size wr w1) : G2 W2 gx gy SA SB w1 := by
  obtain ⟨VX, VY, h1, h2, h3, h4⟩ := h
  exact ⟨VX, VY, h1.up hb, h2.up hb, h3, h4.trans (moves_up hb)⟩
theorem G2.swap {W2 wr : World} {gx gy : Nat} {SA SB : List St} (h : G2 W2 gx gy SA SB wr) : G2 W2 gy gx SB SA wr := by
  obtain ⟨VX, VY, h1, h2, h3, h4⟩ := h
  exact ⟨VY, VX, h2, h1, fun k a b => h3 k b a, h4.os, h4.tape, h4.output, h4.size, fun k hk hn => h4.same k hk (fun c => hn (c.elim .inr .inl)), fun k hk c => (h4.own k hk (c.elim .inr .inl)).elim .inr .inl⟩
theorem G2.size {W2 wr : World} {gx gy : Nat} {SA SB : List St} (h : G2 W2 gx gy SA SB wr) : W2.heap.size ≤ wr.heap.size := by
  obtain ⟨VX, VY, h1, h2, h3, h4⟩ := h
  exact h4.size
theorem G2.same {W2 wr : World} {gx gy : Nat} {SA SB : List St} (h : G2 W2 gx gy SA SB wr) {k : Nat} (hk : k < W2.heap.size) (h1 : k ≠ gx) (h2 : k ≠ gy) : wr.heap[k]? = W2.heap[k]? := by
  obtain ⟨VX, VY, -, -, -, h4⟩ := h
  exact h4.same k hk (fun c => c.elim h1 h2)
theorem G2.below {W2 wr : World} {gx gy B : Nat} {SA SB : List St} (h : G2 W2 gx gy SA SB wr) (hB : B ≤ W2.heap.size) (h1 : B ≤ gx) (h2 : B ≤ gy) : Below B W2 wr := by
  obtain ⟨VX, VY, -, -, -, h4⟩ := h
  exact h4.below hB (fun k hk c => by rcases c with c | c <;> omega)

/-- As G2, and a block of another's. -/
def G2b (b : Nat) (W2 : World) (gx gy : Nat) (SA SB : List St) (wr : World) : Prop :=
  ∃ VX VY, Gt gx VX (gath g0 SA) wr ∧ Gt gy VY (gath g0 SB) wr ∧ (∀ k, OB gx VX k → ¬ OB gy VY k) ∧ Moves (fun k => k = gx ∨ k = gy) W2 (fun k => OB gx VX k ∨ OB gy VY k) wr ∧ ¬ OB gx VX b ∧ ¬ OB gy VY b
theorem G2b.all {b : Nat} {W2 wr : World} {gx gy : Nat} {SA SB : List St} (h : G2b b W2 gx gy SA SB wr) : G2 W2 gx gy SA SB wr := by
  obtain ⟨VX, VY, h1, h2, h3, h4, -, -⟩ := h
  exact ⟨VX, VY, h1, h2, h3, h4⟩
theorem G2.mark {b : Nat} {W2 wr W1 : World} {gx gy : Nat} {SA SB : List St} (h : G2 W2 gx gy SA SB wr) (hb : Below wr.heap.size wr W1) (hle : wr.heap.size ≤ b) : G2b b W2 gx gy SA SB W1 := by
  obtain ⟨VX, VY, h1, h2, h3, h4⟩ := h
  exact ⟨VX, VY, h1.up hb, h2.up hb, h3, h4.trans (moves_up hb), fun c => by have := h1.ltO c; omega, fun c => by have := h2.ltO c; omega⟩
theorem G2b.up {b : Nat} {W2 wr w1 : World} {gx gy : Nat} {SA SB : List St} (h : G2b b W2 gx gy SA SB wr) (hb : Below wr.heap.size wr w1) : G2b b W2 gx gy SA SB w1 := by
  obtain ⟨VX, VY, h1, h2, h3, h4, h5⟩ := h
  exact ⟨VX, VY, h1.up hb, h2.up hb, h3, h4.trans (moves_up hb), h5⟩
theorem G2b.swap {b : Nat} {W2 wr : World} {gx gy : Nat} {SA SB : List St} (h : G2b b W2 gx gy SA SB wr) : G2b b W2 gy gx SB SA wr := by
  obtain ⟨VX, VY, h1, h2, h3, h4, h5, h6⟩ := h
  exact ⟨VY, VX, h2, h1, fun k a b => h3 k b a, ⟨h4.os, h4.tape, h4.output, h4.size, fun k hk hn => h4.same k hk (fun c => hn (c.elim .inr .inl)), fun k hk c => (h4.own k hk (c.elim .inr .inl)).elim .inr .inl⟩, h6, h5⟩

theorem G2b.add {b : Nat} {W2 W1 : World} {gx gy : Nat} {SA SB : List St} (h : G2b b W2 gx gy SA SB W1) (hb : b < W1.heap.size) (x : St) (hx : sk x) (hl : SA.length ≤ 100000) :
    Calls Tryd.prog 93 #[.pointer (some ⟨gx, 0, none⟩), stV x] W1 fun e w' => e = .returned (.tuple #[]) ∧ G2b b W2 gx gy (SA ++ [x]) SB w' ∧ w'.heap[b]? = W1.heap[b]? ∧ W1.heap.size ≤ w'.heap.size := by
  obtain ⟨VX, VY, h1, h2, h3, h4, h5, h6⟩ := h
  refine (add_any x hx h1 (gb_gath SA g0 0 gb0) (by omega)).mono ?_
  rintro e w' ⟨rfl, V', hV, hm⟩
  exact ⟨rfl, ⟨V', VY, by rw [gath_one]; exact hV, h2.kept (fun k hk => hm.same k (h2.ltO hk) (fun c => h3 k c hk)), fun k a b => h3 k (hm.own k (h2.ltO b) a) b, h4.trans (hm.wider (fun k _ c => .inl c) (fun k hk c => c.elim (fun d => .inl (hm.own k hk d)) .inr)), fun c => h5 (hm.own b hb c), h6⟩, hm.same b hb h5, hm.size⟩

theorem G2b.addKeep {b : Nat} {W2 W1 : World} {gx gy : Nat} {SA SB : List St} (h : G2b b W2 gx gy SA SB W1) (hb : b < W1.heap.size) (x : St) (hl : SA.length ≤ 100000) :
    Calls Tryd.prog 119 #[.pointer (some ⟨gx, 0, none⟩), stV x] W1 fun e w' => e = .returned (.tuple #[]) ∧ G2b b W2 gx gy (SA ++ [⟨1, 0⟩]) SB w' ∧ w'.heap[b]? = W1.heap[b]? ∧ W1.heap.size ≤ w'.heap.size := by
  have A := hide ((h.up ((Below.refl _ _).alloc (Nat.le_refl _) (.cells #[.int .i64 (x.k : Int), .int .u8 (x.c.toNat : Int)] 89))).add (by simp; omega) ⟨1, 0⟩ (.inl rfl) hl)
  unfold stV at A
  unfold stV
  clear h
  go_enter Tryd.func119, Tryd.ntmps119
  go_wp2_with fail
  refine A.out.mono ?_
  rintro e w' ⟨rfl, hG, hS, hz⟩
  rw [World.size_alloc] at hz
  go_wp2
  go_end0
  exact ⟨rfl, hG, hS.trans (Below.heap_alloc W1 _ b hb), by omega⟩

theorem G2b.addNothing {b : Nat} {W2 W1 : World} {gx gy : Nat} {SA SB : List St} (h : G2b b W2 gx gy SA SB W1) (hb : b < W1.heap.size) (x : St) :
    Calls Tryd.prog 120 #[.pointer (some ⟨gx, 0, none⟩), stV x] W1 fun e w' => e = .returned (.tuple #[]) ∧ G2b b W2 gx gy SA SB w' ∧ w'.heap[b]? = W1.heap[b]? ∧ W1.heap.size ≤ w'.heap.size := by
  have A := hide (h.up ((Below.refl _ _).alloc (Nat.le_refl _) (.cells #[.int .i64 (x.k : Int), .int .u8 (x.c.toNat : Int)] 89)))
  unfold stV
  clear h
  go_enter Tryd.func120, Tryd.ntmps120
  go_wp2
  go_end0
  exact ⟨rfl, A.out, Below.heap_alloc W1 _ b hb, by simp⟩

/-- What the gatherings hold in the end. -/
def ouG (S : List St) : List Pt := if goodO (gath g0 S).out then (gath g0 S).out else []
theorem G2.whole {w W2 wr : World} {gx gy : Nat} {SA SB : List St} (h : G2 W2 gx gy SA SB wr) (hl : SA.length ≤ 100000) (hT : Tab w) (hb : Below w.heap.size w W2) (hgx : w.heap.size ≤ gx) (hgy : w.heap.size ≤ gy) :
    Calls Tryd.prog 95 #[.pointer (some ⟨gx, 0, none⟩)] wr fun e w' => ∃ v, e = .returned (.tuple #[v, .bool (goodO (gath g0 SA).out)]) ∧ POwn w' w.heap.size v (ouG SA) ∧ Below w.heap.size w w' ∧
      ∃ VY, Gt gy VY (gath g0 SB) w' ∧ ∀ k, OB gy VY k → w.heap.size ≤ k ∧ v.ownBlock ≠ some k := by
  have hsz := hb.size
  have hbl := h.below hsz hgx hgy
  obtain ⟨VX, VY, h1, h2, h3, h4⟩ := h
  have lt0 := hT.lt
  have nx : ∀ k, k < w.heap.size → ¬ OB gx VX k := fun k hk c => by
    have := h4.own k (by omega) (.inl c)
    omega
  have ny : ∀ k, OB gy VY k → w.heap.size ≤ k := fun k c => Nat.le_of_not_lt (fun hk => by
    have := h4.own k (by omega) (.inr c)
    omega)
  have hbW : Below w.heap.size w wr := hb.trans hbl
  have hTW := hT.block (hbW.block _ lt0)
  have hgb0 := gb_gath SA g0 0 gb0
  have hgs0 := gs_gath SA g0 0 gb0 (fun p hp => by simp [g0] at hp)
  refine (whole_any h1 hgb0 hgs0 (by omega) hTW (nx _ lt0)).mono ?_
  rintro e w' ⟨v, rfl, ⟨O', mv'⟩, ho, hin⟩
  have hszW := hbW.size
  refine ⟨v, rfl, own_raise ho (fun x hx => ?_), hbW.trans (mv'.below hszW nx), VY, h2.kept (fun k hk => mv'.same k (h2.ltO hk) (fun c => h3 k c hk)), fun k hk => ⟨ny k hk, fun e => h3 k (hin k e (h2.ltO hk)) hk⟩⟩
  by_cases hlt : x < wr.heap.size
  · exact Nat.le_of_not_lt (fun c => nx x c (hin x hx hlt))
  · omega

theorem gt_whole {w wr : World} {gy : Nat} {VY : Nat → Value} {SB : List St} {v : Value} {l : List Pt} (h : Gt gy VY (gath g0 SB) wr) (hn : ∀ k, OB gy VY k → w.heap.size ≤ k ∧ v.ownBlock ≠ some k) (ho : POwn wr w.heap.size v l) (hl : SB.length ≤ 100000) (hT : Tab w) (hb : Below w.heap.size w wr) :
    Calls Tryd.prog 95 #[.pointer (some ⟨gy, 0, none⟩)] wr fun e w' => ∃ u, e = .returned (.tuple #[u, .bool (goodO (gath g0 SB).out)]) ∧ POwn w' w.heap.size u (ouG SB) ∧ POwn w' w.heap.size v l ∧ Below w.heap.size w w' := by
  have lt0 := hT.lt
  have nx : ∀ k, k < w.heap.size → ¬ OB gy VY k := fun k hk c => by have := (hn k c).1; omega
  have hgb0 := gb_gath SB g0 0 gb0
  have hgs0 := gs_gath SB g0 0 gb0 (fun p hp => by simp [g0] at hp)
  refine (whole_any h hgb0 hgs0 (by omega) (hT.block (hb.block _ lt0)) (nx _ lt0)).mono ?_
  rintro e w' ⟨u, rfl, ⟨O', mv'⟩, hu, hin⟩
  have hsz := hb.size
  refine ⟨u, rfl, own_raise hu (fun x hx => ?_), own_move ho (fun x hx => mv'.same x (ho.lt x hx).2 (fun c => (hn x c).2 hx)), hb.trans (mv'.below hsz nx)⟩
  by_cases hlt : x < wr.heap.size
  · exact Nat.le_of_not_lt (fun c => nx x c (hin x hx hlt))
  · omega

theorem g2_new {w1 W : World} {t : TypeId} (hb : Below ((w1.alloc (.cells #[.slice none 0 0, .int .i64 0, .slice none 0 0, .slice none 0 0] t)).alloc (.cells #[.slice none 0 0, .int .i64 0, .slice none 0 0, .slice none 0 0] t)).heap.size ((w1.alloc (.cells #[.slice none 0 0, .int .i64 0, .slice none 0 0, .slice none 0 0] t)).alloc (.cells #[.slice none 0 0, .int .i64 0, .slice none 0 0, .slice none 0 0] t)) W) : G2 W w1.heap.size (w1.heap.size + 1) [] [] W := by
  have hx := gt_new w1 t
  have hy := gt_new (w1.alloc (.cells #[.slice none 0 0, .int .i64 0, .slice none 0 0, .slice none 0 0] t)) t
  have hx2 := hx.up ((Below.refl _ _).alloc (Nat.le_refl _) (.cells #[.slice none 0 0, .int .i64 0, .slice none 0 0, .slice none 0 0] t))
  rw [World.size_alloc] at hy
  refine ⟨_, _, hx2.up hb, hy.up hb, fun k a b => by have := ob_new a; have := ob_new b; omega, rfl, rfl, rfl, Nat.le_refl _, fun _ _ _ => rfl, fun k _ c => c.elim (fun d => .inl (ob_new d)) (fun d => .inr (ob_new d))⟩
/-- The table of what is left of a step beside another one. -/
def tbV : Array Value := #[.nilFunc, .nilFunc, .func (.func 119) #[] #[], .nilFunc, .nilFunc, .func (.func 93) #[] #[], .nilFunc, .func (.func 120) #[] #[],
  .func (.func 93) #[] #[], .nilFunc, .nilFunc, .nilFunc, .nilFunc, .func (.func 93) #[] #[], .nilFunc, .func (.func 120) #[] #[]]

set_option maxRecDepth 100000 in
set_option maxHeartbeats 2000000 in
theorem behind_any (w : World) : Calls Tryd.prog 101 #[] w fun e w' => e = .returned (.agg tbV) ∧ Below w.heap.size w w' := by
  unfold tbV
  go_enter Tryd.func101, Tryd.ntmps101
  go_wp2
  exact bodyPost_ret (results_cell_row rfl _ _ w.heap.size _ _ _ _ rfl (heap_alloc_new w _) Tryd.underlying149 rfl (by kernel_rfl)) rfl ⟨rfl, (Below.refl _ _).alloc (Nat.le_refl _) _⟩
end Go.Proofs.YtbooongkbninhaaDoor
