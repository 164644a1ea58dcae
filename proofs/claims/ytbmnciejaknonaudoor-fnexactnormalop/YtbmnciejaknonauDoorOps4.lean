/- The plain mathematics of chapter 3, on: what a gathering takes and makes, and when it is good. -/
import Derived.Test.YtbmnciejaknonauDoorOps3
namespace Go.Proofs.YtbmnciejaknonauDoor.Doc1

def tkG (G : Gs) : Int := tkL G.parts + (G.keep : Int) + (G.drop.length : Int)
def mkG (G : Gs) : Int := mkL G.parts + (G.keep : Int) + (G.put.length : Int)
theorem tkL_app (a b : List Pt) : tkL (a ++ b) = tkL a + tkL b := by simp [tkL]
theorem mkL_app (a b : List Pt) : mkL (a ++ b) = mkL a + mkL b := by simp [mkL]
theorem ba_sz (b : List UInt8) : (ba b).size = b.length := by rw [sz_list, ba_list]
theorem tkmk_kp (n : Nat) : tkL [kp n] = n ∧ mkL [kp n] = n := by simp [tkL, mkL, tk1, mk1, kp, ba_sz]
theorem tkmk_pp (b : List UInt8) : tkL [pp b] = 0 ∧ mkL [pp b] = b.length := by simp [tkL, mkL, tk1, mk1, pp, ba_sz]
theorem tkmk_dp (b : List UInt8) : tkL [dp b] = b.length ∧ mkL [dp b] = 0 := by simp [tkL, mkL, tk1, mk1, dp, ba_sz]
theorem endK_sums (G : Gs) : tkL G.endK.parts = tkL G.parts + G.keep ∧ mkL G.endK.parts = mkL G.parts + G.keep := by
  unfold Gs.endK
  rw [tkL_app, mkL_app]
  by_cases h : 0 < G.keep
  · rw [if_pos h, (tkmk_kp _).1, (tkmk_kp _).2]; simp
  · rw [if_neg h]; simp [tkL, mkL]; omega
theorem endC_sums (G : Gs) : tkL G.endC.parts = tkL G.parts + G.drop.length ∧ mkL G.endC.parts = mkL G.parts + G.put.length := by
  unfold Gs.endC
  rw [tkL_app, mkL_app, tkL_app, mkL_app]
  by_cases hp : G.put = []
  · by_cases hd : G.drop = []
    · simp [hp, hd, tkL, mkL]
    · rw [if_pos hp, if_neg hd, (tkmk_dp _).1, (tkmk_dp _).2, hp]; simp [tkL, mkL]
  · by_cases hd : G.drop = []
    · rw [if_neg hp, if_pos hd, (tkmk_pp _).1, (tkmk_pp _).2, hd]; simp [tkL, mkL]
    · rw [if_neg hp, if_neg hd, (tkmk_dp _).1, (tkmk_dp _).2, (tkmk_pp _).1, (tkmk_pp _).2]; simp
/-- A step of one of the three kinds. -/
def sk (x : St) : Prop := x.k = 1 ∨ x.k = 2 ∨ x.k = 3
theorem add_sums (G : Gs) (x : St) (hx : sk x) : tkG (G.add x) = tkG G + (if x.k = 2 then 0 else 1) ∧ mkG (G.add x) = mkG G + (if x.k = 3 then 0 else 1) := by
  have hk := endK_sums G
  have hc := endC_sums G
  unfold tkG mkG Gs.add
  rcases hx with h | h | h
  · simp [h]; omega
  · simp [h]; omega
  · simp [h]; omega
def ctk (l : List St) : Nat := (l.filter (fun x => decide (x.k ≠ 2))).length
def cmk (l : List St) : Nat := (l.filter (fun x => decide (x.k ≠ 3))).length
theorem gath_sums : ∀ (l : List St) (G : Gs), (∀ x ∈ l, sk x) → tkG (gath G l) = tkG G + ctk l ∧ mkG (gath G l) = mkG G + cmk l
  | [], G, _ => by simp [gath, ctk, cmk]
  | x :: l, G, h => by
    have ih := gath_sums l (G.add x) (fun y hy => h y (List.mem_cons_of_mem _ hy))
    have ha := add_sums G x (h x (List.mem_cons_self))
    have e : gath G (x :: l) = gath (G.add x) l := rfl
    rw [e, ih.1, ih.2, ha.1, ha.2]
    unfold ctk cmk
    by_cases h2 : x.k = 2
    · have h3 : x.k ≠ 3 := by omega
      simp [h2]; omega
    · by_cases h3 : x.k = 3
      · simp [h3]; omega
      · simp [h2, h3]; omega
theorem out_sums (G : Gs) : tkL G.out = tkG G ∧ mkL G.out = mkG G := by
  unfold Gs.out tkG mkG
  have h1 := endC_sums G.endK
  have h2 := endK_sums G
  rw [h1.1, h1.2, h2.1, h2.2]
  exact ⟨rfl, rfl⟩

/-- A part that a gathering may make. -/
def gq (p : Pt) : Prop := (∃ n, 0 < n ∧ p = kp n) ∨ (∃ b, b ≠ [] ∧ allOk b = true ∧ p = pp b) ∨ (∃ b, b ≠ [] ∧ allOk b = true ∧ p = dp b)
theorem gq_pos {p : Pt} (h : gq p) : 0 ≤ tk1 p ∧ 0 ≤ mk1 p := by
  rcases h with ⟨n, _, rfl⟩ | ⟨b, _, _, rfl⟩ | ⟨b, _, _, rfl⟩ <;> simp [tk1, mk1, kp, pp, dp] <;> omega
theorem gq_gp {p : Pt} (h : gq p) (h1 : tk1 p ≤ 300) (h2 : mk1 p ≤ 300) : gp p = true := by
  rcases h with ⟨n, hn, rfl⟩ | ⟨b, hb, ho, rfl⟩ | ⟨b, hb, ho, rfl⟩
  · have : (n : Int) ≤ 300 := by simp [tk1, kp, ba_sz] at h1; omega
    have hk : (kp n).keep = (n : Int) := rfl
    unfold gp
    rw [if_pos (by rw [hk]; omega), kpP, kpD, hk]
    simp
    omega
  · have : b.length ≤ 300 := by simp [mk1, pp, ba_sz] at h2; omega
    unfold gp
    rw [ppP, ppD]
    simp [pp, hb, good, ho, this]
  · have : b.length ≤ 300 := by simp [tk1, dp, ba_sz] at h1; omega
    unfold gp
    rw [dpP, dpD]
    simp [dp, hb, good, ho, this]
structure GQ (G : Gs) : Prop where
  p : ∀ q ∈ G.parts, gq q
  a : allOk G.put = true
  d : allOk G.drop = true
theorem gq0 : GQ g0 := ⟨by simp [g0], rfl, rfl⟩
theorem gq_endK {G : Gs} (h : GQ G) : ∀ q ∈ G.endK.parts, gq q := by
  intro q hq
  unfold Gs.endK at hq
  rcases List.mem_append.1 hq with c | c
  · exact h.p q c
  · split at c
    · rename_i h0; simp at c; exact .inl ⟨_, h0, c⟩
    · cases c
theorem gq_endC {G : Gs} (h : GQ G) : ∀ q ∈ G.endC.parts, gq q := by
  intro q hq
  unfold Gs.endC at hq
  rcases List.mem_append.1 hq with c | c
  · exact h.p q c
  · rcases List.mem_append.1 c with c | c
    · split at c
      · cases c
      · rename_i h0; simp at c; exact .inr (.inl ⟨_, h0, h.a, c⟩)
    · split at c
      · cases c
      · rename_i h0; simp at c; exact .inr (.inr ⟨_, h0, h.d, c⟩)
/-- A step of one of the three kinds, whose byte may stand in a text. -/
def so (x : St) : Prop := sk x ∧ (x.k ≠ 1 → okC x.c = true)
theorem gq_add {G : Gs} (h : GQ G) {x : St} (hx : so x) : GQ (G.add x) := by
  obtain ⟨hk, hc⟩ := hx
  unfold Gs.add
  rcases hk with e | e | e
  · rw [if_pos e]; exact ⟨gq_endC h, rfl, rfl⟩
  · rw [if_neg (by omega), if_pos e]
    have := hc (by omega)
    exact ⟨gq_endK h, by have := h.a; simp [allOk] at *; exact ⟨this, by assumption⟩, h.d⟩
  · rw [if_neg (by omega), if_neg (by omega), if_pos e]
    have := hc (by omega)
    exact ⟨gq_endK h, h.a, by have := h.d; simp [allOk] at *; exact ⟨this, by assumption⟩⟩
theorem gq_gath : ∀ (l : List St) (G : Gs), GQ G → (∀ x ∈ l, so x) → GQ (gath G l)
  | [], _, h, _ => h
  | x :: l, G, h, hl => gq_gath l (G.add x) (gq_add h (hl x (List.mem_cons_self))) (fun y hy => hl y (List.mem_cons_of_mem _ hy))
theorem gq_out {G : Gs} (h : GQ G) : ∀ q ∈ G.out, gq q := gq_endC (G := G.endK) ⟨gq_endK h, h.a, h.d⟩
theorem sums_mem : ∀ (l : List Pt), (∀ q ∈ l, gq q) → (0 ≤ tkL l ∧ 0 ≤ mkL l) ∧ ∀ p ∈ l, tk1 p ≤ tkL l ∧ mk1 p ≤ mkL l
  | [], _ => ⟨by simp [tkL, mkL], fun p hp => by cases hp⟩
  | q :: l, h => by
    obtain ⟨⟨a, b⟩, c⟩ := sums_mem l (fun x hx => h x (List.mem_cons_of_mem _ hx))
    have hq := gq_pos (h q (List.mem_cons_self))
    have e1 : tkL (q :: l) = tk1 q + tkL l := by simp [tkL]
    have e2 : mkL (q :: l) = mk1 q + mkL l := by simp [mkL]
    rw [e1, e2]
    refine ⟨⟨by omega, by omega⟩, fun p hp => ?_⟩
    rcases List.mem_cons.1 hp with rfl | hp
    · omega
    · have := c p hp; omega
/-- When what was gathered is a good change. -/
theorem goodO_gath (l : List St) (h : ∀ x ∈ l, so x) : goodO (gath g0 l).out = decide ((gath g0 l).out.length ≤ 60 ∧ ctk l ≤ 300 ∧ cmk l ≤ 300) := by
  have hs := gath_sums l g0 (fun x hx => (h x hx).1)
  have ho := out_sums (gath g0 l)
  have e0 : tkG g0 = 0 ∧ mkG g0 = 0 := by simp [tkG, mkG, g0, tkL, mkL]
  rw [e0.1, e0.2] at hs
  have e1 : tkL (gath g0 l).out = ctk l := by rw [ho.1, hs.1]; simp
  have e2 : mkL (gath g0 l).out = cmk l := by rw [ho.2, hs.2]; simp
  have hq := gq_out (gq_gath l g0 gq0 h)
  by_cases hl : (gath g0 l).out.length ≤ 60
  · by_cases h3 : ctk l ≤ 300 ∧ cmk l ≤ 300
    · have hall : (gath g0 l).out.all gp = true := List.all_eq_true.2 (fun p hp => by
        have := (sums_mem _ hq).2 p hp
        exact gq_gp (hq p hp) (by rw [e1] at this; omega) (by rw [e2] at this; omega))
      rw [goodO_sums hl hall, e1, e2]
      congr 1
      simp [hl]; omega
    · rw [decide_eq_false (fun c => h3 c.2)]
      unfold goodO
      rw [e1, e2]
      simp only [Bool.and_eq_false_iff, decide_eq_false_iff_not]
      rcases Classical.not_and_iff_not_or_not.1 h3 with c | c
      · exact .inr (.inr (.inl (by omega)))
      · exact .inr (.inr (.inr (by omega)))
  · rw [decide_eq_false (fun c => hl c.1), goodO_no_len hl]

/-- The steps of good parts. -/
theorem stp_so {p : Pt} (h : pk p ≠ 0) : ∀ x ∈ stp p, so x := by
  have hg : (p.put.data.toList ≠ [] → allOk p.put.data.toList = true) ∧ (p.drop.data.toList ≠ [] → allOk p.drop.data.toList = true) := by
    unfold pk at h
    split at h
    · rename_i hh; exact ⟨fun c => absurd hh.1 c, fun c => absurd hh.2.1 c⟩
    · split at h
      · rename_i hh
        have := hh.2.2.2
        unfold good at this
        simp only [Bool.and_eq_true] at this
        exact ⟨fun _ => this.1, fun c => absurd hh.2.1 c⟩
      · split at h
        · rename_i hh
          have := hh.2.2.2
          unfold good at this
          simp only [Bool.and_eq_true] at this
          exact ⟨fun c => absurd hh.2.1 c, fun _ => this.1⟩
        · exact absurd rfl h
  intro x hx
  unfold stp at hx
  rcases List.mem_append.1 hx with c | c
  · have := List.eq_of_mem_replicate c
    rw [this]
    exact ⟨.inl rfl, fun c => absurd rfl c⟩
  · rcases List.mem_append.1 c with c | c
    · obtain ⟨b, hb, rfl⟩ := List.mem_map.1 c
      have := hg.1 (fun e => by rw [e] at hb; cases hb)
      exact ⟨.inr (.inl rfl), fun _ => List.all_eq_true.1 this b hb⟩
    · obtain ⟨b, hb, rfl⟩ := List.mem_map.1 c
      have := hg.2 (fun e => by rw [e] at hb; cases hb)
      exact ⟨.inr (.inr rfl), fun _ => List.all_eq_true.1 this b hb⟩
theorem stL_so {l : List Pt} (h : ∀ p ∈ l, pk p ≠ 0) : ∀ x ∈ stL l, so x := by
  intro x hx
  obtain ⟨p, hp, hx⟩ := List.mem_flatMap.1 hx
  exact stp_so (h p hp) x hx
theorem keep_nn {p : Pt} (h : pk p ≠ 0) : 0 ≤ p.keep := by
  unfold pk at h
  split at h
  · rename_i hh; omega
  · split at h
    · rename_i hh; omega
    · split at h
      · rename_i hh; omega
      · exact absurd rfl h
theorem filter_map_all {f : UInt8 → St} {q : St → Bool} (b : List UInt8) (h : ∀ c, q (f c) = true) : ((b.map f).filter q).length = b.length := by
  rw [List.filter_eq_self.2 (fun x hx => by obtain ⟨c, _, rfl⟩ := List.mem_map.1 hx; exact h c), List.length_map]
theorem filter_map_none {f : UInt8 → St} {q : St → Bool} (b : List UInt8) (h : ∀ c, q (f c) = false) : ((b.map f).filter q).length = 0 := by
  rw [List.filter_eq_nil_iff.2 (fun x hx => by obtain ⟨c, _, rfl⟩ := List.mem_map.1 hx; rw [h c]; simp)]; rfl
theorem stp_sums {p : Pt} (h : pk p ≠ 0) : (ctk (stp p) : Int) = tk1 p ∧ (cmk (stp p) : Int) = mk1 p := by
  have hk := keep_nn h
  have e : ((p.keep.toNat : Nat) : Int) = p.keep := by omega
  unfold ctk cmk stp tk1 mk1
  simp only [List.filter_append, List.length_append, List.filter_replicate]
  rw [filter_map_none (f := fun c => (⟨2, c⟩ : St)) (q := fun x => decide (x.k ≠ 2)) _ (fun c => by simp), filter_map_all (f := fun c => (⟨3, c⟩ : St)) (q := fun x => decide (x.k ≠ 2)) _ (fun c => by simp),
    filter_map_all (f := fun c => (⟨2, c⟩ : St)) (q := fun x => decide (x.k ≠ 3)) _ (fun c => by simp), filter_map_none (f := fun c => (⟨3, c⟩ : St)) (q := fun x => decide (x.k ≠ 3)) _ (fun c => by simp)]
  rw [sz_list, sz_list]
  simp
  omega
theorem stL_sums : ∀ (l : List Pt), (∀ p ∈ l, pk p ≠ 0) → (ctk (stL l) : Int) = tkL l ∧ (cmk (stL l) : Int) = mkL l
  | [], _ => by simp [stL, ctk, cmk, tkL, mkL]
  | p :: l, h => by
    have ih := stL_sums l (fun x hx => h x (List.mem_cons_of_mem _ hx))
    have hp := stp_sums (h p (List.mem_cons_self))
    have e : stL (p :: l) = stp p ++ stL l := by simp [stL]
    have e1 : tkL (p :: l) = tk1 p + tkL l := by simp [tkL]
    have e2 : mkL (p :: l) = mk1 p + mkL l := by simp [mkL]
    rw [e, e1, e2]
    unfold ctk cmk at *
    simp only [List.filter_append, List.length_append]
    omega
theorem goodO_pk {l : List Pt} (h : goodO l = true) : ∀ p ∈ l, pk p ≠ 0 := by
  unfold goodO at h
  simp only [Bool.and_eq_true] at h
  intro p hp
  have := List.all_eq_true.1 h.2.1 p hp
  rw [gp_pk] at this
  exact of_decide_eq_true this
theorem goodO_le {l : List Pt} (h : goodO l = true) : l.length ≤ 60 ∧ tkL l ≤ 300 ∧ mkL l ≤ 300 := by
  unfold goodO at h
  simp only [Bool.and_eq_true, decide_eq_true_eq] at h
  exact ⟨h.1, h.2.2.1, h.2.2.2⟩
/-- How great a gathering grows. -/
theorem st_len {l : List Pt} (h : goodO l = true) : (stL l).length ≤ 600 := by
  have hs := stL_sums l (goodO_pk h)
  have hl := goodO_le h
  have key : ∀ a : List St, a.length ≤ ctk a + cmk a := by
    intro a
    induction a with
    | nil => simp
    | cons x a ih =>
      unfold ctk cmk at *
      simp only [ne_eq, decide_not] at ih ⊢
      by_cases h2 : x.k = 2
      · simp [h2]; omega
      · by_cases h3 : x.k = 3
        · simp [h3]; omega
        · simp [h2, h3]; omega
  have := key (stL l)
  omega
end Go.Proofs.YtbmnciejaknonauDoor.Doc1
