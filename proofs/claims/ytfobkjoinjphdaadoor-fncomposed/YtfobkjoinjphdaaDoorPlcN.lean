/- The contract of impl.MovePlace. The plain mathematics of places behind a change: they keep their order, the ends stay the ends, and a byte that is kept is found. The contracts that the law FnPlaces needs: numberOf, l3Sizes of any row, MovePlace of rows of one's own, the drawing of a change and a place. -/
import Derived.Test.YtfobkjoinjphdaaDoorBoxes
import Derived.Test.YtfobkjoinjphdaaDoorOpW36
import Derived.Test.YtfobkjoinjphdaaDoorMoveSZ
import Derived.Test.YtfobkjoinjphdaaDoorMoveM
import Derived.Test.YtfobkjoinjphdaaDoorOwnM
import Derived.Test.YtfobkjoinjphdaaDoorDrwN
namespace Go.Proofs.YtfobkjoinjphdaaDoor
open Go.RowKit Go.Shelf
open Doc1

attribute [local go_sem] Oper.semAt_some

/-- Four boxes laid, whatever their types. -/
theorem four_boxes {Φ : World → Prop} {W : World} {a b c d : Value} {t u v x : TypeId}
    (h : ∀ W2 : World, Below W.heap.size W W2 → W2.heap.size = W.heap.size + 4 → Bxd W2 W.heap.size a → Bxd W2 (W.heap.size + 1) b → Bxd W2 (W.heap.size + 2) c → Bxd W2 (W.heap.size + 3) d → Φ W2) :
    Φ ((((W.alloc (.cells #[a] t)).alloc (.cells #[b] u)).alloc (.cells #[c] v)).alloc (.cells #[d] x)) := by
  refine three_boxes (Φ := fun X => Φ (X.alloc (.cells #[d] x))) ?_
  intro X hb hs b1 b2 b3
  have b4 := bxd_new X d x
  rw [hs] at b4
  have hu : Below X.heap.size X (X.alloc (.cells #[d] x)) := (Below.refl _ _).alloc (Nat.le_refl _) _
  exact h _ (hb.trans (hu.mono hb.size)) (by simp [hs]) (b1.up hu) (b2.up hu) (b3.up hu) b4

/-- The place between two rounds. -/
def MJ (Ba Bt Bh Bp n : Nat) (pre : List St) (O : Nat → Prop) (W : World) : Prop :=
  ∃ t a p : Nat, pre.foldl (mvT n) mv0 = ⟨t, a, p, false⟩ ∧ (Bxd W Ba (.int .i64 (n : Int)) ∧ Bxd W Bt (.int .i64 (t : Int)) ∧ Bxd W Bh (.int .i64 (a : Int)) ∧ Bxd W Bp (.int .i64 (p : Int))) ∧ O = fun k => k ∈ [Ba, Bt, Bh, Bp]
theorem mJ_held (Ba Bt Bh Bp n : Nat) : Held (MJ Ba Bt Bh Bp n) := by
  refine ⟨?_, ?_⟩
  · rintro pre O W ⟨t, a, p, _, ⟨h1, h2, h3, h4⟩, rfl⟩ k hk
    simp only [List.mem_cons, List.not_mem_nil, or_false] at hk
    rcases hk with rfl | rfl | rfl | rfl
    · exact h1.lt
    · exact h2.lt
    · exact h3.lt
    · exact h4.lt
  · rintro pre O W W' ⟨t, a, p, he, ⟨h1, h2, h3, h4⟩, rfl⟩ hs hk
    exact ⟨t, a, p, he, ⟨h1.block (hk _ (by simp)), h2.block (hk _ (by simp)), h3.block (hk _ (by simp)), h4.block (hk _ (by simp))⟩, rfl⟩
/-- When a round has left: the place is passed. -/
def MX (Bh Bp n : Nat) (c : Code) (pre : List St) (O : Nat → Prop) (W : World) : Prop :=
  c = .exit 0 ∧ ∃ t a p : Nat, pre.foldl (mvT n) mv0 = ⟨t, a, p, true⟩ ∧ (Bxd W Bh (.int .i64 (a : Int)) ∧ Bxd W Bp (.int .i64 (p : Int))) ∧ O = fun k => k ∈ [Bh, Bp]
theorem mX_held (Bh Bp n : Nat) (c : Code) : Held (MX Bh Bp n c) := by
  refine ⟨?_, ?_⟩
  · rintro pre O W ⟨_, t, a, p, _, ⟨h1, h2⟩, rfl⟩ k hk
    simp only [List.mem_cons, List.not_mem_nil, or_false] at hk
    rcases hk with rfl | rfl
    · exact h1.lt
    · exact h2.lt
  · rintro pre O W W' ⟨hc, t, a, p, he, ⟨h1, h2⟩, rfl⟩ hs hk
    exact ⟨hc, t, a, p, he, ⟨h1.block (hk _ (by simp)), h2.block (hk _ (by simp))⟩, rfl⟩
theorem mv_pre {n : Nat} {pre xs : List St} (h : pre <+: xs) (he : (pre.foldl (mvT n) mv0).e = true) : xs.foldl (mvT n) mv0 = pre.foldl (mvT n) mv0 := by
  obtain ⟨r, rfl⟩ := h
  rw [List.foldl_append, mv_end n r _ he]
theorem mv_snoc (n : Nat) (pre : List St) (x : St) : (pre ++ [x]).foldl (mvT n) mv0 = mvT n (pre.foldl (mvT n) mv0) x := by rw [List.foldl_append]; rfl
theorem mv_bd (n : Nat) : ∀ (pre : List St) (s : MvS), (pre.foldl (mvT n) s).t ≤ s.t + pre.length ∧ (pre.foldl (mvT n) s).a + (pre.foldl (mvT n) s).p ≤ s.a + s.p + pre.length
  | [], s => by simp
  | x :: pre, s => by
    have ih := mv_bd n pre (mvT n s x)
    rw [List.foldl_cons, List.length_cons]
    have : (mvT n s x).t ≤ s.t + 1 ∧ (mvT n s x).a + (mvT n s x).p ≤ s.a + s.p + 1 := by
      unfold mvT
      split
      · omega
      · split
        · simp; omega
        · split
          · split <;> simp <;> omega
          · simp
    omega

end Go.Proofs.YtfobkjoinjphdaaDoor

namespace Go.Proofs.YtfobkjoinjphdaaDoor.Doc1

theorem mv_le {n m : Nat} (h : n ≤ m) : ∀ (L : List St) (s t : MvS), (s = t ∨ (s.e = true ∧ s.a ≤ t.a ∧ s.a + s.p ≤ t.a + t.p)) → (L.foldl (mvT n) s).a ≤ (L.foldl (mvT m) t).a ∧ (L.foldl (mvT n) s).a + (L.foldl (mvT n) s).p ≤ (L.foldl (mvT m) t).a + (L.foldl (mvT m) t).p
  | [], s, t, hs => by
    rcases hs with rfl | ⟨_, h1, h2⟩
    · exact ⟨Nat.le_refl _, Nat.le_refl _⟩
    · exact ⟨h1, h2⟩
  | x :: L, s, t, hs => by
    rw [List.foldl_cons, List.foldl_cons]
    refine mv_le h L _ _ ?_
    rcases hs with rfl | ⟨he, h1, h2⟩
    · obtain ⟨st, sa, sp, se⟩ := s
      cases se with
      | true => exact .inl (by simp [mvT])
      | false =>
        unfold mvT
        simp only [Bool.false_eq_true, if_false]
        split
        · exact .inl rfl
        · split
          · by_cases hn : n ≤ st
            · rw [if_pos hn]
              by_cases hm : m ≤ st
              · rw [if_pos hm]; exact .inl rfl
              · rw [if_neg hm]; exact .inr ⟨rfl, by simp only; omega, by simp only; omega⟩
            · rw [if_neg hn, if_neg (by omega)]; exact .inl rfl
          · exact .inl rfl
    · refine .inr ?_
      have e1 : mvT n s x = s := by unfold mvT; rw [if_pos he]
      rw [e1]
      refine ⟨he, ?_⟩
      obtain ⟨tt, ta, tp, te⟩ := t
      simp only at h1 h2
      cases te with
      | true => simp [mvT]; omega
      | false =>
        unfold mvT
        simp only [Bool.false_eq_true, if_false]
        split
        · simp only; omega
        · split
          · split <;> (simp only; omega)
          · simp only; omega
theorem mv_first : ∀ (L : List St) (s : MvS), s.a = 0 → (L.foldl (mvT 0) s).a = 0
  | [], _, h => h
  | x :: L, s, h => by
    rw [List.foldl_cons]
    refine mv_first L _ ?_
    unfold mvT
    split
    · exact h
    · split
      · exact h
      · split
        · rw [if_pos (Nat.zero_le _)]; exact h
        · exact h
/-- As long as the place is not passed. -/
theorem mv_on (n : Nat) : ∀ (L : List St) (s : MvS), s.e = false → (∀ x ∈ L, sk x) → s.t + ctk L ≤ n → (L.foldl (mvT n) s).e = false ∧ (L.foldl (mvT n) s).t = s.t + ctk L ∧ (L.foldl (mvT n) s).a + (L.foldl (mvT n) s).p = s.a + s.p + cmk L
  | [], s, he, _, _ => ⟨he, by simp [ctk], by simp [cmk]⟩
  | ⟨k, c⟩ :: L, ⟨t, a, p, e⟩, he, hk, hn => by
    simp only at he
    subst he
    rw [List.foldl_cons]
    have hs := hk ⟨k, c⟩ (by simp)
    have hk' : ∀ x ∈ L, sk x := fun x hx => hk x (by simp [hx])
    rcases hs with q | q | q <;> (simp only at q; subst q)
    · have e1 : ctk ((⟨1, c⟩ : St) :: L) = ctk L + 1 := by simp [ctk]
      have e2 : cmk ((⟨1, c⟩ : St) :: L) = cmk L + 1 := by simp [cmk]
      rw [e1] at hn
      simp only at hn
      have em : mvT n ⟨t, a, p, false⟩ ⟨1, c⟩ = ⟨t + 1, a + (p + 1), 0, false⟩ := by
        unfold mvT
        simp only [Bool.false_eq_true, if_false, Nat.reduceEqDiff, if_true]
        rw [if_neg (by omega)]
      rw [em, e1, e2]
      obtain ⟨r1, r2, r3⟩ := mv_on n L ⟨t + 1, a + (p + 1), 0, false⟩ rfl hk' (by simp only; omega)
      simp only at r2 r3
      exact ⟨r1, by simp only; omega, by simp only; omega⟩
    · have e1 : ctk ((⟨2, c⟩ : St) :: L) = ctk L := by simp [ctk]
      have e2 : cmk ((⟨2, c⟩ : St) :: L) = cmk L + 1 := by simp [cmk]
      rw [e1] at hn
      simp only at hn
      have em : mvT n ⟨t, a, p, false⟩ ⟨2, c⟩ = ⟨t, a, p + 1, false⟩ := by simp [mvT]
      rw [em, e1, e2]
      obtain ⟨r1, r2, r3⟩ := mv_on n L ⟨t, a, p + 1, false⟩ rfl hk' (by simp only; omega)
      simp only at r2 r3
      exact ⟨r1, by simp only; omega, by simp only; omega⟩
    · have e1 : ctk ((⟨3, c⟩ : St) :: L) = ctk L + 1 := by simp [ctk]
      have e2 : cmk ((⟨3, c⟩ : St) :: L) = cmk L := by simp [cmk]
      rw [e1] at hn
      simp only at hn
      have em : mvT n ⟨t, a, p, false⟩ ⟨3, c⟩ = ⟨t + 1, a, p, false⟩ := by simp [mvT]
      rw [em, e1, e2]
      obtain ⟨r1, r2, r3⟩ := mv_on n L ⟨t + 1, a, p, false⟩ rfl hk' (by simp only; omega)
      simp only at r2 r3
      exact ⟨r1, by simp only; omega, by simp only; omega⟩
theorem mvR_le (l : List Pt) {n m : Nat} (h : n ≤ m) : (mvR l n).1 ≤ (mvR l m).1 ∧ (mvR l n).2 ≤ (mvR l m).2 := mv_le h (stL l) mv0 mv0 (.inl rfl)
theorem mvR_zero (l : List Pt) : (mvR l 0).1 = 0 := mv_first (stL l) mv0 rfl
theorem mvR_last {l : List Pt} (hp : ∀ p ∈ l, pk p ≠ 0) {n : Nat} (hn : (n : Int) = tkL l) : ((mvR l n).2 : Int) = mkL l := by
  obtain ⟨s1, s2⟩ := stL_sums l hp
  obtain ⟨_, _, h3⟩ := mv_on n (stL l) mv0 rfl (fun x hx => (stL_so hp x hx).1) (by show 0 + _ ≤ _; omega)
  have e : (mvR l n).2 = cmk (stL l) := by
    unfold mvR foldP
    simp only
    rw [h3]
    simp [mv0]
  rw [e]; exact s2
/-- A byte that is kept is found at its place. -/
theorem mv_kept {pre post : List St} {c : UInt8} {n : Nat} (hk : ∀ x ∈ pre, sk x) (hn : ctk pre = n) : ((pre ++ (⟨1, c⟩ : St) :: post).foldl (mvT n) mv0).a + ((pre ++ (⟨1, c⟩ : St) :: post).foldl (mvT n) mv0).p = cmk pre := by
  rw [List.foldl_append, List.foldl_cons]
  obtain ⟨h1, h2, h3⟩ := mv_on n pre mv0 rfl hk (by show 0 + _ ≤ _; omega)
  generalize pre.foldl (mvT n) mv0 = s at *
  obtain ⟨t, a, p, e⟩ := s
  simp only at h1 h2 h3
  subst h1
  have em : mvT n ⟨t, a, p, false⟩ ⟨1, c⟩ = ⟨t, a, p, true⟩ := by
    unfold mvT
    simp only [Bool.false_eq_true, if_false, Nat.reduceEqDiff, if_true]
    rw [if_pos (by rw [h2]; show n ≤ 0 + _; omega)]
  rw [em, mv_end n post _ rfl]
  simp only
  rw [h3]
  simp [mv0]
theorem stL_apps (a b : List Pt) : stL (a ++ b) = stL a ++ stL b := by simp [stL]
/-- In the normal change: the place of a kept byte. -/
theorem mvR_kept {l : List Pt} (hp : ∀ p ∈ l, pk p ≠ 0) (hq : ∀ p ∈ normL l, pk p ≠ 0) {k i : Nat} (hk : k < (normL l).length) (hi : (i : Int) < (normL l)[k].keep) {n : Nat} (hn : tkL ((normL l).take k) + i = n) :
    ((mvR l n).2 : Int) = mkL ((normL l).take k) + i ∧ (normL l)[k].put.size = 0 := by
  have hmem := List.getElem_mem hk
  have hgq := gq_norm hp _ hmem
  have hkp : ∃ m, (normL l)[k] = kp m := by
    rcases hgq with ⟨m, hm, e⟩ | ⟨b, hb, _, e⟩ | ⟨b, hb, _, e⟩
    · exact ⟨m, e⟩
    · exfalso; rw [e] at hi; simp [pp] at hi; omega
    · exfalso; rw [e] at hi; simp [dp] at hi; omega
  obtain ⟨m, hm⟩ := hkp
  rw [hm] at hi ⊢
  have him : i < m := by simp [kp] at hi; exact hi
  refine ⟨?_, by show (ba []).size = 0; rfl⟩
  have hsplit : normL l = (normL l).take k ++ (normL l)[k] :: (normL l).drop (k + 1) := by
    rw [List.getElem_cons_drop]; exact (List.take_append_drop k _).symm
  have hst : stL (normL l) = (stL ((normL l).take k) ++ List.replicate i (⟨1, 0⟩ : St)) ++ (⟨1, 0⟩ : St) :: (List.replicate (m - i - 1) ⟨1, 0⟩ ++ stL ((normL l).drop (k + 1))) := by
    conv => lhs; rw [hsplit, hm]
    rw [stL_apps]
    have e1 : stL (kp m :: (normL l).drop (k + 1)) = List.replicate m (⟨1, 0⟩ : St) ++ stL ((normL l).drop (k + 1)) := by
      simp [stL, stp, kp, ba]
    have e2 : List.replicate m (⟨1, 0⟩ : St) = List.replicate i ⟨1, 0⟩ ++ ((⟨1, 0⟩ : St) :: List.replicate (m - i - 1) ⟨1, 0⟩) := by
      rw [← List.replicate_succ, List.replicate_append_replicate]
      congr 1; omega
    rw [e1, e2]
    simp
  have hpk : ∀ p ∈ (normL l).take k, pk p ≠ 0 := fun p h => hq p (List.mem_of_mem_take h)
  obtain ⟨s1, s2⟩ := stL_sums _ hpk
  have c1 : ctk (stL ((normL l).take k) ++ List.replicate i (⟨1, 0⟩ : St)) = ctk (stL ((normL l).take k)) + i := by simp [ctk]
  have c2 : cmk (stL ((normL l).take k) ++ List.replicate i (⟨1, 0⟩ : St)) = cmk (stL ((normL l).take k)) + i := by simp [cmk]
  have hsk : ∀ x ∈ stL ((normL l).take k) ++ List.replicate i (⟨1, 0⟩ : St), sk x := by
    intro x hx
    rcases List.mem_append.1 hx with c | c
    · exact (stL_so hpk x c).1
    · rw [List.eq_of_mem_replicate c]; exact .inl rfl
  have key := mv_kept (c := 0) (post := List.replicate (m - i - 1) ⟨1, 0⟩ ++ stL ((normL l).drop (k + 1))) hsk (n := n) (by omega)
  rw [← hst, c2] at key
  have en : (mvR l n).2 = (mvR (normL l) n).2 := by
    unfold mvR
    rw [norm_fold (f := mvT n) (fun s c d => mvT_comm n s c d) (fun s c => mvT_keep n s c) hp mv0]
  rw [en]
  have e2 : (mvR (normL l) n).2 = cmk (stL ((normL l).take k)) + i := key
  rw [e2]
  omega
end Go.Proofs.YtfobkjoinjphdaaDoor.Doc1

namespace Go.Proofs.YtfobkjoinjphdaaDoor
open Go.RowKit
open Doc1

set_option maxRecDepth 100000 in
set_option maxHeartbeats 1000000 in
/-- A number of some bytes. -/
theorem numberOf_any {g : Nat} {C : Value} {w : World} (hco : CodeAt g C w) (hC : codeLen C ≤ 1048576) :
    Calls Tryd.prog 10 #[C] w fun e w' => ∃ x : Nat, e = .returned (.int .i64 (x : Int)) ∧ x < 1000003 ∧ Below w.heap.size w w' := by
  cases hco with
  | nil _ a cap =>
    go_enter Tryd.func10, Tryd.ntmps10
    go_wp2
    go_loopw [3, 8] (fun n i wr => n = .int .i64 0 ∧ i = .int .i64 0 ∧ Below w.heap.size w wr) (fun _ _ _ => 0)
    case atStart => exact ⟨rfl, rfl, Below.refl _ _⟩
    case round =>
      obtain ⟨rfl, rfl, hb⟩ := hrel
      go_wp2
      go_ret
      exact ⟨0, rfl, by omega, hb⟩
  | row _ b o len cap hb hl hc =>
    have hC : len ≤ 1048576 := hC
    have HC := hide hc
    clear hc
    go_enter Tryd.func10, Tryd.ntmps10
    go_wp2
    go_loopw [3, 8] (fun n i wr => ∃ x k : Nat, n = .int .i64 (x : Int) ∧ x < 1000003 ∧ i = .int .i64 (k : Int) ∧ k ≤ len ∧ wr = w) (fun _ i _ => len - (intOf i).toNat)
    case atStart => exact ⟨0, 0, rfl, by omega, rfl, Nat.zero_le _, rfl⟩
    case round =>
      obtain ⟨x, k, rfl, hx, rfl, hk, hw⟩ := hrel
      replace hw := hw.symm
      subst hw
      by_cases hlt : k < len
      · obtain ⟨y, hy0, hy1, hcy⟩ := HC.out k hlt
        obtain ⟨z, rfl⟩ : ∃ z : Nat, y = z := ⟨y.toNat, by omega⟩
        go_wp2
        go_roundw
        case rel => exact ⟨(31 * x + z) % 1000003, k + 1, by go_num, Nat.mod_lt _ (by decide), by go_num, by omega, by first | rfl | trivial⟩
        case measure => simp [intOf]; omega
      · go_wp2
        go_ret
        exact ⟨x, rfl, hx, Below.refl _ _⟩

theorem sm_sums : ∀ (l : List Pt), (∀ p ∈ l, smP p) → (-(l.length : Int) ≤ tkL l ∧ tkL l ≤ 601 * l.length) ∧ (-(l.length : Int) ≤ mkL l ∧ mkL l ≤ 601 * l.length)
  | [], _ => by simp [tkL, mkL]
  | p :: l, h => by
    have ih := sm_sums l (fun q hq => h q (by simp [hq]))
    have hp := h p (by simp)
    have e1 : tkL (p :: l) = tk1 p + tkL l := by simp [tkL]
    have e2 : mkL (p :: l) = mk1 p + mkL l := by simp [mkL]
    rw [e1, e2]
    unfold tk1 mk1
    obtain ⟨⟨h1, h2⟩, h3, h4⟩ := hp
    simp only [List.length_cons]
    omega
theorem own_row {w : World} {B : Nat} {v : Value} {l : List Pt} (h : POwn w B v l) (hT : Tab w) : ∃ aw g cap, v = .slice aw l.length cap ∧ (l.length ≤ cap ∧ cap ≤ maxLen) ∧ CLs w g (encP l) ∧ g < w.heap.size ∧ ∀ k, k < l.length → aw = some ⟨g, 0, none⟩ := by
  rcases Nat.eq_zero_or_pos l.length with h0 | h0
  · obtain rfl := List.eq_nil_of_length_eq_zero h0
    obtain ⟨a, cap, rfl, h1, h2⟩ := own_shp h
    exact ⟨a, 0, cap, rfl, ⟨h1, h2⟩, (fun j u hu => by simp [encP] at hu), hT.lt, fun k hk => absurd hk (by simp)⟩
  · obtain ⟨g, cap, rfl, hle, hm, hB, hlt, hc, hbk⟩ := own_cat h h0
    exact ⟨_, g, cap, rfl, ⟨hle, hm⟩, hc, hlt, fun _ _ => rfl⟩

set_option maxRecDepth 100000 in
set_option maxHeartbeats 2000000 in
theorem l3Sizes_own {w : World} {B : Nat} {v : Value} {l : List Pt} (h : POwn w B v l) (hT : Tab w) (hl : l.length ≤ 2586186935076) (hsm : ∀ p ∈ l, smP p) :
    Calls Tryd.prog 27 #[v] w fun e w' => e = .returned (.tuple #[.int .i64 (tkL l), .int .i64 (mkL l)]) ∧ Below w.heap.size w w' := by
  obtain ⟨aw, g, cap, rfl, hcp, hc, hg, hadr⟩ := own_row h hT
  have HC := hide hc
  have HA := hide hadr
  have HS := hide hsm
  clear h hc hadr hsm
  go_enter Tryd.func27, Tryd.ntmps27
  go_wp2
  go_loopw [4, 5, 10] (fun a b i wr => ∃ k : Nat, k ≤ l.length ∧ i = .int .i64 k ∧ a = .int .i64 (tkL (l.take k)) ∧ b = .int .i64 (mkL (l.take k)) ∧ Below w.heap.size w wr) (fun _ _ i _ => l.length - (intOf i).toNat)
  case atStart => exact ⟨0, by omega, rfl, rfl, rfl, Below.refl _ _⟩
  case round =>
    obtain ⟨k, hk, rfl, rfl, rfl, hbel⟩ := hrel
    by_cases hlt : k < l.length
    · obtain rfl := HA.out k hlt
      obtain ⟨c0, c1, c2⟩ := (HC.out.later hbel hg).ptat k hlt
      have b1 := sm_sums (l.take k) (fun p hp => HS.out p (List.mem_of_mem_take hp))
      have b2 := HS.out l[k] (List.getElem_mem hlt)
      have hl1 : (l.take k).length ≤ 2586186935076 := by rw [List.length_take]; omega
      have hs := hide (And.intro (tkL_snoc (l.take k) l[k]) (mkL_snoc (l.take k) l[k]))
      have ht : l.take k ++ [l[k]] = l.take (k + 1) := (List.take_succ_eq_append_getElem hlt).symm
      rw [ht] at hs
      unfold tk1 mk1 at hs
      unfold smP at b2
      generalize tkL (l.take k) = A at *
      generalize mkL (l.take k) = B at *
      go_wp2
      refine ⟨⟨k + 1, by omega, by go_num, by rw [hs.out.1], by rw [hs.out.2], hbel.alloc hbel.size _⟩, by simp [intOf]; omega⟩
    · obtain rfl : k = l.length := by omega
      rw [List.take_length]
      go_wp2
      go_ret2
      exact ⟨rfl, hbel⟩

/-- What the drawing of a change and a place leaves. -/
def PlPost (w : World) (e : Ending) (w' : World) : Prop := ∃ (v : Value) (L : List Pt) (a : Int) (f : Bool), e = .returned (.tuple #[v, .int .i64 a, .bool f]) ∧ POwn w' w.heap.size v L ∧ (∀ p ∈ L, smP p) ∧ (-1 ≤ a ∧ a ≤ 65535) ∧ Below w.heap.size w w'

end Go.Proofs.YtfobkjoinjphdaaDoor
