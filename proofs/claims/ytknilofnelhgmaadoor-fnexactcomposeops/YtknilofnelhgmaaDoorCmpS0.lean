/- The plain mathematics of a reader that cuts parts, and the model's take of any good part. -/
import Derived.Test.YtknilofnelhgmaaDoorReadS4
import Derived.Test.YtknilofnelhgmaaDoorCompM
namespace Go.Proofs.YtknilofnelhgmaaDoor
open Go.RowKit
open Doc1

def cutA (p : Pt) (n : Nat) : Pt := if 0 < p.keep then kp n else if p.put.data.toList ≠ [] then pp (p.put.data.toList.take n) else dp (p.drop.data.toList.take n)
def cutB (p : Pt) (n : Nat) : Pt := if 0 < p.keep then kp (p.keep.toNat - n) else if p.put.data.toList ≠ [] then pp (p.put.data.toList.drop n) else dp (p.drop.data.toList.drop n)
def restL (p : Pt) (n : Nat) (r : List Pt) : List Pt := if (n : Int) = psz p then r else cutB p n :: r
theorem psz_kp (m : Nat) : psz (kp m) = m := by simp [psz, kp, ba_sz]
theorem psz_pp (b : List UInt8) : psz (pp b) = b.length := by simp [psz, pp, ba_sz]
theorem psz_dp (b : List UInt8) : psz (dp b) = b.length := by simp [psz, dp, ba_sz]
theorem cutA_kp {m : Nat} (hm : 0 < m) (n : Nat) : cutA (kp m) n = kp n ∧ cutB (kp m) n = kp (m - n) := by
  have : 0 < (kp m).keep := kp_pos hm
  unfold cutA cutB
  rw [if_pos this, if_pos this]
  exact ⟨rfl, by simp [kp]⟩
theorem cutA_pp {b : List UInt8} (hb : b ≠ []) (n : Nat) : cutA (pp b) n = pp (b.take n) ∧ cutB (pp b) n = pp (b.drop n) := by
  unfold cutA cutB
  have hk : ¬ 0 < (pp b).keep := by show ¬ (0 : Int) < 0; omega
  have hp : (pp b).put.data.toList ≠ [] := by rw [ppP]; exact hb
  rw [if_neg hk, if_neg hk, if_pos hp, if_pos hp, ppP]
  exact ⟨rfl, rfl⟩
theorem cutA_dp (b : List UInt8) (n : Nat) : cutA (dp b) n = dp (b.take n) ∧ cutB (dp b) n = dp (b.drop n) := by
  unfold cutA cutB
  have hk : ¬ 0 < (dp b).keep := by show ¬ (0 : Int) < 0; omega
  have hp : ¬ (dp b).put.data.toList ≠ [] := by rw [dpP]; simp
  rw [if_neg hk, if_neg hk, if_neg hp, if_neg hp, dpD]
  exact ⟨rfl, rfl⟩
theorem ok_take {b : List UInt8} (h : allOk b = true) (n : Nat) : allOk (b.take n) = true ∧ allOk (b.drop n) = true := by
  unfold allOk at *
  rw [List.all_eq_true] at h
  constructor
  · rw [List.all_eq_true]; exact fun x hx => h x (List.mem_of_mem_take hx)
  · rw [List.all_eq_true]; exact fun x hx => h x (List.mem_of_mem_drop hx)
/-- Good parts, none longer than 300. -/
def gqs (p : Pt) : Prop := gq p ∧ psz p ≤ 300
theorem gqs_pk {p : Pt} (h : gqs p) : pk p ≠ 0 := by
  obtain ⟨hq, hs⟩ := h
  have h1 : gp p = true := by
    rcases hq with ⟨m, hm, rfl⟩ | ⟨b, hb, _, rfl⟩ | ⟨b, hb, _, rfl⟩
    · exact gq_gp (.inl ⟨m, hm, rfl⟩) (by simp [tk1, kp, ba_sz]; simp [psz_kp] at hs; omega) (by simp [mk1, kp, ba_sz]; simp [psz_kp] at hs; omega)
    · rw [psz_pp] at hs
      refine gq_gp (.inr (.inl ⟨b, hb, by assumption, rfl⟩)) (by simp [tk1, pp, ba_sz]) (by simp [mk1, pp, ba_sz]; omega)
    · rw [psz_dp] at hs
      refine gq_gp (.inr (.inr ⟨b, hb, by assumption, rfl⟩)) (by simp [tk1, dp, ba_sz]; omega) (by simp [mk1, dp, ba_sz])
  rw [gp_pk] at h1
  exact of_decide_eq_true h1
theorem pk_gqs {p : Pt} (hq : gq p) (h : pk p ≠ 0) : gqs p := by
  refine ⟨hq, ?_⟩
  have hb := pk_bd h
  rcases hq with ⟨m, hm, rfl⟩ | ⟨b, hb', _, rfl⟩ | ⟨b, hb', _, rfl⟩
  · rw [psz_kp]; have := hb.1.2; simp [tk1, kp, ba_sz] at this; omega
  · rw [psz_pp]; have := hb.2.2; simp [mk1, pp, ba_sz] at this; omega
  · rw [psz_dp]; have := hb.1.2; simp [tk1, dp, ba_sz] at this; omega
/-- What a cut leaves. -/
theorem cut_math {p : Pt} (h : gqs p) {n : Nat} (h0 : 0 < n) (hle : (n : Int) ≤ psz p) (r : List Pt) :
    stp p ++ stL r = stp (cutA p n) ++ stL (restL p n r) ∧ gqs (cutA p n) ∧ psz (cutA p n) = n ∧ ((n : Int) = psz p → cutA p n = p) ∧ ((n : Int) ≠ psz p → gqs (cutB p n)) := by
  obtain ⟨hq, hs⟩ := h
  rcases hq with ⟨m, hm, rfl⟩ | ⟨b, hb, hok, rfl⟩ | ⟨b, hb, hok, rfl⟩
  · rw [psz_kp] at hs hle
    obtain ⟨e1, e2⟩ := cutA_kp hm n
    unfold restL
    rw [e1, e2, psz_kp]
    refine ⟨?_, ⟨.inl ⟨n, h0, rfl⟩, by rw [psz_kp]; omega⟩, psz_kp n, fun e => by rw [show n = m by omega], fun hne => ⟨.inl ⟨m - n, by omega, rfl⟩, by rw [psz_kp]; omega⟩⟩
    by_cases e : (n : Int) = m
    · rw [if_pos e, show n = m by omega]
    · rw [if_neg e, stL_cons, stp_kp, stp_kp, stp_kp, ← List.append_assoc]
      unfold sK
      rw [List.replicate_append_replicate, show n + (m - n) = m by omega]
  · rw [psz_pp] at hs hle
    obtain ⟨e1, e2⟩ := cutA_pp hb n
    obtain ⟨o1, o2⟩ := ok_take hok n
    have l1 : (b.take n).length = n := by rw [List.length_take]; omega
    unfold restL
    rw [e1, e2, psz_pp, psz_pp, l1]
    refine ⟨?_, ⟨.inr (.inl ⟨b.take n, fun c => by rw [c] at l1; simp at l1; omega, o1, rfl⟩), by rw [psz_pp, l1]; omega⟩, rfl, fun e => by rw [List.take_of_length_le (by omega)], fun hne => ⟨.inr (.inl ⟨b.drop n, fun c => by have := List.drop_eq_nil_iff.1 c; omega, o2, rfl⟩), by rw [psz_pp, List.length_drop]; omega⟩⟩
    by_cases e : (n : Int) = b.length
    · rw [if_pos e, List.take_of_length_le (by omega)]
    · rw [if_neg e, stL_cons, stp_pp, stp_pp, stp_pp, ← List.append_assoc]
      unfold sP
      rw [← List.map_append, List.take_append_drop]
  · rw [psz_dp] at hs hle
    obtain ⟨e1, e2⟩ := cutA_dp b n
    obtain ⟨o1, o2⟩ := ok_take hok n
    have l1 : (b.take n).length = n := by rw [List.length_take]; omega
    unfold restL
    rw [e1, e2, psz_dp, psz_dp, l1]
    refine ⟨?_, ⟨.inr (.inr ⟨b.take n, fun c => by rw [c] at l1; simp at l1; omega, o1, rfl⟩), by rw [psz_dp, l1]; omega⟩, rfl, fun e => by rw [List.take_of_length_le (by omega)], fun hne => ⟨.inr (.inr ⟨b.drop n, fun c => by have := List.drop_eq_nil_iff.1 c; omega, o2, rfl⟩), by rw [psz_dp, List.length_drop]; omega⟩⟩
    by_cases e : (n : Int) = b.length
    · rw [if_pos e, List.take_of_length_le (by omega)]
    · rw [if_neg e, stL_cons, stp_dp, stp_dp, stp_dp, ← List.append_assoc]
      unfold sD
      rw [← List.map_append, List.take_append_drop]
theorem ext0 (b : List UInt8) (n : Nat) : (ba b).extract 0 n = ba (b.take n) := ba_eq (by simp [ba])
theorem ext1 (b : List UInt8) (n : Nat) : (ba b).extract n (ba b).size = ba (b.drop n) := ba_eq (by
  rw [ba_sz]
  simp [ba, List.take_of_length_le])
theorem gqs_bd {p : Pt} (h : gqs p) : (0 ≤ p.keep ∧ p.keep ≤ 300) ∧ p.put.size ≤ 300 ∧ p.drop.size ≤ 300 := by
  have := pk_Bd (gqs_pk h)
  have h2 := pk_bd (gqs_pk h)
  have h3 := keep_nn (gqs_pk h)
  exact ⟨⟨h3, this.1⟩, this.2.1, this.2.2⟩

/-- The model's take of any good part. -/
theorem take_gq {W : World} {B g : Nat} {p : Pt} {r : List Pt} (h : Rd W B g (p :: r)) (hq : gqs p) (hrl : r.length ≤ 1000) {n : Nat} (h0 : 0 < n) (hle : (n : Int) ≤ psz p) :
    Calls Tryd.prog 100 #[.pointer (some ⟨B, 0, none⟩), .int .i64 (n : Int)] W fun e w' => e = .returned (ptV (cutA p n)) ∧ ∃ g', Rd w' B g' (restL p n r) ∧ (g' = g ∨ W.heap.size ≤ g') ∧ W.grownBy w' (some B) := by
  obtain ⟨b1, b2, b3⟩ := gqs_bd hq
  have hm := cut_math hq h0 hle r
  by_cases e : (n : Int) = psz p
  · rw [hm.2.2.2.1 e, show restL p n r = r by unfold restL; rw [if_pos e], e]
    exact (take_whole h b1 b2 b3).mono (fun _ _ ⟨x1, x2, x3⟩ => ⟨x1, g, x2, .inl rfl, x3⟩)
  · have er : restL p n r = cutB p n :: r := by unfold restL; rw [if_neg e]
    rw [er]
    obtain ⟨hq', hs⟩ := hq
    rcases hq' with ⟨m, hm', rfl⟩ | ⟨b, hb, hok, rfl⟩ | ⟨b, hb, hok, rfl⟩
    · obtain ⟨e1, e2⟩ := cutA_kp hm' n
      rw [psz_kp] at hle e
      rw [e1, e2]
      refine (take_keep h b1 b2 b3 hrl n h0 (by rw [psz_kp]; exact e) (by show (n : Int) < (m : Int); omega)).mono (fun _ _ ⟨x1, g', x2, x3, x4⟩ => ⟨x1, g', ?_, .inr x3, x4⟩)
      have e5 : (⟨(kp m).keep - (n : Int), (kp m).put, (kp m).drop⟩ : Pt) = kp (m - n) := by
        unfold kp
        simp only [Pt.mk.injEq, and_true]
        omega
      rw [e5] at x2
      exact x2
    · obtain ⟨e1, e2⟩ := cutA_pp hb n
      rw [psz_pp] at hle e
      rw [e1, e2]
      refine (take_put h b1 b2 b3 hrl n (by rw [psz_pp]; exact e) (by simp [pp]) (by rw [ppP]; exact hb) (by show n ≤ (ba b).size; rw [ba_sz]; omega)).mono (fun _ _ ⟨x1, g', x2, x3, x4⟩ => ⟨?_, g', ?_, .inr x3, x4⟩)
      · rw [x1]; simp only [pp, ext0]
      · simp only [pp, ext1] at x2; exact x2
    · obtain ⟨e1, e2⟩ := cutA_dp b n
      rw [psz_dp] at hle e
      rw [e1, e2]
      refine (take_drop h b1 b2 b3 hrl n (by rw [psz_dp]; exact e) (by simp [dp]) (by rw [dpP]) (by show n ≤ (ba b).size; rw [ba_sz]; omega)).mono (fun _ _ ⟨x1, g', x2, x3, x4⟩ => ⟨?_, g', ?_, .inr x3, x4⟩)
      · rw [x1]; simp only [dp, ext0]
      · simp only [dp, ext1] at x2; exact x2
end Go.Proofs.YtknilofnelhgmaaDoor
