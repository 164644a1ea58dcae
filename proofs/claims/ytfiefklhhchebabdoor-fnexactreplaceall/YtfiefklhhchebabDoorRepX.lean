/- The model's l3Apply at changes of long parts. What replacing makes of a text: the change that does so makes the same. -/
import Derived.Test.YtfiefklhhchebabDoorRepM
set_option linter.unusedVariables false
namespace Go.Proofs.YtfiefklhhchebabDoor
open Go.RowKit
open Doc1

/-- A part that keeps, puts or drops, of no more than so much. -/
def kd (p : Pt) : Prop := 0 ≤ p.keep ∧ p.keep ≤ 300300 ∧ p.put.size ≤ 300300 ∧ p.drop.size ≤ 300300 ∧ (p.drop.data.toList ≠ [] → p.keep = 0)
theorem own_cellsP {w : World} {B : Nat} {v : Value} {l : List Pt} (h : POwn w B v l) : ∃ aw cap, v = .slice aw l.length cap ∧ l.length ≤ cap ∧ cap ≤ maxLen ∧ (0 < l.length → ∃ g, aw = some ⟨g, 0, none⟩ ∧ CLs w g (encP l) ∧ g < w.heap.size) := by
  obtain ⟨a, cap, rfl, k1, k2⟩ := own_shp h
  refine ⟨a, cap, rfl, k1, k2, fun h0 => ?_⟩
  obtain ⟨g, cc, e, -, -, -, h4, h5, -⟩ := POwn.shape h (by intro c; rw [c] at h0; simp at h0)
  simp only [Value.slice.injEq] at e
  exact ⟨g, e.1, h5, h4⟩

set_option maxRecDepth 100000 in
set_option maxHeartbeats 4000000 in
theorem l3Apply_big {w : World} {B : Nat} {v : Value} {l : List Pt} (s : ByteArray) (h : POwn w B v l) (h60 : l.length ≤ 1000) (hgp : ∀ p ∈ l, kd p) (hs : s.size ≤ 300) :
    Calls Tryd.prog 20 #[v, .string s] w fun e w' => e = .returned (.tuple #[.string (apO l s).1, .bool (apO l s).2]) ∧ Below w.heap.size w w' := by
  obtain ⟨aw, cap, rfl, hle, hcm, hcl⟩ := own_cellsP h
  have H := hide hcl
  have HG := hide hgp
  unfold maxLen at hcm
  clear h hgp hcl
  go_enter Tryd.func20, Tryd.ntmps20
  go_wp2
  go_loopw [1, 6, 12] (fun a b i wr => ∃ (k : Nat) (x y : ByteArray), k ≤ l.length ∧ i = .int .i64 k ∧ a = .string x ∧ b = .string y ∧ x.size ≤ 1048576 ∧ y.size ≤ 1048876 * k ∧ Hid (apL (l.take k) (s, ⟨#[]⟩) = some (x, y)) ∧ Below w.heap.size w wr) (fun _ _ i _ => l.length - (intOf i).toNat)
  case atStart => exact ⟨0, s, ⟨#[]⟩, by omega, rfl, rfl, rfl, by omega, by decide, hide rfl, Below.refl _ _⟩
  case round =>
    obtain ⟨k, x, y, hk, rfl, rfl, rfl, hx, hy, hap, hbel⟩ := hrel
    by_cases hlt : k < l.length
    · obtain ⟨g, rfl, hcls, hglt⟩ := H.out (by omega)
      obtain ⟨c0, c1, c2⟩ := (hcls.later hbel hglt).ptat k hlt
      have hpk := HG.out l[k] (List.getElem_mem hlt)
      have hbd := hpk
      obtain ⟨K, hK, hk0⟩ : ∃ K : Nat, K ≤ 300300 ∧ l[k].keep = (K : Int) := ⟨l[k].keep.toNat, by have := hpk.2.1; omega, by have := hpk.1; omega⟩
      have ha := hbel.alloc hbel.size (.cells #[.int .i64 l[k].keep, .string l[k].put, .string l[k].drop] 54)
      have hS := hide (fun h2 => ap_stop hlt hap.out h2)
      have hT := hide (ap_take hlt hap.out)
      have hd2 := hbd.2.2.2.1
      have hp2 := hbd.2.2.1
      have hpk0 := hide hpk
      clear hbd hpk hap
      have e1 := emp_b l[k].drop
      have e2 := sz_list l[k].drop
      by_cases hn : x.size < K + l[k].drop.size
      · have hno : apL l (s, ⟨#[]⟩) = none := hS.out (by unfold ap1; rw [hk0]; simp only [Int.toNat_natCast]; rw [if_pos hn])
        have hO : apO l s = (⟨#[]⟩, false) := by unfold apO; rw [hno]
        have HO := hide hO
        rw [hk0] at c0 ha
        clear hk0
        generalize l[k].drop = D at *
        generalize l[k].put = U at *
        clear hS hT hno hO e1 e2
        have hdk : decide ((x.size : Int) < (K : Int) + (D.size : Int)) = true := decide_eq_true (by omega)
        go_wp2
        go_region
        go_wp2
        go_ret2
        exact ⟨by rw [HO.out]; rfl, ha.drew⟩
      · by_cases hD : l[k].drop.data.toList = []
        · have hV : apL (l.take (k + 1)) (s, ⟨#[]⟩) = some (x.extract (K + l[k].drop.size) x.size, (if 0 < l[k].keep then y ++ x.extract 0 (K + l[k].drop.size) else y) ++ l[k].put) := by
            rw [hT.out]; unfold ap1; rw [hk0]; simp only [Int.toNat_natCast]; rw [if_neg hn, if_neg (fun c => c.1 hD)]
          have HV := hide hV
          rw [decide_eq_true hD] at e1
          rw [hk0] at c0 ha HV
          clear hk0 hV
          generalize l[k].drop = D at *
          generalize l[k].put = U at *
          clear hS hT
          have hD0 : D.size = 0 := by rw [e2, hD]; rfl
          have hdk : decide (x.size < K) = false := decide_eq_false (by omega)
          by_cases hK0 : 0 < K
          · rw [if_pos (by omega)] at HV
            go_wp2
            go_region
            go_wp2
            refine ⟨⟨k + 1, _, _, by omega, by go_num, rfl, rfl, ?_, ?_, ?_, ha.drew⟩, by simp [intOf]; omega⟩
            · rw [ByteArray.size_extract]; omega
            · rw [ByteArray.size_append, ByteArray.size_append, ByteArray.size_extract]; omega
            · rw [hD0] at HV; exact HV
          · rw [if_neg (by omega)] at HV
            go_wp2
            go_region
            go_wp2
            refine ⟨⟨k + 1, _, _, by omega, by go_num, rfl, rfl, ?_, ?_, ?_, ha.drew⟩, by simp [intOf]; omega⟩
            · rw [ByteArray.size_extract]; omega
            · rw [ByteArray.size_append]; omega
            · rw [hD0] at HV; exact HV
        · have hq : l[k].keep = 0 := hpk0.out.2.2.2.2 hD
          obtain rfl : K = 0 := by omega
          rw [Nat.zero_add] at hn
          rw [hq] at c0 ha
          by_cases hE : x.extract 0 l[k].drop.size = l[k].drop
          · have hV : apL (l.take (k + 1)) (s, ⟨#[]⟩) = some (x.extract l[k].drop.size x.size, y ++ l[k].put) := by
              rw [hT.out]; unfold ap1; rw [hq]; simp [hn, hE]
            have HV := hide hV
            have hE2 : decide (x.extract 0 l[k].drop.size = l[k].drop) = true := decide_eq_true hE
            have hD3 : l[k].drop.toList.isEmpty = false := by rw [e1]; exact decide_eq_false hD
            clear hk0 hV hq hS hT e1 e2 hpk0
            have hdk : decide (x.size < l[k].drop.size) = false := decide_eq_false hn
            generalize l[k].drop = D at *
            generalize l[k].put = U at *
            go_wp2
            go_region
            go_wp2
            refine ⟨⟨k + 1, _, _, by omega, by go_num, rfl, rfl, ?_, ?_, ?_, ha.drew⟩, by simp [intOf]; omega⟩
            · rw [ByteArray.size_extract]; omega
            · rw [ByteArray.size_append]; omega
            · exact HV
          · have hno : apL l (s, ⟨#[]⟩) = none := hS.out (by unfold ap1; rw [hq]; simp [hn, hE]; exact fun c => hD (by rw [c]))
            have hO : apO l s = (⟨#[]⟩, false) := by unfold apO; rw [hno]
            have HO := hide hO
            have hE2 : decide (x.extract 0 l[k].drop.size = l[k].drop) = false := decide_eq_false hE
            have hD3 : l[k].drop.toList.isEmpty = false := by rw [e1]; exact decide_eq_false hD
            clear hk0 hq hS hT e1 e2 hno hO hpk0
            have hdk : decide (x.size < l[k].drop.size) = false := decide_eq_false hn
            generalize l[k].drop = D at *
            generalize l[k].put = U at *
            have hE3 : ((x.extract 0 D.size).toList == D.toList) = false := by
              rw [ByteArray.toList_eq, ByteArray.toList_eq]; exact beq_eq_false_iff_ne.2 (fun c => hE (ba_eq c))
            clear hE2 hE
            go_wp2
            go_region
            go_wp2
            go_ret2
            exact ⟨by rw [HO.out]; rfl, ha.drew⟩
    · obtain rfl : k = l.length := by omega
      have hO : apO l s = (y, x.toList.isEmpty) := by
        have := hap.out
        rw [List.take_length] at this
        unfold apO; rw [this]
      have HO := hide hO
      clear hO
      go_wp2
      go_ret2
      exact ⟨by rw [HO.out]; rfl, hbel⟩
end Go.Proofs.YtfiefklhhchebabDoor

set_option linter.unusedVariables false
namespace Go.Proofs.YtfiefklhhchebabDoor
open Go.RowKit
open Doc1

def tS (s : ByteArray) (a : ByteArray × Nat) (y : Spl) : ByteArray × Nat := (a.1 ++ s.extract a.2 y.frm ++ y.put, y.til)
def tA (s : ByteArray) (ys : List Spl) : ByteArray × Nat := ys.foldl (tS s) (e0, 0)
def txt (s : ByteArray) (ys : List Spl) : ByteArray := (tA s ys).1 ++ s.extract (tA s ys).2 s.size
theorem tA_snoc (s : ByteArray) (ys : List Spl) (y : Spl) : tA s (ys ++ [y]) = tS s (tA s ys) y := by unfold tA; rw [List.foldl_append]; rfl
theorem exL (s : ByteArray) (a b : Nat) : (s.extract a b).data.toList = (s.data.toList.drop a).take (b - a) := by
  simp only [ByteArray.data_extract, Array.toList_extract, List.extract_eq_take_drop]
theorem apdL (a b : ByteArray) : (a ++ b).data.toList = a.data.toList ++ b.data.toList := by simp
theorem ex_nil (s : ByteArray) (a : Nat) : s.extract a a = e0 := ba_eq (by rw [exL]; simp [e0])
theorem apd_e0 (a : ByteArray) : a ++ e0 = a := ba_eq (by rw [apdL]; simp [e0])
theorem e0_apd (a : ByteArray) : e0 ++ a = a := ba_eq (by rw [apdL]; simp [e0])
theorem apd_assoc (a b c : ByteArray) : a ++ b ++ c = a ++ (b ++ c) := ba_eq (by rw [apdL, apdL, apdL, apdL, List.append_assoc])
theorem ex_ex {s : ByteArray} {a i j : Nat} (h : a + j ≤ s.size) : (s.extract a s.size).extract i j = s.extract (a + i) (a + j) := ba_eq (by
  have hl : s.data.toList.length = s.size := by simp
  rw [exL, exL, exL, List.drop_take, List.take_take, List.drop_drop]
  congr 1
  omega)
theorem ex_sz {s : ByteArray} {a b : Nat} (h : b ≤ s.size) : (s.extract a b).size = b - a := by rw [ByteArray.size_extract]; omega
theorem ex_cat {s : ByteArray} {a b c : Nat} (h1 : a ≤ b) (h2 : b ≤ c) (h3 : c ≤ s.size) : s.extract a b ++ s.extract b c = s.extract a c := ba_eq (by rw [apdL]; exact ext_join s h1 h2 h3)
theorem ex_all (s : ByteArray) : s.extract 0 s.size = s := ba_eq (by rw [exL, List.drop_zero]; exact List.take_of_length_le (by simp))
theorem tA_til {s : ByteArray} {ys : List Spl} : (tA s ys).2 = (gA s ys).2 := by
  rcases List.eq_nil_or_concat ys with rfl | ⟨o, y, rfl⟩
  · rfl
  · rw [List.concat_eq_append, tA_snoc, gA_snoc]; rfl
theorem tA_jst {s : ByteArray} {out : List Spl} (ha : Asc s out) {x : Spl} (h1 : (gA s out).2 ≤ x.frm) : tA s (jst out x) = tS s (tA s out) x := by
  cases ha with
  | nil => rfl
  | @snoc out y ha g1 g2 g3 =>
    rw [gA_til] at h1
    by_cases hf : y.til < x.frm
    · rw [jst_far _ _ _ hf, tA_snoc]
    · have he : x.frm = y.til := by omega
      rw [jst_near _ _ _ hf, tA_snoc, tA_snoc]
      unfold tS
      simp only
      rw [he, ex_nil, apd_e0, ← apd_assoc]
theorem tA_jnt {s : ByteArray} {ys : List Spl} (ha : Asc s ys) : tA s (jnt ys) = tA s ys := by
  induction ha with
  | nil => rfl
  | @snoc out x ha h1 h2 h3 ih =>
    have j := jnt_asc ha
    rw [jnt_snoc, tA_jst j.1 (by rw [j.2.1]; exact h1), ih, tA_snoc]
theorem txt_jnt {s : ByteArray} {ys : List Spl} (ha : Asc s ys) : txt s (jnt ys) = txt s ys := by unfold txt; rw [tA_jnt ha]
/-- What is replaced by itself stays. -/
theorem txt_same {s : ByteArray} {ys : List Spl} (ha : Asc s ys) (h : ∀ y ∈ ys, y.put = s.extract y.frm y.til) : txt s ys = s := by
  have key : (tA s ys).1 = s.extract 0 (gA s ys).2 ∧ (gA s ys).2 ≤ s.size := by
    induction ha with
    | nil => exact ⟨(ex_nil s 0).symm, Nat.zero_le _⟩
    | @snoc out x ha h1 h2 h3 ih =>
      have i := ih (fun y hy => h y (List.mem_append_left _ hy))
      rw [tA_snoc, gA_til]
      refine ⟨?_, h3⟩
      unfold tS
      simp only
      rw [i.1, tA_til, h x (by simp), ex_cat (Nat.zero_le _) h1 (by omega), ex_cat (Nat.zero_le _) (by omega) h3]
  unfold txt
  rw [key.1, tA_til, ex_cat (Nat.zero_le _) key.2 (Nat.le_refl _), ex_all]
theorem apL_app (a b : List Pt) (so : ByteArray × ByteArray) : apL (a ++ b) so = (apL a so).bind (apL b) := by
  unfold apL; rw [List.foldlM_append]; rfl
theorem apL_one (p : Pt) (so : ByteArray × ByteArray) : apL [p] so = ap1 so p := by
  unfold apL; simp
theorem ap_kp {s o : ByteArray} {a b : Nat} (h1 : a ≤ b) (h2 : b ≤ s.size) : apL (if 0 < b - a then [kp (b - a)] else []) (s.extract a s.size, o) = some (s.extract b s.size, o ++ s.extract a b) := by
  by_cases h : 0 < b - a
  · rw [if_pos h, apL_one]
    unfold ap1
    have e1 : (kp (b - a)).keep.toNat = b - a := by simp [kp]
    have e2 : (kp (b - a)).drop.size = 0 := rfl
    have e3 : (kp (b - a)).put = e0 := rfl
    have e4 : 0 < (kp (b - a)).keep := kp_pos h
    simp only [e1, e2, e3, Nat.add_zero]
    rw [if_neg (by rw [ex_sz (Nat.le_refl _)]; omega), if_neg (fun c => c.1 (kpD _)), if_pos e4, apd_e0, ex_sz (Nat.le_refl _), ex_ex (by omega), ex_ex (by omega)]
    rw [show a + (b - a) = b by omega, show a + (s.size - a) = s.size by omega, Nat.add_zero]
  · obtain rfl : a = b := by omega
    rw [if_neg h, ex_nil, apd_e0]
    rfl
theorem ap_pp {r o b : ByteArray} : apL (if b.data.toList = [] then [] else [pp b.data.toList]) (r, o) = some (r, o ++ b) := by
  by_cases h : b.data.toList = []
  · rw [if_pos h]
    have : b = e0 := ba_eq (by rw [h]; rfl)
    rw [this, apd_e0]
    rfl
  · rw [if_neg h, apL_one]
    unfold ap1
    have e1 : (pp b.data.toList).keep.toNat = 0 := rfl
    have e2 : (pp b.data.toList).drop.size = 0 := rfl
    have e3 : (pp b.data.toList).put = b := by unfold pp; rw [ba_of]
    have e4 : ¬ 0 < (pp b.data.toList).keep := by simp [pp]
    simp only [e1, e2, e3, Nat.add_zero]
    rw [if_neg (by omega), if_neg (fun c => c.1 (ppD _)), if_neg e4, ex_all]
theorem ap_dp {s o : ByteArray} {a b : Nat} (h1 : a < b) (h2 : b ≤ s.size) : apL (if (s.extract a b).data.toList = [] then [] else [dp (s.extract a b).data.toList]) (s.extract a s.size, o) = some (s.extract b s.size, o) := by
  rw [if_neg (ext_ne h1 h2), apL_one]
  unfold ap1
  have e1 : (dp (s.extract a b).data.toList).keep.toNat = 0 := rfl
  have e5 : (dp (s.extract a b).data.toList).drop = s.extract a b := by unfold dp; rw [ba_of]
  have e3 : (dp (s.extract a b).data.toList).put = e0 := rfl
  have e4 : ¬ 0 < (dp (s.extract a b).data.toList).keep := by simp [dp]
  simp only [e1, e5, e3, Nat.zero_add]
  rw [ex_sz h2, ex_sz (Nat.le_refl _), if_neg (by omega), ex_ex (by omega), ex_ex (by omega), show a + (b - a) = b by omega, show a + (s.size - a) = s.size by omega, Nat.add_zero, if_neg (fun c => c.2 rfl), if_neg e4, apd_e0]
theorem ap_gA {s : ByteArray} {ys : List Spl} (ha : Asc s ys) : apL (ftP (gA s ys).1) (s, e0) = some (s.extract (gA s ys).2 s.size, (tA s ys).1) ∧ (gA s ys).2 ≤ s.size := by
  induction ha with
  | nil => exact ⟨by show some (s, e0) = some (s.extract 0 s.size, e0); rw [ex_all], Nat.zero_le _⟩
  | @snoc out x ha h1 h2 h3 ih =>
    refine ⟨?_, by rw [gA_til]; exact h3⟩
    rw [gA_snoc, tA_snoc]
    unfold gS tS
    simp only
    rw [ftP_app, apL_app, ih.1, ftP_three]
    show apL _ _ = _
    rw [apL_app, ap_kp h1 (by omega)]
    show apL _ _ = _
    rw [apL_app, ap_pp]
    show apL _ _ = _
    rw [ap_dp h2 h3, tA_til]
theorem apO_raw {s : ByteArray} {ys : List Spl} (ha : Asc s ys) : apO (ftP (rawG s ys)) s = (txt s ys, true) := by
  have h := ap_gA ha
  have e : apL (ftP (rawG s ys)) (s, ⟨#[]⟩) = some (s.extract s.size s.size, txt s ys) := by
    unfold rawG
    rw [ftP_app, apL_app, show (⟨#[]⟩ : ByteArray) = e0 from rfl, h.1]
    show apL _ _ = _
    rw [ftP_kp, ap_kp h.2 (Nat.le_refl _)]
    unfold txt
    rw [tA_til]
  unfold apO
  rw [e, ex_nil]
  have : e0.toList.isEmpty = true := emp_yes rfl
  simp only [this]
/-- What the change of replacing makes. -/
theorem apO_rep {p s W : ByteArray} (h0 : 0 < p.size) (hp : good p.data.toList = true) (hs : s.size ≤ 300) (hW : good W.data.toList = true) : apO (repL p s W) s = (txt s (sps p s W), true) := by
  by_cases hWp : W = p
  · have e : repL p s W = ftP (rawG s []) := by
      unfold repL
      rw [if_pos hWp]
      show keepL _ = ftP [⟨((s.size - 0 : Nat) : Int), e0, e0⟩]
      rw [ftP_kp, Nat.sub_zero]
      unfold keepL
      by_cases h : 0 < s.size
      · rw [if_pos ⟨by omega, by omega⟩, if_pos h]; rfl
      · rw [if_neg (by omega), if_neg h]
    have e2 : txt s (sps p s W) = s := txt_same (sps_asc W h0) (fun y hy => by
      unfold sps at hy
      obtain ⟨x, hx, rfl⟩ := List.mem_map.1 hy
      show W = s.extract x (x + p.size)
      rw [(plc_is h0 hx).2, hWp])
    rw [e, apO_raw .nil, e2]
    unfold txt tA
    simp only [List.foldl_nil]
    rw [e0_apd, ex_all]
  · have e : repL p s W = ftP (rawG s (jnt (sps p s W))) := by
      unfold repL
      rw [if_neg hWp]
      refine raw_add (sps_asc W h0) (fun q hq => ?_)
      have h := gA_ok (W := W) h0 hp hs hW (sps p s W).length
      rw [List.take_of_length_le (Nat.le_refl _)] at h
      unfold rawG at hq
      rcases List.mem_append.1 hq with c | c
      · exact h.1 q c
      · rw [List.mem_singleton] at c; subst c; exact pk_keep (by omega)
    rw [e, apO_raw (jnt_asc (sps_asc W h0)).1, txt_jnt (sps_asc W h0)]
theorem raw_kd {s : ByteArray} {ys : List Spl} : ∀ q ∈ rawG s ys, 0 ≤ q.keep ∧ (q.drop.data.toList ≠ [] → q.keep = 0) := by
  have key : ∀ (l : List Spl) (a : List Pt × Nat), (∀ q ∈ a.1, 0 ≤ q.keep ∧ (q.drop.data.toList ≠ [] → q.keep = 0)) → ∀ q ∈ (l.foldl (gS s) a).1, 0 ≤ q.keep ∧ (q.drop.data.toList ≠ [] → q.keep = 0) := by
    intro l
    induction l with
    | nil => intro a h; exact h
    | cons y l ih =>
      intro a h
      refine ih _ (fun q hq => ?_)
      unfold gS at hq
      rcases List.mem_append.1 hq with c | c
      · exact h q c
      · simp only [List.mem_cons, List.not_mem_nil, or_false] at c
        rcases c with rfl | rfl | rfl
        · exact ⟨by show (0 : Int) ≤ ((y.frm - a.2 : Nat) : Int); omega, fun c => absurd rfl c⟩
        · exact ⟨Int.le_refl _, fun _ => rfl⟩
        · exact ⟨Int.le_refl _, fun _ => rfl⟩
  intro q hq
  unfold rawG at hq
  rcases List.mem_append.1 hq with c | c
  · exact key ys ([], 0) (fun q hq => by cases hq) q c
  · rw [List.mem_singleton] at c
    subst c
    exact ⟨by show (0 : Int) ≤ ((s.size - (gA s ys).2 : Nat) : Int); omega, fun c => absurd rfl c⟩
theorem repL_kd {p s W : ByteArray} (h0 : 0 < p.size) (hp : good p.data.toList = true) (hs : s.size ≤ 300) (hW : good W.data.toList = true) : ∀ q ∈ repL p s W, kd q := by
  intro q hq
  have hbd := (repL_bd (W := W) h0 hp hs hW).2 q hq
  have h2 : 0 ≤ q.keep ∧ (q.drop.data.toList ≠ [] → q.keep = 0) := by
    by_cases hWp : W = p
    · unfold repL at hq
      rw [if_pos hWp] at hq
      unfold keepL at hq
      split at hq
      · rw [List.mem_singleton] at hq
        subst hq
        exact ⟨by show (0 : Int) ≤ (s.size : Int); omega, fun c => absurd rfl c⟩
      · cases hq
    · have e : repL p s W = ftP (rawG s (jnt (sps p s W))) := by
        unfold repL
        rw [if_neg hWp]
        refine raw_add (sps_asc W h0) (fun q hq => ?_)
        have h := gA_ok (W := W) h0 hp hs hW (sps p s W).length
        rw [List.take_of_length_le (Nat.le_refl _)] at h
        unfold rawG at hq
        rcases List.mem_append.1 hq with c | c
        · exact h.1 q c
        · rw [List.mem_singleton] at c; subst c; exact pk_keep (by omega)
      rw [e] at hq
      exact raw_kd q (List.mem_filter.1 hq).1
  exact ⟨h2.1, hbd.1, hbd.2.1, hbd.2.2, h2.2⟩
theorem tA_sz {s : ByteArray} (hs : s.size ≤ 300) {ys : List Spl} {M : Nat} (hb : ∀ y ∈ ys, y.put.size ≤ M) : ∀ k, k ≤ ys.length → (tA s (ys.take k)).1.size ≤ (300 + M) * k
  | 0, _ => Nat.zero_le _
  | k + 1, hk => by
    have ih := tA_sz hs hb k (by omega)
    rw [List.take_succ_eq_append_getElem (by omega), tA_snoc]
    unfold tS
    simp only
    rw [ByteArray.size_append, ByteArray.size_append, ByteArray.size_extract]
    have := hb _ (List.getElem_mem (show k < ys.length by omega))
    rw [Nat.mul_succ]
    omega
end Go.Proofs.YtfiefklhhchebabDoor
