/- The model's SpliceOp. The contracts of the model's l3Splice and SpliceOp. The contract of the model's SpliceOp. -/
import Derived.Test.YtfiefklhhchebaaDoorOpSM
import Derived.Test.YtfiefklhhchebaaDoorKeep1
import Derived.Test.YtfiefklhhchebaaDoorWalksQ
namespace Go.Proofs.YtfiefklhhchebaaDoor
open Go.RowKit
open Doc1

/-- A part that does nothing. -/
def nth (p : Pt) : Prop := p.keep = 0 ∧ p.put.data.toList = [] ∧ p.drop.data.toList = []
instance (p : Pt) : Decidable (nth p) := by unfold nth; infer_instance
theorem addP_nth {l : List Pt} {p : Pt} (h : nth p) : addP l p = l := if_pos h
/-- The four parts of a splice. -/
def spL (s put : ByteArray) (a b : Nat) : List Pt := [⟨(a : Int), ⟨#[]⟩, ⟨#[]⟩⟩, ⟨0, put, ⟨#[]⟩⟩, ⟨0, ⟨#[]⟩, s.extract a b⟩, ⟨((s.size - b : Nat) : Int), ⟨#[]⟩, ⟨#[]⟩⟩]
def spN (s put : ByteArray) (a b : Nat) : List Pt := (spL s put a b).filter (fun p => decide (¬ nth p))
theorem norm_filter (l : List Pt) : ∀ r : List Pt, l.foldl addP r = (l.filter (fun p => decide (¬ nth p))).foldl addP r := by
  induction l with
  | nil => intro r; rfl
  | cons p l ih =>
    intro r
    by_cases h : nth p
    · rw [List.foldl_cons, addP_nth h, ih r, List.filter_cons_of_neg (by simpa using h)]
    · rw [List.foldl_cons, ih, List.filter_cons_of_pos (by simpa using h), List.foldl_cons]
theorem spN_norm (s put : ByteArray) (a b : Nat) : normL (spN s put a b) = (spL s put a b).foldl addP [] := (norm_filter _ _).symm
theorem good_sub {l m : List UInt8} (h : good l = true) (hs : ∀ c ∈ m, c ∈ l) (hl : m.length ≤ l.length) : good m = true := by
  unfold good at *
  simp only [Bool.and_eq_true, decide_eq_true_eq] at *
  refine ⟨?_, by omega⟩
  unfold allOk at *
  exact List.all_eq_true.2 (fun c hc => List.all_eq_true.1 h.1 c (hs c hc))
theorem spL_pk {s put : ByteArray} {a b : Nat} (hs : good s.data.toList = true) (hp : good put.data.toList = true) (ha : a ≤ b) (hb : b ≤ s.size) : ∀ p ∈ spL s put a b, nth p ∨ pk p ≠ 0 := by
  have hl := good_len hs
  rw [← sz_list] at hl
  have e0 : (⟨#[]⟩ : ByteArray).data.toList = [] := rfl
  intro p hm
  simp only [spL, List.mem_cons, List.not_mem_nil, or_false] at hm
  rcases hm with rfl | rfl | rfl | rfl
  · by_cases h0 : a = 0
    · exact .inl ⟨by simp [h0], e0, e0⟩
    · right
      unfold pk
      rw [if_pos ⟨e0, e0, by simp; omega, by simp; omega⟩]
      omega
  · by_cases h0 : put.data.toList = []
    · exact .inl ⟨rfl, h0, e0⟩
    · right
      unfold pk
      rw [if_neg (fun c => h0 c.1), if_pos ⟨rfl, e0, h0, hp⟩]
      omega
  · by_cases h0 : (s.extract a b).data.toList = []
    · exact .inl ⟨rfl, e0, h0⟩
    · right
      have hg : good (s.extract a b).data.toList = true := by
        rw [ext_list] at *
        refine good_sub hs (fun c hc => List.mem_of_mem_take (List.mem_of_mem_drop hc)) ?_
        rw [List.length_drop, List.length_take]; omega
      unfold pk
      rw [if_neg (fun c => h0 c.2.1), if_neg (fun c => h0 c.2.1), if_pos ⟨rfl, e0, h0, hg⟩]
      omega
  · by_cases h0 : s.size - b = 0
    · exact .inl ⟨by simp [h0], e0, e0⟩
    · right
      unfold pk
      rw [if_pos ⟨e0, e0, by simp; omega, by simp; omega⟩]
      omega
theorem spN_pk {s put : ByteArray} {a b : Nat} (hs : good s.data.toList = true) (hp : good put.data.toList = true) (ha : a ≤ b) (hb : b ≤ s.size) : ∀ p ∈ spN s put a b, pk p ≠ 0 := by
  intro p hm
  obtain ⟨h1, h2⟩ := List.mem_filter.1 hm
  exact (spL_pk hs hp ha hb p h1).resolve_left (by simpa using h2)
theorem all_gpS {l : List Pt} (h : ∀ p ∈ l, pk p ≠ 0) : l.all gp = true := List.all_eq_true.2 (fun p hp => by rw [gp_pk]; exact decide_eq_true (h p hp))
/-- A change is good just where the normal one is. -/
theorem goodO_norm {l : List Pt} (hp : ∀ p ∈ l, pk p ≠ 0) (hl : l.length ≤ 60) : goodO (normL l) = goodO l := by
  rw [norm_gath l hp, goodO_gath _ (stL_so hp), goodO_sums hl (all_gpS hp)]
  have hs := stL_sums l hp
  have hn := (norm_bd l hp l.length (Nat.le_refl _)).1
  rw [List.take_length, norm_gath l hp] at hn
  congr 1
  simp only [eq_iff_iff]
  constructor
  · rintro ⟨_, h1, h2⟩; omega
  · rintro ⟨h1, h2⟩; exact ⟨by omega, by omega, by omega⟩

/-- One part more, or nothing. -/
theorem l3Add_opt {w : World} {B : Nat} {v : Value} {l : List Pt} (p : Pt) (h : POwn w B v l) (hB : B ≤ w.heap.size) (hl : l.length ≤ 1000) (hbd : ∀ q ∈ l, Bd 1000000 q) (hp : nth p ∨ pk p ≠ 0) :
    Calls Tryd.prog 56 #[v, ptV p] w fun e w' => ∃ v', e = .returned v' ∧ POwn w' B v' (addP l p) ∧ Below B w w' := by
  rcases hp with hp | hp
  · rcases h.2 with ⟨rfl, h0⟩ | ⟨g, cap, cur, rfl, rest⟩
    · exact (l3Add_none p none 0 0 B l w h hB hp).mono (fun _ _ ⟨v', h1, h2, h3, _⟩ => ⟨v', h1, h2, h3.b⟩)
    · exact (l3Add_none p (some ⟨g, 0, none⟩) l.length cap B l w h hB hp).mono (fun _ _ ⟨v', h1, h2, h3, _⟩ => ⟨v', h1, h2, h3.b⟩)
  · exact l3Add_any p h hB hl hbd hp
end Go.Proofs.YtfiefklhhchebaaDoor

namespace Go.Proofs.YtfiefklhhchebaaDoor
open Go.RowKit
open Doc1

/-- What l3Splice answers. -/
def spT (s put : ByteArray) (a b : Nat) : List Pt := if s.extract a b = put then keepL (s.size : Int) else normL (spN s put a b)
theorem keep_add (n : Nat) (h : n ≤ 300) : addP [] ⟨(n : Int), ⟨#[]⟩, ⟨#[]⟩⟩ = keepL (n : Int) := by
  unfold keepL
  by_cases h0 : n = 0
  · subst h0; rw [addP_nth ⟨rfl, rfl, rfl⟩, if_neg (by omega)]
  · rw [if_pos (by omega)]
    unfold addP
    rw [if_neg (fun c => h0 (by have := c.1; simp at this; omega))]
    rfl
theorem bd_add {l : List Pt} {p : Pt} {M : Nat} (hl : ∀ q ∈ l, Bd M q) (hp : nth p ∨ pk p ≠ 0) : ∀ q ∈ addP l p, Bd (M + 300) q := by
  rcases hp with h | h
  · rw [addP_nth h]; exact fun q hq => (hl q hq).mono (by omega)
  · exact addP_Bd hl (pk_Bd h)

end Go.Proofs.YtfiefklhhchebaaDoor

namespace Go.Proofs.YtfiefklhhchebaaDoor
open Go.RowKit
open Doc1

set_option maxHeartbeats 2000000 in
theorem l3Sizes_nil (w : World) : Calls Tryd.prog 61 #[.slice none 0 0] w fun e w' => e = .returned (.tuple #[.int .i64 0, .int .i64 0]) ∧ Below w.heap.size w w' := by
  go_enter Tryd.func61, Tryd.ntmps61
  go_wp2
  go_loopw [4, 5, 10] (fun a b i wr => i = .int .i64 0 ∧ a = .int .i64 0 ∧ b = .int .i64 0 ∧ Below w.heap.size w wr) (fun _ _ _ _ => 0)
  case atStart => exact ⟨rfl, rfl, rfl, Below.refl _ _⟩
  case round =>
    obtain ⟨rfl, rfl, rfl, hbel⟩ := hrel
    go_wp2
    go_ret2
    exact ⟨rfl, hbel⟩
set_option maxRecDepth 100000 in
set_option maxHeartbeats 2000000 in
theorem goodOpS_nil (w : World) : Calls Tryd.prog 47 #[.slice none 0 0] w fun e w' => e = .returned (.bool true) ∧ Below w.heap.size w w' := by
  have S := hide l3Sizes_nil
  go_enter Tryd.func47, Tryd.ntmps47
  go_wp2
  go_loopw [12] (fun i wr => i = .int .i64 0 ∧ Below w.heap.size w wr) (fun _ _ => 0)
  case atStart => exact ⟨rfl, Below.refl _ _⟩
  case round =>
    obtain ⟨rfl, hbel⟩ := hrel
    go_wp2_with fail
    refine (S.out _).mono ?_
    rintro e w2 ⟨rfl, hb2⟩
    go_wp2
    go_ret
    exact ⟨rfl, hbel.trans (hb2.mono hbel.size)⟩
/-- GoodOp of a row of one's own, by the model. -/
theorem goodOpS_own {w : World} {B : Nat} {v : Value} {l : List Pt} (h : POwn w B v l) (hs : ∀ i (hi : i < l.length), l[i].put.size ≤ 1048576 ∧ l[i].drop.size ≤ 1048576) (hl : l.length ≤ 1048576) :
    Calls Tryd.prog 47 #[v] w fun e w' => e = .returned (.bool (goodO l)) ∧ Below w.heap.size w w' := by
  rcases Nat.eq_zero_or_pos l.length with h0 | h0
  · obtain rfl := List.eq_nil_of_length_eq_zero h0
    rcases h.2 with ⟨rfl, -⟩ | ⟨g, cap, cur, rfl, hb, hh, hle, hm, hz, ht⟩
    · exact goodOpS_nil w
    · exact goodOpS (l := []) ⟨⟨by simp, hm⟩, fun i hi => by simp at hi, by simp, (fun j u hu => by simp [encP] at hu), (Array.getElem?_eq_some_iff.1 hh).1, fun _ => rfl⟩
  · obtain ⟨g, cap, rfl, hle, hm, hB, hlt, hc, hbk⟩ := own_cat h h0
    exact goodOpS ⟨⟨hle, hm⟩, hs, hl, hc, hlt, fun _ => rfl⟩

/-- What SpliceOp answers. -/
def spOk (s put : ByteArray) (a b : Int) : Prop := good s.data.toList = true ∧ good put.data.toList = true ∧ 0 ≤ a ∧ a ≤ b ∧ b ≤ (s.size : Int)
instance (s put : ByteArray) (a b : Int) : Decidable (spOk s put a b) := by unfold spOk; infer_instance
def spO (s put : ByteArray) (a b : Int) : List Pt × Bool := if spOk s put a b ∧ goodO (spT s put a.toNat b.toNat) = true then (spT s put a.toNat b.toNat, true) else ([], false)
theorem spT_small {s put : ByteArray} {a b : Nat} (hs : good s.data.toList = true) (hp : good put.data.toList = true) (ha : a ≤ b) (hb : b ≤ s.size) : (spT s put a b).length ≤ 4 ∧ ∀ q ∈ spT s put a b, q.put.size ≤ 1048576 ∧ q.drop.size ≤ 1048576 := by
  unfold spT
  split
  · refine ⟨by have := keepL_len (s.size : Int); omega, fun q hq => ?_⟩
    unfold keepL at hq
    split at hq
    · simp at hq; subst hq; exact ⟨by show (0 : Nat) ≤ 1048576; omega, by show (0 : Nat) ≤ 1048576; omega⟩
    · cases hq
  · have h4 : (spN s put a b).length ≤ 4 := List.length_filter_le _ _
    have hn := norm_bd (spN s put a b) (spN_pk hs hp ha hb) (spN s put a b).length (Nat.le_refl _)
    rw [List.take_length] at hn
    refine ⟨by omega, fun q hq => ?_⟩
    have := hn.2 q hq
    exact ⟨by have := this.2.1; omega, by have := this.2.2; omega⟩

end Go.Proofs.YtfiefklhhchebaaDoor
