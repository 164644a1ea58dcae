/- The contracts of the model's own l3Add of any good part, l3Normal and NormalOp. -/
import Derived.Test.YtbmnciejaknonauDoorOpS5
namespace Go.Proofs.YtbmnciejaknonauDoor
open Go.RowKit
open Doc1

/-- No number and no text of a part is greater. -/
def Bd (M : Nat) (q : Pt) : Prop := q.keep ≤ (M : Int) ∧ q.put.size ≤ M ∧ q.drop.size ≤ M
theorem Bd.mono {M N : Nat} {q : Pt} (h : Bd M q) (hm : M ≤ N) : Bd N q := ⟨by have := h.1; omega, by have := h.2.1; omega, by have := h.2.2; omega⟩
theorem pk_Bd {p : Pt} (h : pk p ≠ 0) : Bd 300 p := by
  unfold pk at h
  unfold Bd
  rw [sz_list, sz_list]
  split at h
  · rename_i hh; rw [hh.1, hh.2.1]; simp; omega
  · split at h
    · rename_i hh; have := good_len hh.2.2.2; rw [hh.1, hh.2.1]; simp only [List.length_nil]; omega
    · split at h
      · rename_i hh; have := good_len hh.2.2.2; rw [hh.1, hh.2.1]; simp only [List.length_nil]; omega
      · exact absurd rfl h
theorem mem_cut {l : List Pt} {q : Pt} (h : q ∈ l.dropLast) : q ∈ l := (List.dropLast_sublist l).subset h
theorem addP_Bd {l : List Pt} {p : Pt} {M : Nat} (hl : ∀ q ∈ l, Bd M q) (hp : Bd 300 p) : ∀ q ∈ addP l p, Bd (M + 300) q := by
  have hl' : ∀ q ∈ l, Bd (M + 300) q := fun q hq => (hl q hq).mono (by omega)
  have hp' : Bd (M + 300) p := hp.mono (by omega)
  intro q hq
  unfold addP at hq
  split at hq
  · exact hl' q hq
  · split at hq
    · rcases List.mem_append.1 hq with h | h
      · exact hl' q h
      · simp at h; subst h; exact hp'
    · rename_i last hlast
      have hbl := hl last (List.mem_of_getLast? hlast)
      split at hq
      · rcases List.mem_append.1 hq with h | h
        · exact hl' q (mem_cut h)
        · simp at h; subst h; exact ⟨by have := hbl.1; have := hp.1; simp only; omega, by have := hbl.2.1; simp only; omega, by have := hbl.2.2; simp only; omega⟩
      · split at hq
        · rcases List.mem_append.1 hq with h | h
          · exact hl' q (mem_cut h)
          · simp at h; subst h; exact ⟨by have := hbl.1; simp only; omega, by have := hbl.2.1; simp only; omega, by have := hbl.2.2; have := hp.2.2; simp only [ByteArray.size_append]; omega⟩
        · split at hq
          · rcases List.mem_append.1 hq with h | h
            · exact hl' q (mem_cut h)
            · simp at h; subst h; exact ⟨by have := hbl.1; simp only; omega, by have := hbl.2.1; have := hp.2.1; simp only [ByteArray.size_append]; omega, by have := hbl.2.2; simp only; omega⟩
          · split at hq
            · split at hq
              · rename_i l2 hl2
                have hb2 := hl l2 (mem_cut (List.mem_of_getLast? hl2))
                split at hq
                · rcases List.mem_append.1 hq with h | h
                  · exact hl' q (mem_cut (mem_cut h))
                  · simp at h
                    rcases h with h | h
                    · subst h; exact ⟨by have := hb2.1; simp only; omega, by have := hb2.2.1; have := hp.2.1; simp only [ByteArray.size_append]; omega, by have := hb2.2.2; simp only; omega⟩
                    · subst h; exact hbl.mono (by omega)
                · rcases List.mem_append.1 hq with h | h
                  · exact hl' q (mem_cut h)
                  · simp at h
                    rcases h with h | h
                    · subst h; exact hp'
                    · subst h; exact hbl.mono (by omega)
              · rcases List.mem_append.1 hq with h | h
                · exact hl' q (mem_cut h)
                · simp at h
                  rcases h with h | h
                  · subst h; exact hp'
                  · subst h; exact hbl.mono (by omega)
            · rcases List.mem_append.1 hq with h | h
              · exact hl' q h
              · simp at h; subst h; exact hp'
theorem addP_len (l : List Pt) (p : Pt) : (addP l p).length ≤ l.length + 1 := by
  have hd := List.length_dropLast (xs := l)
  have hd2 := List.length_dropLast (xs := l.dropLast)
  unfold addP
  split
  · omega
  · split
    · simp
    · rename_i last hlast
      have hne : 0 < l.length := List.length_pos_of_mem (List.mem_of_getLast? hlast)
      split
      · simp <;> omega
      · split
        · simp <;> omega
        · split
          · simp <;> omega
          · split
            · split
              · rename_i l2 hl2
                have hne2 : 0 < l.dropLast.length := List.length_pos_of_mem (List.mem_of_getLast? hl2)
                split
                · simp <;> omega
                · simp <;> omega
              · simp <;> omega
            · simp
theorem last_at {w : World} {g : Nat} {a : List Pt} {x : Pt} (b : List Pt) (hc : CLs w g (encP (a ++ x :: b))) (hb : Blk w g ((a ++ x :: b).length * 3)) (hg : g < w.heap.size) : LastAt w g a.length x := by
  have hi : a.length < (a ++ x :: b).length := by simp
  obtain ⟨c0, c1, c2⟩ := hc.ptat a.length hi
  have e : (a ++ x :: b)[a.length] = x := by simp
  rw [e] at c0 c1 c2
  exact ⟨c0, c1, c2, hb.fz, hg⟩

theorem l3Add_any {w : World} {B : Nat} {v : Value} {l : List Pt} (p : Pt) (h : POwn w B v l) (hB : B ≤ w.heap.size) (hl : l.length ≤ 1000) (hbd : ∀ q ∈ l, Bd 1000000 q) (hp : pk p ≠ 0) :
    Calls Tryd.prog 70 #[v, ptV p] w (AddPost l p B w) := by
  have hpb := pk_Bd hp
  have hne : ¬ (p.keep = 0 ∧ p.put.data.toList = [] ∧ p.drop.data.toList = []) := by
    unfold pk at hp
    rintro ⟨c1, c2, c3⟩
    simp [c1, c2, c3] at hp
  rcases List.eq_nil_or_concat l with rfl | ⟨a, x, rfl⟩
  · obtain ⟨a0, cap, rfl, -, -⟩ := own_shp h
    exact l3Add_first p a0 cap B w h hB hne
  · rw [List.concat_eq_append] at *
    obtain ⟨g, cap, rfl, h1, h2, h3, h4, h5, h6⟩ := h.shape (by simp)
    have hL : LastAt w g a.length x := last_at [] h5 h6 h4
    have hxb := hbd x (by simp)
    have hal : a.length ≤ 100000 := by simp at hl; omega
    have e : (a ++ [x]).length = a.length + 1 := by simp
    rw [e] at h h1 ⊢
    unfold pk at hp
    split at hp
    · rename_i hh
      by_cases hx : 0 < x.keep
      · exact l3Add_keep p x a g cap B w h hL hB h3 hal ⟨h1, h2⟩ (by omega) hx (by have := hpb.1; omega) hxb.1
      · exact l3Add_newKeep p x a g cap B w h hL hB hal ⟨h1, h2⟩ (by omega) hh.1 hh.2.1 hx
    · split at hp
      · rename_i hh
        by_cases hxp : x.put.data.toList = []
        · by_cases hxd : x.drop.data.toList = []
          · exact l3Add_newPut p x a g cap B w h hL hB hal ⟨h1, h2⟩ hh.1 hh.2.1 hh.2.2.1 hxp hxd
          · rcases List.eq_nil_or_concat a with rfl | ⟨a', y, rfl⟩
            · exact l3Add_swap0 p x g cap B w h hL hB h3 ⟨h1, h2⟩ hh.1 hh.2.1 hh.2.2.1 hxp hxd
            · rw [List.concat_eq_append] at *
              have e2 : (a' ++ [y]).length = a'.length + 1 := by simp
              have e3 : (a' ++ [y]) ++ [x] = a' ++ y :: [x] := by simp
              have hY : LastAt w g a'.length y := last_at [x] (by rw [← e3]; exact h5) (by rw [← e3]; exact h6) h4
              have hyb := hbd y (by simp)
              rw [e2] at h h1 hL hal ⊢
              by_cases hy : y.put.data.toList = []
              · exact l3Add_swap p x a' y (by omega) g cap B w h hL hB h3 ⟨h1, h2⟩ hh.1 hh.2.1 hh.2.2.1 hxp hxd hy hY.c1
              · rw [e3] at h ⊢
                exact l3Add_join p x y a' g cap B w h hL ⟨hY.c1, hY.fz _, h4⟩ hB h3 (by omega) ⟨h1, h2⟩ hh.1 hh.2.1 hh.2.2.1 hxp hxd hy (by have := hpb.2.1; omega) hyb.2.1
        · exact l3Add_put p x a g cap B w h hL hB h3 hal ⟨h1, h2⟩ hh.1 hh.2.1 hh.2.2.1 hxp (by have := hpb.2.1; omega) hxb.2.1
      · split at hp
        · rename_i hh
          by_cases hxd : x.drop.data.toList = []
          · exact l3Add_newDrop p x a g cap B w h hL hB hal ⟨h1, h2⟩ hh.1 hh.2.1 hh.2.2.1 hxd
          · exact l3Add_drop p x a g cap B w h hL hB h3 hal ⟨h1, h2⟩ hh.1 hh.2.1 hh.2.2.1 hxd (by have := hpb.2.2; omega) hxb.2.2
        · exact absurd rfl hp
end Go.Proofs.YtbmnciejaknonauDoor
