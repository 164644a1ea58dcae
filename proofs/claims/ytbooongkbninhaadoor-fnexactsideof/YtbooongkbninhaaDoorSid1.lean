/- Whose version is to be taken: the program's SideOf and the model's. -/
import Derived.Test.YtbooongkbninhaaDoorWit1
namespace Go.Proofs.YtbooongkbninhaaDoor
open Go.RowKit
open Doc1

def sdN (c a b : ByteArray) : Int := if a = b then 0 else if b = c then 1 else if a = c then 2 else 3
def sdG (c a b : ByteArray) : Bool := good c.data.toList && (good a.data.toList && good b.data.toList)
theorem beq_t {a b : ByteArray} (h : a = b) : (a.toList == b.toList) = true ∧ decide (a = b) = true := by subst h; simp
theorem beq_f {a b : ByteArray} (h : ¬ a = b) : (a.toList == b.toList) = false ∧ decide (a = b) = false := by
  refine ⟨?_, decide_eq_false h⟩
  rw [ByteArray.toList_eq, ByteArray.toList_eq]
  exact beq_eq_false_iff_ne.2 (fun c => h (ByteArray.ext (Array.toList_inj.1 c)))

set_option maxRecDepth 100000 in
set_option maxHeartbeats 2000000 in
theorem sideS (c a b : ByteArray) (w : World) (hc : c.size ≤ 1048576) (ha : a.size ≤ 1048576) (hb : b.size ≤ 1048576) :
    Calls Tryd.prog 20 #[.string c, .string a, .string b] w fun e w' => e = .returned (.tuple #[.int .i64 (if sdG c a b then sdN c a b else 0), .bool (sdG c a b)]) ∧ Below w.heap.size w w' := by
  have H1 := goodTextS_any c w hc
  have H2 := l9Texts_any a b w ha hb
  unfold sdG
  generalize good c.data.toList = x at *
  generalize (good a.data.toList && good b.data.toList) = y at *
  replace H1 := hide H1
  replace H2 := hide H2
  clear hc ha hb
  cases x with
  | false =>
    go_enter Tryd.func20, Tryd.ntmps20
    go_wp2_with fail
    refine H1.out.mono ?_
    rintro e w' ⟨rfl, hw⟩
    replace hw := hw.symm
    subst hw
    go_wp2
    go_ret2
    exact ⟨by simp, Below.refl _ _⟩
  | true =>
    cases y with
    | false =>
      go_enter Tryd.func20, Tryd.ntmps20
      go_wp2_with fail
      refine H1.out.mono ?_
      rintro e w' ⟨rfl, hw⟩
      replace hw := hw.symm
      subst hw
      go_wp2_with fail
      refine H2.out.mono ?_
      rintro e w' ⟨rfl, hw⟩
      replace hw := hw.symm
      subst hw
      go_wp2
      go_ret2
      exact ⟨by simp, Below.refl _ _⟩
    | true =>
      unfold sdN
      by_cases e1 : a = b
      · obtain ⟨q1, q1'⟩ := beq_t e1
        rw [if_pos e1]
        clear e1
        go_enter Tryd.func20, Tryd.ntmps20
        go_wp2_with fail
        refine H1.out.mono ?_
        rintro e w' ⟨rfl, hw⟩
        replace hw := hw.symm
        subst hw
        go_wp2_with fail
        refine H2.out.mono ?_
        rintro e w' ⟨rfl, hw⟩
        replace hw := hw.symm
        subst hw
        go_wp2
        go_ret2
        exact ⟨by simp, Below.refl _ _⟩
      · obtain ⟨q1, q1'⟩ := beq_f e1
        rw [if_neg e1]
        by_cases e2 : b = c
        · obtain ⟨q2, q2'⟩ := beq_t e2
          rw [if_pos e2]
          clear e1 e2
          go_enter Tryd.func20, Tryd.ntmps20
          go_wp2_with fail
          refine H1.out.mono ?_
          rintro e w' ⟨rfl, hw⟩
          replace hw := hw.symm
          subst hw
          go_wp2_with fail
          refine H2.out.mono ?_
          rintro e w' ⟨rfl, hw⟩
          replace hw := hw.symm
          subst hw
          go_wp2
          go_ret2
          exact ⟨by simp, Below.refl _ _⟩
        · obtain ⟨q2, q2'⟩ := beq_f e2
          rw [if_neg e2]
          by_cases e3 : a = c
          · obtain ⟨q3, q3'⟩ := beq_t e3
            rw [if_pos e3]
            clear e1 e2 e3
            go_enter Tryd.func20, Tryd.ntmps20
            go_wp2_with fail
            refine H1.out.mono ?_
            rintro e w' ⟨rfl, hw⟩
            replace hw := hw.symm
            subst hw
            go_wp2_with fail
            refine H2.out.mono ?_
            rintro e w' ⟨rfl, hw⟩
            replace hw := hw.symm
            subst hw
            go_wp2
            go_ret2
            exact ⟨by simp, Below.refl _ _⟩
          · obtain ⟨q3, q3'⟩ := beq_f e3
            rw [if_neg e3]
            clear e1 e2 e3
            go_enter Tryd.func20, Tryd.ntmps20
            go_wp2_with fail
            refine H1.out.mono ?_
            rintro e w' ⟨rfl, hw⟩
            replace hw := hw.symm
            subst hw
            go_wp2_with fail
            refine H2.out.mono ?_
            rintro e w' ⟨rfl, hw⟩
            replace hw := hw.symm
            subst hw
            go_wp2
            go_ret2
            exact ⟨by simp, Below.refl _ _⟩

set_option maxRecDepth 100000 in
set_option maxHeartbeats 2000000 in
theorem sideI (c a b : ByteArray) (w : World) (hc : c.size ≤ 1048576) (ha : a.size ≤ 1048576) (hb : b.size ≤ 1048576) (hT : Tab w) :
    Calls Tryd.prog 21 #[.string c, .string a, .string b] w fun e w' => e = .returned (.tuple #[.int .i64 (if sdG c a b then sdN c a b else 0), .bool (sdG c a b)]) ∧ Below w.heap.size w w' := by
  have H1 := goodTextI_any c w hc hT
  have H2 := goodTextI_any a w ha hT
  have H3 := goodTextI_any b w hb hT
  unfold sdG
  generalize good c.data.toList = x at *
  generalize good a.data.toList = y at *
  generalize good b.data.toList = z at *
  replace H1 := hide H1
  replace H2 := hide H2
  replace H3 := hide H3
  clear hc ha hb hT
  cases x with
  | false =>
    go_enter Tryd.func21, Tryd.ntmps21
    go_wp2_with fail
    refine H1.out.mono ?_
    rintro e w' ⟨rfl, hw⟩
    replace hw := hw.symm
    subst hw
    go_wp2
    go_ret2
    exact ⟨by simp, Below.refl _ _⟩
  | true =>
    cases y with
    | false =>
      go_enter Tryd.func21, Tryd.ntmps21
      go_wp2_with fail
      refine H1.out.mono ?_
      rintro e w' ⟨rfl, hw⟩
      replace hw := hw.symm
      subst hw
      go_wp2_with fail
      refine H2.out.mono ?_
      rintro e w' ⟨rfl, hw⟩
      replace hw := hw.symm
      subst hw
      go_wp2
      go_ret2
      exact ⟨by simp, Below.refl _ _⟩
    | true =>
      cases z with
      | false =>
        go_enter Tryd.func21, Tryd.ntmps21
        go_wp2_with fail
        refine H1.out.mono ?_
        rintro e w' ⟨rfl, hw⟩
        replace hw := hw.symm
        subst hw
        go_wp2_with fail
        refine H2.out.mono ?_
        rintro e w' ⟨rfl, hw⟩
        replace hw := hw.symm
        subst hw
        go_wp2_with fail
        refine H3.out.mono ?_
        rintro e w' ⟨rfl, hw⟩
        replace hw := hw.symm
        subst hw
        go_wp2
        go_ret2
        exact ⟨by simp, Below.refl _ _⟩
      | true =>
        unfold sdN
        by_cases e1 : a = b
        · obtain ⟨q1, q1'⟩ := beq_t e1
          rw [if_pos e1]
          clear e1
          go_enter Tryd.func21, Tryd.ntmps21
          go_wp2_with fail
          refine H1.out.mono ?_
          rintro e w' ⟨rfl, hw⟩
          replace hw := hw.symm
          subst hw
          go_wp2_with fail
          refine H2.out.mono ?_
          rintro e w' ⟨rfl, hw⟩
          replace hw := hw.symm
          subst hw
          go_wp2_with fail
          refine H3.out.mono ?_
          rintro e w' ⟨rfl, hw⟩
          replace hw := hw.symm
          subst hw
          go_wp2
          go_ret2
          exact ⟨by simp, Below.refl _ _⟩
        · obtain ⟨q1, q1'⟩ := beq_f e1
          rw [if_neg e1]
          by_cases e2 : b = c
          · obtain ⟨q2, q2'⟩ := beq_t e2
            rw [if_pos e2]
            clear e1 e2
            go_enter Tryd.func21, Tryd.ntmps21
            go_wp2_with fail
            refine H1.out.mono ?_
            rintro e w' ⟨rfl, hw⟩
            replace hw := hw.symm
            subst hw
            go_wp2_with fail
            refine H2.out.mono ?_
            rintro e w' ⟨rfl, hw⟩
            replace hw := hw.symm
            subst hw
            go_wp2_with fail
            refine H3.out.mono ?_
            rintro e w' ⟨rfl, hw⟩
            replace hw := hw.symm
            subst hw
            go_wp2
            go_ret2
            exact ⟨by simp, Below.refl _ _⟩
          · obtain ⟨q2, q2'⟩ := beq_f e2
            rw [if_neg e2]
            by_cases e3 : a = c
            · obtain ⟨q3, q3'⟩ := beq_t e3
              rw [if_pos e3]
              clear e1 e2 e3
              go_enter Tryd.func21, Tryd.ntmps21
              go_wp2_with fail
              refine H1.out.mono ?_
              rintro e w' ⟨rfl, hw⟩
              replace hw := hw.symm
              subst hw
              go_wp2_with fail
              refine H2.out.mono ?_
              rintro e w' ⟨rfl, hw⟩
              replace hw := hw.symm
              subst hw
              go_wp2_with fail
              refine H3.out.mono ?_
              rintro e w' ⟨rfl, hw⟩
              replace hw := hw.symm
              subst hw
              go_wp2
              go_ret2
              exact ⟨by simp, Below.refl _ _⟩
            · obtain ⟨q3, q3'⟩ := beq_f e3
              rw [if_neg e3]
              clear e1 e2 e3
              go_enter Tryd.func21, Tryd.ntmps21
              go_wp2_with fail
              refine H1.out.mono ?_
              rintro e w' ⟨rfl, hw⟩
              replace hw := hw.symm
              subst hw
              go_wp2_with fail
              refine H2.out.mono ?_
              rintro e w' ⟨rfl, hw⟩
              replace hw := hw.symm
              subst hw
              go_wp2_with fail
              refine H3.out.mono ?_
              rintro e w' ⟨rfl, hw⟩
              replace hw := hw.symm
              subst hw
              go_wp2
              go_ret2
              exact ⟨by simp, Below.refl _ _⟩
end Go.Proofs.YtbooongkbninhaaDoor
