/- The model's numbers in digits. -/
import Derived.Test.YtmjehpigfkobeabDoorWalksQ
import Derived.Test.YtmjehpigfkobeabDoorByt1
import Derived.Lib.ConvBytes
import Derived.BigQuiet
import Derived.Deep.QuietTactic
import Derived.Deep.RegionWith
set_option linter.unusedVariables false
namespace Go.Proofs.YtmjehpigfkobeabDoor
open Go.RowKit
open Doc1

def baD (n : Nat) : ByteArray := ⟨(dig n).toArray⟩
theorem baD_small {n : Nat} (h : n < 10) : baD n = ⟨#[UInt8.ofNat (48 + n)]⟩ := by unfold baD; rw [dig_small h]

theorem dconv_one (W : World) (b : Nat) (v : Int) (cap : Nat) (h0 : 0 ≤ v) (h1 : v ≤ 255) (h : W.cell? ⟨b, 0, none⟩ = some (.int .u8 v)) : (convert 62 9 (.slice (some ⟨b, 0, none⟩) 1 cap)).run Tryd.prog W = .ok (.string ⟨#[UInt8.ofNat v.toNat]⟩) W := by
  refine run_convert_bytes_back W _ _ 5 ⟨b, 0, none⟩ cap [UInt8.ofNat v.toNat] Tryd.underlying62 Tryd.underlying5 Tryd.underlying9 ?_
  intro j hj
  match j, hj with
  | 0, _ =>
    show W.cell? ⟨b, 0 + 0, none⟩ = _
    rw [h]
    have : (UInt8.ofNat v.toNat).toNat = v.toNat := by simp [UInt8.toNat_ofNat']; omega
    simp [this]
    omega
theorem dconv_new (W : World) (v : Int) (h0 : 0 ≤ v) (h1 : v ≤ 255) : (convert 62 9 (.slice (some ⟨W.heap.size, 0, none⟩) 1 1)).run Tryd.prog (W.alloc (.cells #[.int .u8 v] 5)) = .ok (.string ⟨#[UInt8.ofNat v.toNat]⟩) (W.alloc (.cells #[.int .u8 v] 5)) :=
  dconv_one _ _ v 1 h0 h1 (by rw [World.cell?_alloc_at _ _ _ _ rfl]; rfl)
theorem dcell_kept {W w3 : World} {v : Value} {T : TypeId} (hb : Below (W.alloc (.cells #[v] T)).heap.size (W.alloc (.cells #[v] T)) w3) : w3.cell? ⟨W.heap.size, 0, none⟩ = some v := by
  rw [World.cell?_of_block (hb.block W.heap.size (by simp)), World.cell?_alloc_at _ _ _ _ rfl]; rfl
theorem dcell_keptd {W w3 : World} {v : Value} {T : TypeId} (hb : Below (W.alloc (.cells #[v] T)).drew.heap.size (W.alloc (.cells #[v] T)).drew w3) : w3.cell? ⟨W.heap.size, 0, none⟩ = some v := by
  rw [hb.cell (p := ⟨W.heap.size, 0, none⟩) (by show W.heap.size < (W.alloc _).heap.size; simp)]
  show (W.alloc _).cell? _ = _
  rw [World.cell?_alloc_at _ _ _ _ rfl]; rfl
theorem dcell_newd (W : World) (v : Value) (T : TypeId) : (W.alloc (.cells #[v] T)).drew.cell? ⟨W.heap.size, 0, none⟩ = some v := by
  show (W.alloc _).cell? _ = _
  rw [World.cell?_alloc_at _ _ _ _ rfl]; rfl
theorem dig_few (n : Nat) : (dig n).length ≤ n + 1 := by
  induction n using Nat.strongRecOn with
  | ind n ih =>
    by_cases h : n < 10
    · rw [dig_small h]; simp
    · rw [dig_big h, List.length_append]
      have := ih (n / 10) (by omega)
      simp only [List.length_cons, List.length_nil]
      omega
theorem baD_size (n : Nat) : (baD n).size ≤ n + 1 := by
  have := dig_few n
  unfold baD
  show (dig n).toArray.size ≤ _
  simpa using this
theorem dig_app {n : Nat} (h : ¬ n < 10) : baD (n / 10) ++ (⟨#[UInt8.ofNat (48 + (n : Int) % 10).toNat]⟩ : ByteArray) = baD n := by
  refine ByteArray.ext (Array.ext' ?_)
  rw [ByteArray.data_append, Array.toList_append]
  unfold baD
  rw [dig_big h, show (48 + (n : Int) % 10).toNat = 48 + n % 10 from by omega]

set_option maxRecDepth 100000 in
set_option maxHeartbeats 2000000 in
theorem numS_any : ∀ (n : Nat) (w : World), n ≤ 1000000000000 →
    Calls Tryd.prog 79 #[.int .i64 n] w fun e w' => e = .returned (.string (baD n)) ∧ Below w.heap.size w w' := by
  intro n
  induction n using Nat.strongRecOn with
  | ind n ih =>
    intro w hn
    by_cases h : n < 10
    · have kc := dconv_new w (48 + (n : Int)) (by omega) (by omega)
      have hr := hide (baD_small h)
      go_enter Tryd.func79, Tryd.ntmps79
      go_wp2
      go_ret
      exact ⟨by rw [hr.out, show 48 + n = (48 + (n : Int)).toNat from by omega]; rfl, (Below.refl _ w).alloc (Nat.le_refl _) _⟩
    · have IH0 := fun w' => ih (n / 10) (by omega) w' (by omega)
      have e1 : (((n / 10 : Nat)) : Int) = IntKind.i64.wrap ((n : Int) / 10) := by unfold IntKind.wrap; simp [IntKind.bits, IntKind.signed]; omega
      have e2 : (48 + (n : Int) % 10) = IntKind.u8.wrap (IntKind.i64.wrap (48 + ((n : Int)).tmod 10)) := by
        have : ((n : Int)).tmod 10 = (n : Int) % 10 := Int.tmod_eq_emod_of_nonneg (by omega)
        rw [this]; unfold IntKind.wrap; simp [IntKind.bits, IntKind.signed]; omega
      rw [e1] at IH0
      have hr := hide (dig_app h)
      have hxs := baD_size (n / 10)
      obtain ⟨X, hX⟩ : ∃ X, baD (n / 10) = X := ⟨_, rfl⟩
      rw [hX] at hxs
      rw [hX] at IH0 hr
      have IH := hide IH0
      have kc := fun W => dconv_new W (48 + (n : Int) % 10) (by omega) (by omega)
      have kd := fun W b (h : W.cell? ⟨b, 0, none⟩ = some (.int .u8 (48 + (n : Int) % 10))) => dconv_one W b _ 1 (by omega) (by omega) h
      obtain ⟨D, hD⟩ : ∃ D : ByteArray, (⟨#[UInt8.ofNat (48 + (n : Int) % 10).toNat]⟩ : ByteArray) = D := ⟨_, rfl⟩
      have hds : D.size = 1 := by rw [← hD]; rfl
      rw [hD] at hr
      simp only [hD] at kc kd
      rw [e2] at kc kd
      have kf := kd (w.alloc (.cells #[.int .u8 (IntKind.u8.wrap (IntKind.i64.wrap (48 + ((n : Int)).tmod 10)))] 5)).drew w.heap.size (dcell_newd _ _ _)
      replace kd := hide kd
      clear IH0 ih hX hD e1 e2
      go_enter Tryd.func79, Tryd.ntmps79
      go_wp2
      go_region_with (go_at_call 79; refine (IH.out _).mono ?_; rintro e w2 ⟨rfl, hb2⟩; (try (have kc2 := kd.out w2 w.heap.size (dcell_keptd hb2))))
      all_goals
        go_wp2
        go_ret
        refine ⟨by rw [← hr.out]; rfl, ?_⟩
        first
        | exact (((Below.refl _ w).drew).trans hb2).alloc hb2.size _
        | exact (((Below.refl _ w).alloc (Nat.le_refl _) _).drew).trans (hb2.mono (by show w.heap.size ≤ (w.alloc _).heap.size; simp))

end Go.Proofs.YtmjehpigfkobeabDoor
