/- Contract of the reference's Reckon: all operators. -/
import Derived.Test.YteikdgjlhdgapaaDoorAR21P
namespace Go.Proofs.YteikdgjlhdgapaaDoor
open Go.RowKit
attribute [local go_sem ↓] Go.wp_at_zero Go.wp_at_succ
set_option maxRecDepth 100000 in
set_option maxHeartbeats 4000000 in
theorem h18_o (op : ByteArray) (ns : List Int) (v : Value) (w : World) (hI : IntsR w v ns) (hok : ns.any greatB = false) (hop : ∀ i, i < 8 → ((opT i).toList == op.toList) = false) : Calls Tryd.prog 18 #[.string op, v] w fun e w' => e = .returned (.tuple #[.int .i64 (reckS op ns).1, .bool (reckS op ns).2]) ∧ w' = w := by
  have HI : Hid (IntsR w v ns) := hI
  have HG : Hid (∀ x ∈ ns, greatB x = false) := fun x hx => by simpa using List.any_eq_false.1 hok x hx
  have hm := hI.1
  unfold maxLen at hm
  have HV : Hid (reckS op ns = (0, false)) := reck_none (find_none fun j hj => by unfold matchB; rw [hop j hj, Bool.false_and])
  have f0 : (op.toList == [43]) = false := by rw [BEq.comm, ← show (⟨#[43]⟩ : ByteArray).toList = [43] by kernel_rfl]; exact hop 0 (by omega)
  have f1 : (op.toList == [45]) = false := by rw [BEq.comm, ← show (⟨#[45]⟩ : ByteArray).toList = [45] by kernel_rfl]; exact hop 1 (by omega)
  have f2 : (op.toList == [42]) = false := by rw [BEq.comm, ← show (⟨#[42]⟩ : ByteArray).toList = [42] by kernel_rfl]; exact hop 2 (by omega)
  have f3 : (op.toList == [100, 105, 118]) = false := by rw [BEq.comm, ← show (⟨#[100, 105, 118]⟩ : ByteArray).toList = [100, 105, 118] by kernel_rfl]; exact hop 3 (by omega)
  have f4 : (op.toList == [109, 111, 100]) = false := by rw [BEq.comm, ← show (⟨#[109, 111, 100]⟩ : ByteArray).toList = [109, 111, 100] by kernel_rfl]; exact hop 4 (by omega)
  have f5 : (op.toList == [109, 105, 110]) = false := by rw [BEq.comm, ← show (⟨#[109, 105, 110]⟩ : ByteArray).toList = [109, 105, 110] by kernel_rfl]; exact hop 5 (by omega)
  have f6 : (op.toList == [109, 97, 120]) = false := by rw [BEq.comm, ← show (⟨#[109, 97, 120]⟩ : ByteArray).toList = [109, 97, 120] by kernel_rfl]; exact hop 6 (by omega)
  have f7 : (op.toList == [97, 98, 115]) = false := by rw [BEq.comm, ← show (⟨#[97, 98, 115]⟩ : ByteArray).toList = [97, 98, 115] by kernel_rfl]; exact hop 7 (by omega)
  clear hop
  obtain ⟨ad, cap, hv⟩ := hI.form
  subst hv
  clear hI hok
  go_enter Tryd.func18, Tryd.ntmps18
  go_wp2_with fail
  go_loopw [6] (fun i wr => ∃ k : Nat, k ≤ ns.length ∧ i = .int .i64 k ∧ wr = w) (fun i _ => ns.length - (intOf i).toNat)
  case atStart => exact ⟨0, by omega, rfl, rfl⟩
  case round =>
    obtain ⟨k, hk, rfl, rfl⟩ := hrel
    by_cases hlt : k < ns.length
    · have hlt' : (k : Int) < (ns.length : Int) := by omega
      have hk0 : (0 : Int) ≤ (k : Int) := by omega
      obtain ⟨b, o, cp, hu, c0, _⟩ := HI.out.at k hlt
      simp only [Value.slice.injEq] at hu
      obtain ⟨rfl, _, rfl⟩ := hu
      have H38 := h38 ns[k] wr
      rw [HG.out _ (List.getElem_mem hlt)] at H38
      generalize ns[k] = x at *
      go_wp2_with fail
      refine H38.mono ?_
      rintro e w1 ⟨rfl, hw⟩
      obtain rfl := hw
      go_wp2_with fail
      go_roundw
      case rel => exact ⟨k + 1, by omega, by go_num, trivial⟩
      case measure => simp [intOf]; omega
    · have hlt' : ¬ ((k : Int) < (ns.length : Int)) := by omega
      rcases two_cases ns with ⟨x, y, rfl⟩ | hn2
      · obtain ⟨b, o, cp, hu, hc⟩ := pair_cells HI.out
        obtain ⟨c0, c1⟩ := hc _ (Below.refl _ _)
        simp only [Value.slice.injEq] at hu
        obtain ⟨rfl, _, rfl⟩ := hu
        have hlt2 : ¬ ((k : Int) < 2) := by simp at hlt; omega
        clear hlt hlt' hk
        go_wp2_with fail
        exact bodyPost_ret (v := .tuple #[.int .i64 0, .bool false]) (by simp [results, Tryd.results18, go_sem]) rfl ⟨by rw [HV.out], rfl⟩
      · have hne : (((ns.length : Int)) != 2) = true := by simp; omega
        go_wp2_with fail
        exact bodyPost_ret (v := .tuple #[.int .i64 0, .bool false]) (by simp [results, Tryd.results18, go_sem]) rfl ⟨by rw [HV.out], rfl⟩
end Go.Proofs.YteikdgjlhdgapaaDoor
