/- The contract of the library's Contains at kinds. -/
import Derived.Test.YtampjlafhglceaaDoorL1
import Derived.Deep.MidRow
namespace Go.Proofs.YtampjlafhglceaaDoor
open Go.RowKit
/-- Kinds in memory. -/
def KindsAt (w : World) (ad : Option Addr) (ks : List Int) : Prop := ∀ j k, ks[j]? = some k → ∃ g, ad = some ⟨g, 0, none⟩ ∧ w.cell? ⟨g, j, none⟩ = some (.int .u8 k)
def idxK (ks : List Int) (x : Int) : Int := match ks.findIdx? (· == x) with
  | some i => (i : Int)
  | none => -1
theorem idx_contains (ks : List Int) (x : Int) : decide (0 ≤ idxK ks x) = ks.contains x := by
  unfold idxK
  cases h : ks.findIdx? (· == x) with
  | none =>
    rw [List.findIdx?_eq_none_iff] at h
    have : ks.contains x = false := by
      cases hc : ks.contains x with
      | false => rfl
      | true =>
        have hm := List.contains_iff_mem.1 hc
        have := h x hm
        simp at this
    rw [this]; rfl
  | some i =>
    rw [List.findIdx?_eq_some_iff_getElem] at h
    obtain ⟨h1, h2, _⟩ := h
    have : ks.contains x = true := by
      rw [List.contains_iff_mem]
      have e : ks[i] = x := by simpa using h2
      exact e ▸ List.getElem_mem h1
    rw [this]; simp
theorem idx_some (ks : List Int) (x : Int) (k : Nat) (hk : k < ks.length) (h : ∀ j (hj : j < k), ks[j]'(by omega) ≠ x) (hx : ks[k] = x) : idxK ks x = k := by
  unfold idxK
  rw [List.findIdx?_eq_some_iff_getElem.2 ⟨hk, by simp [hx], fun j hj => by simpa using h j hj⟩]
theorem idx_none (ks : List Int) (x : Int) (h : ∀ j (hj : j < ks.length), ks[j] ≠ x) : idxK ks x = -1 := by
  unfold idxK
  rw [List.findIdx?_eq_none_iff.2 (fun y hy => by
    obtain ⟨j, hj, rfl⟩ := List.getElem_of_mem hy
    simpa using h j hj)]
set_option maxRecDepth 100000 in
set_option maxHeartbeats 1000000 in
theorem c49 (ad : Option Addr) (cap : Nat) (ks : List Int) (x : Int) (w : World) (hR : KindsAt w ad ks) (hlen : ks.length ≤ 1000000000) :
    Calls Tryd.prog 49 #[.slice ad ks.length cap, .int .u8 x] w fun e w' => e = .returned (.int .i64 (idxK ks x)) ∧ w' = w := by
  have HR : Hid (KindsAt w ad ks) := hR
  clear hR
  go_enter Tryd.func49, Tryd.ntmps49
  go_wp2_with fail
  go_loop [8] (fun kv => ∃ k : Nat, k ≤ ks.length ∧ kv = .int .i64 k ∧ Hid (∀ j (hj : j < k) (hk : k ≤ ks.length), ks[j]'(by omega) ≠ x)) (fun kv => ks.length - (intOf kv).toNat)
  case atStart => exact ⟨0, Nat.zero_le _, rfl, fun j hj => by omega⟩
  case round =>
    obtain ⟨k, hk, rfl, HN⟩ := hrel
    by_cases hlt : k < ks.length
    · have hlt' : (k : Int) < (ks.length : Int) := by omega
      have hk0 : (0 : Int) ≤ (k : Int) := by omega
      obtain ⟨g, hg, hc⟩ := HR.out k ks[k] (List.getElem?_eq_getElem hlt)
      subst hg
      cases hq : (x == ks[k])
      · have hN : Hid (∀ j (hj : j < k + 1) (hk : k + 1 ≤ ks.length), ks[j]'(by omega) ≠ x) := fun j hj _ => by
          by_cases e : j = k
          · subst e; intro h; rw [h] at hq; simp at hq
          · exact HN.out j (by omega) hk
        clear HN
        go_wp2_with fail
        go_round
        case rel => exact ⟨k + 1, by omega, by go_num, hN⟩
        case measure => simp [intOf]; omega
      · have hx : ks[k] = x := by simpa using Eq.symm (by simpa using hq : x = ks[k])
        have hT : Hid (idxK ks x = k) := idx_some ks x k hlt (fun j hj => HN.out j hj hk) hx
        clear HN
        go_wp2_with fail
        go_ret
        exact ⟨by rw [hT.out]; rfl, rfl⟩
    · obtain rfl : k = ks.length := by omega
      have hlt' : ¬ ((ks.length : Int) < (ks.length : Int)) := by omega
      have hT : Hid (idxK ks x = -1) := idx_none ks x (fun j hj => HN.out j hj (Nat.le_refl _))
      go_wp2_with fail
      go_ret
      exact ⟨by rw [hT.out]; rfl, rfl⟩
set_option maxRecDepth 100000 in
theorem c32 (ad : Option Addr) (cap : Nat) (ks : List Int) (x : Int) (w : World) (hR : KindsAt w ad ks) (hlen : ks.length ≤ 1000000000) :
    Calls Tryd.prog 32 #[.slice ad ks.length cap, .int .u8 x] w fun e w' => e = .returned (.bool (ks.contains x)) ∧ w' = w := by
  have H49 := fun w h => c49 ad cap ks x w h hlen
  rw [← idx_contains ks x]
  go_enter Tryd.func32, Tryd.ntmps32
  go_wp2_with fail
  refine (H49 _ hR).mono ?_
  rintro e w' ⟨rfl, rfl⟩
  go_wp2_with fail
  go_ret
  exact ⟨rfl, rfl⟩
end Go.Proofs.YtampjlafhglceaaDoor
