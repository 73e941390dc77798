/- Contract of the reference's Same. -/
import Derived.Test.YtopapmnoepnpcaaDoorCH
namespace Go.Proofs.YtopapmnoepnpcaaDoor
open Go.RowKit
attribute [local go_sem ↓] Go.wp_at_zero Go.wp_at_succ
def sameB (W : Int) (A : List Int) (V : Int) (B : List Int) : Bool := decide (W = V ∧ A = B)
set_option maxRecDepth 100000 in
set_option maxHeartbeats 4000000 in
theorem d11 (u v : Value) (W V : Int) (A B : List Int) (w : World) (hu : Am w u W A) (hv : Am w v V B) : Calls Tryd.prog 11 #[u, v] w fun e w' => e = .returned (.bool (sameB W A V B)) ∧ Below w.heap.size w w' := by
  obtain ⟨a, n, c, rfl, hI⟩ := hu.val
  obtain ⟨a', n', c', rfl, hI'⟩ := hv.val
  have HA : Hid (Sl w a n c A) := hI
  have HB : Hid (Sl w a' n' c' B) := hI'
  have hn := hI.i.len
  have hn' := hI'.i.len
  have hmax := hI.max
  obtain ⟨U, hU⟩ : ∃ U, (w.alloc (.cells #[.int .i64 W, .slice a n c] 24)).alloc (.cells #[.int .i64 V, .slice a' n' c'] 24) = U := ⟨_, rfl⟩
  obtain ⟨p, hp⟩ : ∃ p, w.heap.size = p := ⟨_, rfl⟩
  obtain ⟨q, hq⟩ : ∃ q, p + 1 = q := ⟨_, rfl⟩
  have H0 : Hid (Cm w U p q (.int .i64 W) (.slice a n c) (.int .i64 V) (.slice a' n' c')) := by
    rw [← hU, ← hq, ← hp]
    have b1 : Below w.heap.size w (w.alloc (.cells #[.int .i64 W, .slice a n c] 24)) := (Below.refl _ w).alloc (Nat.le_refl _) _
    refine ⟨?_, ?_, b1.alloc b1.size _⟩
    · rw [heap_alloc_old _ _ (by simp)]; exact heap_alloc_new w _
    · have := heap_alloc_new (w.alloc (.cells #[.int .i64 W, .slice a n c] 24)) (.cells #[.int .i64 V, .slice a' n' c'] 24)
      simpa using this
  obtain ⟨s0, s1⟩ := box2 H0.out.b1
  obtain ⟨t0, t1⟩ := box2 H0.out.b2
  clear hu hv hI hI'
  by_cases hW : W = V
  · by_cases hl : n = n'
    · subst hW hl
      have HE : Hid (∀ k : Nat, A.take k = B.take k → k = n → sameB W A W B = true) := fun k h1 h2 => by
        rw [List.take_of_length_le (by omega), List.take_of_length_le (by omega)] at h1
        simp [sameB, h1]
      have HF : Hid (∀ k : Nat, (∃ (h1 : k < A.length) (h2 : k < B.length), ¬ A[k] = B[k]) → sameB W A W B = false) := fun k ⟨h1, h2, h3⟩ => by
        have : ¬ A = B := fun e => h3 (by subst e; rfl)
        simp [sameB, this]
      have hLA : Hid (A.length = n ∧ B.length = n) := ⟨hn, hn'⟩
      clear hn hn'
      generalize sameB W A W B = R at *
      go_enter Tryd.func11, Tryd.ntmps11
      go_wp2_with fail
      clear hU hp hq s0 s1 t0 t1
      go_loopw [5] (fun i wr => ∃ k : Nat, k ≤ n ∧ i = .int .i64 k ∧ Hid (A.take k = B.take k ∧ Cm w wr p q (.int .i64 W) (.slice a n c) (.int .i64 W) (.slice a' n c'))) (fun i _ => n - (intOf i).toNat)
      case atStart => exact ⟨0, Nat.zero_le _, rfl, rfl, H0.out⟩
      case round =>
        clear H0
        obtain ⟨k, hk, rfl, HC⟩ := hrel
        obtain ⟨s0, s1⟩ := box2 HC.out.2.b1
        obtain ⟨t0, t1⟩ := box2 HC.out.2.b2
        by_cases hlt : k < n
        · have l1 : (k : Int) < (n : Int) := by omega
          have l0 : (0 : Int) ≤ (k : Int) := by omega
          obtain ⟨b, o, hx, rfl, p0⟩ := (HA.out.i.below HC.out.2.bel).at hlt
          obtain ⟨b', o', hx', rfl, p1⟩ := (HB.out.i.below HC.out.2.bel).at hlt
          have HT : Hid (A.take k = B.take k → A[k] = B[k] → A.take (k + 1) = B.take (k + 1)) := fun h1 h2 => by
            rw [← List.take_append_getElem hx, ← List.take_append_getElem hx', h1, h2]
          have HFk : Hid (¬ A[k] = B[k] → R = false) := fun h => HF.out k ⟨hx, hx', h⟩
          generalize A[k] = x at *
          generalize B[k] = y at *
          by_cases e : x = y
          · have H5 : Hid (A.take (k + 1) = B.take (k + 1) ∧ ∀ V', Below wr.heap.size wr V' → Cm w V' p q (.int .i64 W) (.slice (some ⟨b, o, none⟩) n c) (.int .i64 W) (.slice (some ⟨b', o', none⟩) n c')) := ⟨HT.out HC.out.1 e, fun V' hV' => HC.out.2.below hV'⟩
            subst e
            go_wp2_with fail
            go_region
            go_wp2_with fail
            go_roundw
            case rel => exact ⟨k + 1, by omega, by go_num, H5.out.1, H5.out.2 _ ((Below.refl _ _).drew)⟩
            case measure => simp [intOf]; omega
          · have HR : Hid (R = false) := HFk.out e
            go_wp2_with fail
            go_region
            go_wp2_with fail
            go_ret
            exact ⟨by rw [HR.out]; rfl, HC.out.2.bel.drew⟩
        · have HR : Hid (R = true) := HE.out k HC.out.1 (by omega)
          go_wp2_with fail
          go_ret
          exact ⟨by rw [HR.out]; rfl, HC.out.2.bel⟩
    · have HE : sameB W A V B = false := by
        have : ¬ A = B := fun e => hl (by rw [← hn, ← hn', e])
        simp [sameB, this]
      rw [HE]
      subst hW
      have hlI : ¬ (n : Int) = (n' : Int) := by omega
      go_enter Tryd.func11, Tryd.ntmps11
      go_wp2_with fail
      go_ret
      exact ⟨rfl, H0.out.bel⟩
  · have HE : sameB W A V B = false := by simp [sameB, hW]
    rw [HE]
    go_enter Tryd.func11, Tryd.ntmps11
    go_wp2_with fail
    go_ret
    exact ⟨rfl, H0.out.bel⟩
end Go.Proofs.YtopapmnoepnpcaaDoor
