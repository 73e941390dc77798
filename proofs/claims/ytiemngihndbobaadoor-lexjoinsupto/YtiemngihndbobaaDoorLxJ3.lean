/- The contracts of the reference's Join and of LexJoins. -/
import Derived.Test.YtiemngihndbobaaDoorLxJ2
namespace Go.Proofs.YtiemngihndbobaaDoor.Lx
open Go.RowKit
theorem tail_snoc (l : List (List UInt8)) (t : List UInt8) : tailL (l ++ [t]) = tailL l ++ (32 :: t) := by
  induction l with
  | nil => simp [tailL]
  | cons a r ih => simp only [List.cons_append, tailL, ih, List.append_assoc]
theorem join_snoc (l : List (List UInt8)) (t : List UInt8) (h : l ≠ []) : joinL (l ++ [t]) = joinL l ++ (32 :: t) := by
  cases l with
  | nil => exact absurd rfl h
  | cons a r => simp only [List.cons_append, joinL, tail_snoc, List.append_assoc]
theorem texts_ne (l : List T) : ∀ x ∈ textsOf l, x.size ≠ 0 := by
  intro x hx
  unfold textsOf at hx
  obtain ⟨t, ht, rfl⟩ := List.mem_map.1 hx
  exact of_decide_eq_true (List.mem_filter.1 ht).2
theorem join_empty (l : List ByteArray) (h : ∀ x ∈ l, x.size ≠ 0) (hj : (joinL (l.map (·.data.toList))).length = 0) : l = [] := by
  cases l with
  | nil => rfl
  | cons a r =>
    have := h a List.mem_cons_self
    simp only [List.map_cons, joinL, List.length_append, len_list] at hj
    omega
theorem join_take_le (l : List T) (k : Nat) : (joinL ((textsOf (l.take k)).map (·.data.toList))).length ≤ (l.map (·.t.size)).sum + l.length := by
  have h1 := texts_join (l.take k)
  have h2 : ((l.take k).map (·.t.size)).sum + ((l.drop k).map (·.t.size)).sum = (l.map (·.t.size)).sum := by
    rw [← List.sum_append, ← List.map_append, List.take_append_drop]
  rw [List.length_take] at h1
  omega
set_option maxRecDepth 100000 in
set_option maxHeartbeats 2000000 in
theorem c7 (L : List T) (ad : Option Addr) (cap : Nat) (w : World) (hC : ∀ i x, L[i]? = some x → ∃ g, ad = some ⟨g, 0, none⟩ ∧ w.cell? ⟨g, i * 5 + 1, none⟩ = some (.string x.t)) (hlen : L.length ≤ 100000000) (hsum : (L.map (·.t.size)).sum ≤ 100000000) :
    Calls Tryd.prog 7 #[.slice ad L.length cap] w fun e w' => e = .returned (.string ⟨(joinL ((textsOf L).map (·.data.toList))).toArray⟩) ∧ w' = w := by
  have HC : Hid (∀ i x, L[i]? = some x → ∃ g, ad = some ⟨g, 0, none⟩ ∧ w.cell? ⟨g, i * 5 + 1, none⟩ = some (.string x.t)) := hC
  clear hC
  go_enter Tryd.func7, Tryd.ntmps7
  go_wp2_with fail
  go_loop [3, 4] (fun sv kv => ∃ k : Nat, k ≤ L.length ∧ kv = .int .i64 k ∧ ∃ rb : ByteArray, sv = .string rb ∧ rb.size ≤ 200000000 ∧ Hid (rb.data.toList = joinL ((textsOf (L.take k)).map (·.data.toList)))) (fun _ kv => L.length - (intOf kv).toNat)
  case atStart => exact ⟨0, Nat.zero_le _, rfl, ⟨#[]⟩, rfl, Nat.zero_le _, rfl⟩
  case round =>
    obtain ⟨k, hk, rfl, rb, rfl, hrb, HB⟩ := hrel
    by_cases hlt : k < L.length
    · have hlt' : (k : Int) < (L.length : Int) := by omega
      have hk0 : (0 : Int) ≤ (k : Int) := by omega
      obtain ⟨g, hg, hc⟩ := HC.out k L[k] (List.getElem?_eq_getElem hlt)
      subst hg
      have hT0 := texts_take0 L k hlt
      have hT1 := texts_take1 L k hlt
      have hjl := join_take_le L (k + 1)
      generalize L[k] = x at *
      obtain ⟨xk, xt, xn, xd, xa⟩ := x
      simp only at hc hT0 hT1
      by_cases h0 : xt.size = 0
      · have hN : Hid (rb.data.toList = joinL ((textsOf (L.take (k + 1))).map (·.data.toList))) := by
          show rb.data.toList = _
          rw [hT0 h0]; exact HB.out
        have hxe : xt = ⟨#[]⟩ := byte_ext (List.eq_nil_of_length_eq_zero (by rw [len_list, h0]))
        clear hT0 hT1 h0 HB hjl
        subst hxe
        go_wp2_with fail
        go_round
        case rel => exact ⟨k + 1, by omega, by go_num, rb, rfl, hrb, hN⟩
        case measure => simp [intOf]; omega
      · have hT1' := hT1 h0
        have hne : xt.toList.isEmpty = false := by
          rw [ByteArray.toList_eq, List.isEmpty_eq_false_iff]
          intro h2
          have h3 : xt.data.toList.length = 0 := by rw [h2]; rfl
          rw [len_list] at h3; omega
        by_cases hr0 : rb.size = 0
        · have hre : rb = ⟨#[]⟩ := byte_ext (List.eq_nil_of_length_eq_zero (by rw [len_list, hr0]))
          have htx : textsOf (L.take k) = [] := join_empty _ (texts_ne _) (by rw [← HB.out, len_list, hr0])
          have hN : Hid ((⟨#[]⟩ ++ xt : ByteArray).data.toList = joinL ((textsOf (L.take (k + 1))).map (·.data.toList))) := by
            show (⟨#[]⟩ ++ xt : ByteArray).data.toList = _
            rw [hT1', htx]; simp [joinL, tailL]
          have hsz : (⟨#[]⟩ ++ xt : ByteArray).size ≤ 200000000 := by
            have := hN.out
            rw [← len_list, this]; omega
          have hxs : xt.size ≤ 200000000 := by
            have := hsz
            simp only [ByteArray.size_append] at this
            omega
          clear hT0 hT1 h0 HB hjl hT1' htx hr0
          subst hre
          go_wp2_with fail
          go_round
          case rel => exact ⟨k + 1, by omega, by go_num, _, rfl, hsz, hN⟩
          case measure => simp [intOf]; omega
        · have hrn : rb.toList.isEmpty = false := by
            rw [ByteArray.toList_eq, List.isEmpty_eq_false_iff]
            intro h2
            have h3 : rb.data.toList.length = 0 := by rw [h2]; rfl
            rw [len_list] at h3; omega
          have htx : textsOf (L.take k) ≠ [] := by
            intro h
            have h3 := HB.out
            rw [h] at h3
            have h4 : rb.data.toList.length = 0 := by rw [h3]; rfl
            rw [len_list] at h4; omega
          have hN : Hid ((rb ++ ⟨#[32]⟩ ++ xt : ByteArray).data.toList = joinL ((textsOf (L.take (k + 1))).map (·.data.toList))) := by
            show (rb ++ ⟨#[32]⟩ ++ xt : ByteArray).data.toList = _
            rw [hT1', List.map_append, List.map_cons, List.map_nil, join_snoc _ _ (by simpa using htx), ← HB.out]
            simp
          have hsz : (rb ++ ⟨#[32]⟩ ++ xt : ByteArray).size ≤ 200000000 := by
            have := hN.out
            rw [← len_list, this]; omega
          have hxs : xt.size ≤ 200000000 := by
            have := hsz
            simp only [ByteArray.size_append] at this
            omega
          clear hT0 hT1 h0 HB hjl hT1' htx hr0
          go_wp2_with fail
          go_round
          case rel => exact ⟨k + 1, by omega, by go_num, _, rfl, hsz, hN⟩
          case measure => simp [intOf]; omega
    · obtain rfl : k = L.length := by omega
      have hlt' : ¬ ((L.length : Int) < (L.length : Int)) := by omega
      have hT : Hid (rb = ⟨(joinL ((textsOf L).map (·.data.toList))).toArray⟩) := by
        have h := HB.out
        rw [List.take_length] at h
        exact byte_ext (by rw [h])
      clear HB
      go_wp2_with fail
      go_ret
      exact ⟨by rw [← hT.out]; rfl, rfl⟩
end Go.Proofs.YtiemngihndbobaaDoor.Lx
