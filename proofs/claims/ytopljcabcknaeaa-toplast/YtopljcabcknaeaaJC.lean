/- Contract of first: the record with which bytes begin. -/
import Derived.Test.YtopljcabcknaeaaJB
namespace Go.Proofs.Ytopljcabcknaeaa
open Go.RowKit
/-- How long the first payload says it is. -/
def lenI (xs : List Int) : Int := wordI (xs.take 4)
def sumI (xs : List Int) : Int := wordI ((xs.drop 4).take 4)
/-- Is there room for the first record? -/
def roomI (xs : List Int) : Bool := decide (8 ≤ xs.length ∧ lenI xs ≤ 131072 ∧ lenI xs ≤ ((xs.length - 8 : Nat) : Int))
/-- The first payload, where there is room for it. -/
def payI (xs : List Int) : List Int := (xs.drop 8).take (lenI xs).toNat
/-- Is the first record complete? -/
def okI (xs : List Int) : Bool := roomI xs && decide (((sumB (payI xs)).toNat : Int) = sumI xs)
theorem wordI_bd {a b c d : Int} (ha : Byte a) (hb : Byte b) (hc : Byte c) (hd : Byte d) : 0 ≤ wordI [a, b, c, d] ∧ wordI [a, b, c, d] < 4294967296 := by
  obtain ⟨_, _⟩ := ha
  obtain ⟨_, _⟩ := hb
  obtain ⟨_, _⟩ := hc
  obtain ⟨_, _⟩ := hd
  rw [wordI_four]
  omega
theorem four_of {l : List Int} (h : l.length = 4) : ∃ a b c d, l = [a, b, c, d] := by
  match l, h with
  | [a, b, c, d], _ => exact ⟨a, b, c, d, rfl⟩
theorem word_bd {l : List Int} (h : l.length = 4) (hb : ∀ x ∈ l, Byte x) : 0 ≤ wordI l ∧ wordI l < 4294967296 := by
  obtain ⟨a, b, c, d, rfl⟩ := four_of h
  exact wordI_bd (hb _ (by simp)) (hb _ (by simp)) (hb _ (by simp)) (hb _ (by simp))
theorem below_dN {n : Nat} {w w' : World} (h : Below n w w') (m : Nat) : Below n w (w'.drewN m) := by
  exact below_drewN h m
/-- Bytes of a part of a slice. -/
theorem By.part {w : World} {a : Option Addr} {n c : Nat} {xs : List Int} (h : By w a n c xs) {b o : Nat} (ha : a = some ⟨b, o, none⟩) {lo m c' : Nat} (h1 : lo + m ≤ n) (h2 : m ≤ c') : By w (some ⟨b, o + lo, none⟩) m c' ((xs.drop lo).take m) := by
  have hl := h.len
  refine ⟨by rw [List.length_take, List.length_drop]; omega, h2, fun e => by (cases e), fun x hx => h.rng x (List.mem_of_mem_drop (List.mem_of_mem_take hx)), ?_⟩
  rcases h.mem with e | ⟨b', o', e, hlt, hr⟩
  · exact .inl (by omega)
  · rw [ha] at e
    cases e
    refine .inr ⟨b, o + lo, rfl, hlt, fun j u hu => ?_⟩
    have := hr (lo + j) u (by
      rw [u8s, List.getElem?_map, List.getElem?_take] at hu
      split at hu
      · rw [List.getElem?_drop] at hu
        rw [u8s, List.getElem?_map]; exact hu
      · cases hu)
    rw [← Nat.add_assoc] at this
    exact this
theorem By.empty {w : World} (a : Addr) (c : Nat) : By w (some a) 0 c [] := ⟨rfl, Nat.zero_le _, fun e => by (cases e), by simp, .inl rfl⟩
set_option maxRecDepth 100000 in
set_option maxHeartbeats 1000000 in
theorem j59_short (a : Option Addr) (n c : Nat) (w : World) (hn : n < 8) :
    Calls Try.prog 31 #[.slice a n c] w fun e w' => e = .returned (.tuple #[.slice none 0 0, .bool false]) ∧ w' = w := by
  have h1 : (n : Int) < 8 := by omega
  go_enter Try.func31, Try.ntmps31
  go_wp2_with fail
  go_ret2
  exact ⟨rfl, rfl⟩
set_option maxRecDepth 100000 in
set_option maxHeartbeats 2000000 in
theorem j59_great (b o m d l : Nat) (S s : Int) (w : World) (hmd : m ≤ d) (hL1 : (l : Int) < 4294967296) (_hS0 : 0 ≤ S) (_hS1 : S < 4294967296) (_hs0 : 0 ≤ s) (_hs1 : s < 4294967296)
    (H62 : Hid (∀ w' o' v, (o' = o ∧ v = (l : Int)) ∨ (o' = o + 4 ∧ v = S) → Below w.heap.size w w' → Calls Try.prog 32 #[.slice (some ⟨b, o', none⟩) 4 4] w' fun e w'' => e = .returned (.int .u32 v) ∧ w'' = w'))
    (H16 : Hid (∀ w' ad, l ≤ m → (0 < l → ad = ⟨b, o + 8, none⟩) → Below w.heap.size w w' → Calls Try.prog 29 #[.slice (some ad) l l] w' fun e w'' => e = .returned (.int .u32 s) ∧ w'' = w'))
    (hb : 131072 < l) :
    Calls Try.prog 31 #[.slice (some ⟨b, o, none⟩) (m + 8) (d + 8)] w fun e w' => (e = .returned (.tuple #[.slice none 0 0, .bool false])) ∧ ∃ d, w' = w.drewN d := by
  have h1 : ¬ ((m : Int) + 8) < 8 := by omega
  have g1 : (4 : Int) ≤ (d : Int) + 8 := by omega
  have g2 : (8 : Int) ≤ (d : Int) + 8 := by omega
  have g3 : (8 : Int) ≤ (m : Int) + 8 := by omega
  have hb1 : (131072 : Int) < (l : Int) := by omega
  by_cases hc8 : d = 0
  · subst hc8
    obtain rfl : m = 0 := by omega
    · go_enter Try.func31, Try.ntmps31
      go_wp2_with fail
      go_quiet (first | (go_at_call 32; exact Calls.quiet_of_same (H62.out _ _ _ (by first | exact .inl ⟨rfl, rfl⟩ | exact .inr ⟨rfl, rfl⟩) (below_dN (Below.refl _ _) _))))
      go_wp2_with fail
      go_ret2
      exact ⟨rfl, _, rfl⟩
  · · go_enter Try.func31, Try.ntmps31
      go_wp2_with fail
      go_quiet (first | (go_at_call 32; exact Calls.quiet_of_same (H62.out _ _ _ (by first | exact .inl ⟨rfl, rfl⟩ | exact .inr ⟨rfl, rfl⟩) (below_dN (Below.refl _ _) _))))
      go_wp2_with fail
      go_ret2
      exact ⟨rfl, _, rfl⟩
set_option maxRecDepth 100000 in
set_option maxHeartbeats 2000000 in
theorem j59_beyond (b o m d l : Nat) (S s : Int) (w : World) (hmd : m ≤ d) (hL1 : (l : Int) < 4294967296) (_hS0 : 0 ≤ S) (_hS1 : S < 4294967296) (_hs0 : 0 ≤ s) (_hs1 : s < 4294967296)
    (H62 : Hid (∀ w' o' v, (o' = o ∧ v = (l : Int)) ∨ (o' = o + 4 ∧ v = S) → Below w.heap.size w w' → Calls Try.prog 32 #[.slice (some ⟨b, o', none⟩) 4 4] w' fun e w'' => e = .returned (.int .u32 v) ∧ w'' = w'))
    (H16 : Hid (∀ w' ad, l ≤ m → (0 < l → ad = ⟨b, o + 8, none⟩) → Below w.heap.size w w' → Calls Try.prog 29 #[.slice (some ad) l l] w' fun e w'' => e = .returned (.int .u32 s) ∧ w'' = w'))
    (hb : l ≤ 131072) (hb2 : m < l) :
    Calls Try.prog 31 #[.slice (some ⟨b, o, none⟩) (m + 8) (d + 8)] w fun e w' => (e = .returned (.tuple #[.slice none 0 0, .bool false])) ∧ ∃ d, w' = w.drewN d := by
  have h1 : ¬ ((m : Int) + 8) < 8 := by omega
  have g1 : (4 : Int) ≤ (d : Int) + 8 := by omega
  have g2 : (8 : Int) ≤ (d : Int) + 8 := by omega
  have g3 : (8 : Int) ≤ (m : Int) + 8 := by omega
  have hb1 : ¬ (131072 : Int) < (l : Int) := by omega
  have hb3 : (m : Int) < (l : Int) := by omega
  by_cases hc8 : d = 0
  · subst hc8
    obtain rfl : m = 0 := by omega
    · go_enter Try.func31, Try.ntmps31
      go_wp2_with fail
      go_quiet (first | (go_at_call 32; exact Calls.quiet_of_same (H62.out _ _ _ (by first | exact .inl ⟨rfl, rfl⟩ | exact .inr ⟨rfl, rfl⟩) (below_dN (Below.refl _ _) _))))
      go_wp2_with fail
      go_ret2
      exact ⟨rfl, _, rfl⟩
  · · go_enter Try.func31, Try.ntmps31
      go_wp2_with fail
      go_quiet (first | (go_at_call 32; exact Calls.quiet_of_same (H62.out _ _ _ (by first | exact .inl ⟨rfl, rfl⟩ | exact .inr ⟨rfl, rfl⟩) (below_dN (Below.refl _ _) _))))
      go_wp2_with fail
      go_ret2
      exact ⟨rfl, _, rfl⟩
set_option maxRecDepth 100000 in
set_option maxHeartbeats 2000000 in
theorem j59_in (b o m d l : Nat) (S s : Int) (w : World) (hmd : m ≤ d) (hL1 : (l : Int) < 4294967296) (_hS0 : 0 ≤ S) (_hS1 : S < 4294967296) (_hs0 : 0 ≤ s) (_hs1 : s < 4294967296)
    (H62 : Hid (∀ w' o' v, (o' = o ∧ v = (l : Int)) ∨ (o' = o + 4 ∧ v = S) → Below w.heap.size w w' → Calls Try.prog 32 #[.slice (some ⟨b, o', none⟩) 4 4] w' fun e w'' => e = .returned (.int .u32 v) ∧ w'' = w'))
    (H16 : Hid (∀ w' ad, l ≤ m → (0 < l → ad = ⟨b, o + 8, none⟩) → Below w.heap.size w w' → Calls Try.prog 29 #[.slice (some ad) l l] w' fun e w'' => e = .returned (.int .u32 s) ∧ w'' = w'))
    (hb : l ≤ 131072) (hb2 : l ≤ m) :
    Calls Try.prog 31 #[.slice (some ⟨b, o, none⟩) (m + 8) (d + 8)] w fun e w' => (∃ ad, e = .returned (.tuple #[.slice (some ad) l l, (.bool (s == S))]) ∧ (0 < l → ad = ⟨b, o + 8, none⟩)) ∧ ∃ d, w' = w.drewN d := by
  have h1 : ¬ ((m : Int) + 8) < 8 := by omega
  have g1 : (4 : Int) ≤ (d : Int) + 8 := by omega
  have g2 : (8 : Int) ≤ (d : Int) + 8 := by omega
  have g3 : (8 : Int) ≤ (m : Int) + 8 := by omega
  have hb1 : ¬ (131072 : Int) < (l : Int) := by omega
  have hb3 : ¬ (m : Int) < (l : Int) := by omega
  have hb4 : (l : Int) ≤ ((d : Nat) : Int) := by omega
  have hb5 : (0 : Int) ≤ (l : Int) := by omega
  by_cases hc8 : d = 0
  · subst hc8
    obtain rfl : m = 0 := by omega
    obtain rfl : l = 0 := by omega
    · go_enter Try.func31, Try.ntmps31
      go_wp2_with fail
      go_quiet (first | (go_at_call 32; exact Calls.quiet_of_same (H62.out _ _ _ (by first | exact .inl ⟨rfl, rfl⟩ | exact .inr ⟨rfl, rfl⟩) (below_dN (Below.refl _ _) _))))
      go_wp2_with fail
      refine (H16.out _ _ (Nat.zero_le _) (fun h => absurd h (Nat.lt_irrefl 0)) (below_dN (Below.refl _ _) _)).mono ?_
      rintro e w1 ⟨rfl, rfl⟩
      go_wp2_with fail
      go_ret2
      exact ⟨⟨_, rfl, fun h => absurd h (Nat.lt_irrefl 0)⟩, _, rfl⟩
  · have HHd : Hid (l ≤ m ∧ l ≤ 131072 ∧ ¬ d = 0) := ⟨hb2, hb, hc8⟩
    by_cases hl0 : l = 0
    · subst hl0
      clear hb hb2 hb1 hL1 hb3 hb4 hb5
      go_enter Try.func31, Try.ntmps31
      go_wp2_with fail
      go_quiet (first | (go_at_call 32; exact Calls.quiet_of_same (H62.out _ _ _ (by first | exact .inl ⟨rfl, rfl⟩ | exact .inr ⟨rfl, rfl⟩) (below_dN (Below.refl _ _) _))))
      go_wp2_with fail
      refine (H16.out _ _ (Nat.zero_le _) (fun h => absurd h (Nat.lt_irrefl 0)) (below_dN (Below.refl _ _) _)).mono ?_
      rintro e w1 ⟨rfl, rfl⟩
      go_wp2_with fail
      go_ret2
      exact ⟨⟨_, rfl, fun h => absurd h (Nat.lt_irrefl 0)⟩, _, rfl⟩
    · have hp0 : 0 < l := Nat.pos_of_ne_zero hl0
      clear hb hb2 hmd hp0 hL1
      go_enter Try.func31, Try.ntmps31
      go_wp2_with fail
      clear h1
      go_quiet (first | (go_at_call 32; exact Calls.quiet_of_same (H62.out _ _ _ (by first | exact .inl ⟨rfl, rfl⟩ | exact .inr ⟨rfl, rfl⟩) (below_dN (Below.refl _ _) _))))
      clear g1 g2 g3 hc8
      go_wp2_with fail
      refine (H16.out _ _ HHd.out.1 (fun _ => rfl) (below_dN (Below.refl _ _) _)).mono ?_
      rintro e w1 ⟨rfl, rfl⟩
      go_wp2_with fail
      go_ret2
      exact ⟨⟨_, rfl, fun _ => rfl⟩, _, rfl⟩
/-- What first answers. -/
def FirstV (a : Option Addr) (xs : List Int) (v : Value) : Prop :=
  (roomI xs = false ∧ v = .tuple #[.slice none 0 0, .bool false]) ∨
  (roomI xs = true ∧ ∃ ad, v = .tuple #[.slice (some ad) (lenI xs).toNat (lenI xs).toNat, .bool (okI xs)] ∧ (0 < (lenI xs).toNat → ∃ b o, a = some ⟨b, o, none⟩ ∧ ad = ⟨b, o + 8, none⟩))
theorem room_false {xs : List Int} (h : roomI xs = false) : okI xs = false := by simp [okI, h]
theorem room_len {xs : List Int} (h : roomI xs = true) : 8 + (lenI xs).toNat ≤ xs.length ∧ (lenI xs).toNat ≤ 131072 := by
  simp only [roomI, decide_eq_true_eq] at h
  omega
theorem pay_by {w : World} {a : Option Addr} {n c : Nat} {xs : List Int} (h : By w a n c xs) (hr : roomI xs = true) {ad : Addr} (had : 0 < (lenI xs).toNat → ∃ b o, a = some ⟨b, o, none⟩ ∧ ad = ⟨b, o + 8, none⟩) : By w (some ad) (lenI xs).toNat (lenI xs).toNat (payI xs) := by
  rcases Nat.eq_zero_or_pos (lenI xs).toNat with e | e
  · rw [payI, e, List.take_zero]; exact By.empty _ _
  · obtain ⟨b, o, rfl, rfl⟩ := had e
    have := room_len hr
    have := h.len
    exact h.part rfl (lo := 8) (m := (lenI xs).toNat) (c' := (lenI xs).toNat) (by omega) (Nat.le_refl _)
theorem len_bd {w : World} {a : Option Addr} {n c : Nat} {xs : List Int} (h : By w a n c xs) (hn : 8 ≤ n) : 0 ≤ lenI xs ∧ lenI xs < 4294967296 := by
  have := h.len
  exact word_bd (by rw [List.length_take]; omega) (fun x hx => h.rng x (List.mem_of_mem_take hx))
theorem sum_bd {w : World} {a : Option Addr} {n c : Nat} {xs : List Int} (h : By w a n c xs) (hn : 8 ≤ n) : 0 ≤ sumI xs ∧ sumI xs < 4294967296 := by
  have := h.len
  exact word_bd (by rw [List.length_take, List.length_drop]; omega) (fun x hx => h.rng x (List.mem_of_mem_drop (List.mem_of_mem_take hx)))
theorem j59 (a : Option Addr) (n c : Nat) (xs : List Int) (w : World) (h : By w a n c xs) (hc : n ≤ 140737488355328) :
    Calls Try.prog 31 #[.slice a n c] w fun e w' => (∃ v, e = .returned v ∧ FirstV a xs v) ∧ ∃ d, w' = w.drewN d := by
  have hlen := h.len
  have hcap := h.cap
  rcases Nat.lt_or_ge n 8 with hn | hn
  · refine (j59_short a n c w hn).mono ?_
    rintro e w' ⟨rfl, rfl⟩
    exact ⟨⟨_, rfl, .inl ⟨by simp [roomI]; omega, rfl⟩⟩, 0, rfl⟩
  · obtain ⟨b, o, ha, _⟩ : ∃ b o, a = some ⟨b, o, none⟩ ∧ True := by
      rcases h.mem with e | ⟨b, o, e, _⟩
      · omega
      · exact ⟨b, o, e, trivial⟩
    subst ha
    obtain ⟨hL0, hL1⟩ := len_bd h hn
    obtain ⟨hS0, hS1⟩ := sum_bd h hn
    have hs1 := sumB_lt (payI xs)
    obtain ⟨l, hl⟩ : ∃ l : Nat, lenI xs = (l : Int) := ⟨(lenI xs).toNat, by omega⟩
    have H62 : Hid (∀ w' o' v, (o' = o ∧ v = (l : Int)) ∨ (o' = o + 4 ∧ v = sumI xs) → Below w.heap.size w w' → Calls Try.prog 32 #[.slice (some ⟨b, o', none⟩) 4 4] w' fun e w'' => e = .returned (.int .u32 v) ∧ w'' = w') := fun w' o' v hh hb => by
      rcases hh with ⟨rfl, rfl⟩ | ⟨rfl, rfl⟩
      · have hA := (h.below hb).part rfl (lo := 0) (m := 4) (c' := 4) (by omega) (by omega)
        simp only [Nat.add_zero, List.drop_zero] at hA
        rw [← hl]
        exact j62 _ _ _ _ hA
      · exact j62 _ _ _ _ ((h.below hb).part rfl (lo := 4) (m := 4) (c' := 4) (by omega) (by omega))
    have H16 : Hid (∀ w' ad, l ≤ n - 8 → (0 < l → ad = ⟨b, o + 8, none⟩) → Below w.heap.size w w' → Calls Try.prog 29 #[.slice (some ad) l l] w' fun e w'' => e = .returned (.int .u32 (sumB (payI xs)).toNat) ∧ w'' = w') := fun w' ad hle had hb => by
      refine j16 _ _ _ _ _ ?_ (by omega)
      have hl' : (lenI xs).toNat = l := by omega
      rcases Nat.eq_zero_or_pos l with e | e
      · rw [payI, hl', e, List.take_zero]; exact By.empty _ _
      · rw [had e, payI, hl']
        exact (h.below hb).part rfl (lo := 8) (m := l) (c' := l) (by omega) (Nat.le_refl _)
    have hl' : (lenI xs).toNat = l := by omega
    have en : n - 8 + 8 = n := by omega
    have ec : c - 8 + 8 = c := by omega
    by_cases hb : l ≤ 131072
    · by_cases hb2 : l ≤ n - 8
      · have hr : roomI xs = true := by simp only [roomI, decide_eq_true_eq]; omega
        have := j59_in b o (n - 8) (c - 8) l (sumI xs) (sumB (payI xs)).toNat w (by omega) (by omega) hS0 hS1 (by omega) hs1 H62 H16 hb hb2
        rw [en, ec] at this
        refine this.mono ?_
        rintro e w' ⟨⟨ad, rfl, had⟩, hd⟩
        refine ⟨⟨_, rfl, .inr ⟨hr, ad, ?_, fun h0 => ⟨b, o, rfl, had (by omega)⟩⟩⟩, hd⟩
        rw [hl', okI, hr, Bool.true_and]
        congr 3
      · have := j59_beyond b o (n - 8) (c - 8) l (sumI xs) (sumB (payI xs)).toNat w (by omega) (by omega) hS0 hS1 (by omega) hs1 H62 H16 hb (by omega)
        rw [en, ec] at this
        refine this.mono ?_
        rintro e w' ⟨rfl, hd⟩
        exact ⟨⟨_, rfl, .inl ⟨by simp only [roomI, decide_eq_false_iff_not]; omega, rfl⟩⟩, hd⟩
    · have := j59_great b o (n - 8) (c - 8) l (sumI xs) (sumB (payI xs)).toNat w (by omega) (by omega) hS0 hS1 (by omega) hs1 H62 H16 (by omega)
      rw [en, ec] at this
      refine this.mono ?_
      rintro e w' ⟨rfl, hd⟩
      exact ⟨⟨_, rfl, .inl ⟨by simp only [roomI, decide_eq_false_iff_not]; omega, rfl⟩⟩, hd⟩
end Go.Proofs.Ytopljcabcknaeaa
