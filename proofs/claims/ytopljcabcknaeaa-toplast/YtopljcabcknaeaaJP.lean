/- Plain lists: records one behind the other. -/
import Derived.Test.YtopljcabcknaeaaJE
namespace Go.Proofs.Ytopljcabcknaeaa
open Go.RowKit
theorem fourI_len (m : Int) : (fourI m).length = 4 := rfl
theorem four_word {a b c d : Int} (ha : Byte a) (hb : Byte b) (hc : Byte c) (hd : Byte d) : fourI (wordI [a, b, c, d]) = [a, b, c, d] := by
  obtain ⟨_, _⟩ := ha
  obtain ⟨_, _⟩ := hb
  obtain ⟨_, _⟩ := hc
  obtain ⟨_, _⟩ := hd
  rw [wordI_four]
  simp only [fourI, List.cons.injEq, and_true]
  omega
theorem four_of_word {l : List Int} (h : l.length = 4) (hb : ∀ x ∈ l, Byte x) : fourI (wordI l) = l := by
  obtain ⟨a, b, c, d, rfl⟩ := four_of h
  exact four_word (hb _ (by simp)) (hb _ (by simp)) (hb _ (by simp)) (hb _ (by simp))
theorem lenI_rec (p q t : List Int) (m : Int) : lenI (fourI m ++ fourI p.length ++ q ++ t) = m := by
  unfold lenI
  rw [List.append_assoc, List.append_assoc, List.take_append_of_le_length (by simp [fourI_len]), List.take_of_length_le (by simp [fourI_len])]
  exact word_four
theorem take_four (m : Int) (t : List Int) : (fourI m ++ t).take 4 = fourI m := by
  rw [List.take_append_of_le_length (by simp [fourI_len]), List.take_of_length_le (by simp [fourI_len])]
theorem drop_four (m : Int) (t : List Int) : (fourI m ++ t).drop 4 = t := by
  rw [List.drop_append_of_le_length (by simp [fourI_len]), List.drop_of_length_le (by simp [fourI_len]), List.nil_append]
/-- Bytes that begin with a length and a sum. -/
theorem len_head (m s : Int) (t : List Int) : lenI (fourI m ++ (fourI s ++ t)) = m ∧ sumI (fourI m ++ (fourI s ++ t)) = s ∧ (fourI m ++ (fourI s ++ t)).drop 8 = t := by
  refine ⟨?_, ?_, ?_⟩
  · unfold lenI; rw [take_four]; exact word_four
  · unfold sumI; rw [drop_four, take_four]; exact word_four
  · rw [show (8 : Nat) = 4 + 4 from rfl, ← List.drop_drop, drop_four, drop_four]
theorem rec_ok (p t : List Int) (hl : p.length ≤ 131072) : okI (recI p ++ t) = true ∧ payI (recI p ++ t) = p := by
  have e : recI p ++ t = fourI p.length ++ (fourI (sumB p).toNat ++ (p ++ t)) := by simp [recI]
  obtain ⟨h1, h2, h3⟩ := len_head p.length (sumB p).toNat (p ++ t)
  rw [← e] at h1 h2 h3
  have hp : payI (recI p ++ t) = p := by
    unfold payI
    rw [h3, h1, Int.toNat_natCast, List.take_append_of_le_length (Nat.le_refl _), List.take_of_length_le (Nat.le_refl _)]
  refine ⟨?_, hp⟩
  have hlen : (recI p ++ t).length = 8 + p.length + t.length := by rw [List.length_append, recI_length]
  unfold okI
  rw [hp, h2]
  have hr : roomI (recI p ++ t) = true := by
    simp only [roomI, decide_eq_true_eq, h1, hlen]
    omega
  rw [hr]
  simp
theorem recs_rec (k : Nat) (p t : List Int) (hl : p.length ≤ 131072) : recs k (recI p ++ t) = (k + (8 + p.length), p) :: recs (k + (8 + p.length)) t := by
  obtain ⟨h1, h2⟩ := rec_ok p t hl
  rw [recs_ok h1, h2]
  congr 2
  rw [← recI_length, List.drop_append_of_le_length (Nat.le_refl _), List.drop_of_length_le (Nat.le_refl _), List.nil_append]
theorem ok_rec {xs : List Int} (hb : ∀ x ∈ xs, Byte x) (h : okI xs = true) : xs = recI (payI xs) ++ xs.drop (8 + (payI xs).length) := by
  have hr := ok_room h
  have hp := pay_len hr
  have hl := room_len hr
  have hs : ((sumB (payI xs)).toNat : Int) = sumI xs := by
    unfold okI at h
    rw [hr, Bool.true_and] at h
    simpa using h
  have h4 : (xs.take 4).length = 4 := by rw [List.length_take]; omega
  have h5 : ((xs.drop 4).take 4).length = 4 := by rw [List.length_take, List.length_drop]; omega
  have e1 : fourI (lenI xs) = xs.take 4 := four_of_word h4 (fun x hx => hb x (List.mem_of_mem_take hx))
  have e2 : fourI (sumI xs) = (xs.drop 4).take 4 := four_of_word h5 (fun x hx => hb x (List.mem_of_mem_drop (List.mem_of_mem_take hx)))
  have hL0 : 0 ≤ lenI xs := (word_bd h4 (fun x hx => hb x (List.mem_of_mem_take hx))).1
  have e3 : ((payI xs).length : Int) = lenI xs := by omega
  unfold recI
  rw [e3, hs, e1, e2]
  have e4 : payI xs = (xs.drop 8).take (payI xs).length := by
    rw [hp.1]; rfl
  have e5 : payI xs ++ xs.drop (8 + (payI xs).length) = xs.drop 8 := by
    rw [← List.drop_drop]
    conv => lhs; lhs; rw [e4]
    exact List.take_append_drop _ _
  have e6 : (xs.drop 4).take 4 ++ xs.drop 8 = xs.drop 4 := by
    rw [show (8 : Nat) = 4 + 4 from rfl, ← List.drop_drop]
    exact List.take_append_drop _ _
  rw [List.append_assoc, List.append_assoc, e5, e6]
  exact (List.take_append_drop _ _).symm
/-- Records one behind the other. -/
def whole (ps : List (List Int)) : List Int := (ps.map recI).flatten
theorem whole_cons (p : List Int) (ps : List (List Int)) : whole (p :: ps) = recI p ++ whole ps := by simp [whole]
theorem whole_append (ps qs : List (List Int)) : whole (ps ++ qs) = whole ps ++ whole qs := by simp [whole]
theorem whole_one (p : List Int) : whole [p] = recI p := by simp [whole]
/-- The places behind them. -/
def ends (k : Nat) : List (List Int) → List (Nat × List Int)
  | [] => []
  | p :: ps => (k + (8 + p.length), p) :: ends (k + (8 + p.length)) ps
theorem ends_pay : ∀ (k : Nat) (ps : List (List Int)), (ends k ps).map (·.2) = ps
  | _, [] => rfl
  | k, p :: ps => by simp [ends, ends_pay (k + (8 + p.length)) ps]
theorem ends_len (k : Nat) (ps : List (List Int)) : (ends k ps).length = ps.length := by
  have := congrArg List.length (ends_pay k ps); simpa using this
theorem ends_append : ∀ (k : Nat) (ps qs : List (List Int)), ends k (ps ++ qs) = ends k ps ++ ends (k + (whole ps).length) qs
  | k, [], qs => by simp [ends, whole]
  | k, p :: ps, qs => by
    rw [List.cons_append, ends, ends, ends_append (k + (8 + p.length)) ps qs, whole_cons, List.length_append, recI_length, Nat.add_assoc k]
    rfl
theorem recs_whole : ∀ (k : Nat) (ps : List (List Int)) (t : List Int), (∀ p ∈ ps, p.length ≤ 131072) → recs k (whole ps ++ t) = ends k ps ++ recs (k + (whole ps).length) t
  | k, [], t, _ => by simp [whole, ends]
  | k, p :: ps, t, h => by
    rw [whole_cons, List.append_assoc, recs_rec k p _ (h p (by simp)), recs_whole _ ps t (fun q hq => h q (by simp [hq])), ends, List.cons_append, List.length_append, recI_length, Nat.add_assoc k (8 + p.length)]
theorem last_ends : ∀ (k : Nat) (ps : List (List Int)), ps ≠ [] → lastE (ends k ps) = k + (whole ps).length := by
  intro k ps h
  obtain ⟨qs, q, rfl⟩ : ∃ qs q, ps = qs ++ [q] := ⟨ps.dropLast, ps.getLast h, (List.dropLast_concat_getLast h).symm⟩
  rw [ends_append, whole_append, whole_one, List.length_append, recI_length]
  simp only [ends]
  rw [lastE_snoc]
  omega
theorem last_ends0 (ps : List (List Int)) : lastE (ends 0 ps) = (whole ps).length := by
  cases ps with
  | nil => rfl
  | cons p ps => rw [last_ends 0 _ (by simp)]; omega
theorem recs_split : ∀ (N k : Nat) (xs : List Int), xs.length ≤ N → (∀ x ∈ xs, Byte x) → ∃ ps t, xs = whole ps ++ t ∧ okI t = false ∧ recs k xs = ends k ps ∧ (∀ p ∈ ps, p.length ≤ 131072 ∧ ∀ x ∈ p, Byte x)
  | N, k, xs, hN, hb => by
    cases ho : okI xs
    · exact ⟨[], xs, by simp [whole], ho, by rw [recs_no ho]; rfl, by simp⟩
    · have h1 := pay_len (ok_room ho)
      have h2 := room_len (ok_room ho)
      cases N with
      | zero => omega
      | succ N =>
        obtain ⟨ps, t, e1, e2, e3, e4⟩ := recs_split N (k + (8 + (payI xs).length)) (xs.drop (8 + (payI xs).length)) (by rw [List.length_drop]; omega) (fun x hx => hb x (List.mem_of_mem_drop hx))
        refine ⟨payI xs :: ps, t, ?_, e2, by rw [recs_ok ho, e3]; rfl, ?_⟩
        · rw [whole_cons, List.append_assoc, ← e1]; exact ok_rec hb ho
        · intro p hp
          rcases List.mem_cons.1 hp with rfl | hp
          · exact ⟨by omega, fun x hx => hb x (List.mem_of_mem_drop (List.mem_of_mem_take hx))⟩
          · exact e4 p hp
/-- What bytes hold. -/
theorem split0 {xs : List Int} (hb : ∀ x ∈ xs, Byte x) : ∃ ps t, xs = whole ps ++ t ∧ okI t = false ∧ recs 0 xs = ends 0 ps ∧ (∀ p ∈ ps, p.length ≤ 131072 ∧ ∀ x ∈ p, Byte x) ∧ lastE (recs 0 xs) = (whole ps).length ∧ (recs 0 xs).map (·.2) = ps ∧ (recs 0 xs).length = ps.length := by
  obtain ⟨ps, t, e1, e2, e3, e4⟩ := recs_split _ 0 xs (Nat.le_refl _) hb
  exact ⟨ps, t, e1, e2, e3, e4, by rw [e3, last_ends0], by rw [e3, ends_pay], by rw [e3, ends_len]⟩
theorem recs_take {xs : List Int} (hb : ∀ x ∈ xs, Byte x) : recs 0 (xs.take (lastE (recs 0 xs))) = recs 0 xs := by
  obtain ⟨ps, t, e1, e2, e3, e4, e5, _⟩ := split0 hb
  rw [e5]
  conv => lhs; rw [e1]
  rw [List.take_append_of_le_length (Nat.le_refl _), List.take_of_length_le (Nat.le_refl _), e3]
  have := recs_whole 0 ps [] (fun p hp => (e4 p hp).1)
  rw [List.append_nil] at this
  rw [this, recs_no (by rfl), List.append_nil]
theorem split_flush {xs : List Int} (hb : ∀ x ∈ xs, Byte x) (hf : lastE (recs 0 xs) = xs.length) : ∃ ps, xs = whole ps ∧ recs 0 xs = ends 0 ps ∧ (∀ p ∈ ps, p.length ≤ 131072 ∧ ∀ x ∈ p, Byte x) := by
  obtain ⟨ps, t, e1, e2, e3, e4, e5, _⟩ := split0 hb
  have hl := congrArg List.length e1
  rw [List.length_append] at hl
  have ht : t = [] := List.eq_nil_of_length_eq_zero (by omega)
  subst ht
  exact ⟨ps, by rw [List.append_nil] at e1; exact e1, e3, e4⟩
theorem recs_append {xs p : List Int} (hb : ∀ x ∈ xs, Byte x) (hf : lastE (recs 0 xs) = xs.length) (hl : p.length ≤ 131072) : recs 0 (xs ++ recI p) = recs 0 xs ++ [(xs.length + (8 + p.length), p)] := by
  obtain ⟨ps, e1, e3, e4⟩ := split_flush hb hf
  rw [e3]
  conv => lhs; rw [e1]
  have := recs_rec (whole ps).length p [] hl
  rw [List.append_nil] at this
  rw [recs_whole 0 ps _ (fun p hp => (e4 p hp).1), Nat.zero_add, this, recs_no (by rfl), ← e1]
theorem cut_no {p : List Int} {n : Nat} (hn : n < 8 + p.length) : okI ((recI p).take n) = false := by
  apply room_false
  have hl : ((recI p).take n).length = n := by rw [List.length_take, recI_length]; omega
  simp only [roomI, decide_eq_false_iff_not, hl]
  rintro ⟨h8, _, h2⟩
  have e : lenI ((recI p).take n) = p.length := by
    unfold lenI
    rw [List.take_take, Nat.min_eq_left (by omega)]
    have e2 : recI p = fourI p.length ++ (fourI (sumB p).toNat ++ p) := by simp [recI]
    rw [e2, take_four]
    exact word_four
  rw [e] at h2
  omega
theorem recs_cut {xs p : List Int} {n : Nat} (hb : ∀ x ∈ xs, Byte x) (hf : lastE (recs 0 xs) = xs.length) (hn : n < 8 + p.length) : recs 0 (xs ++ (recI p).take n) = recs 0 xs := by
  obtain ⟨ps, e1, e3, e4⟩ := split_flush hb hf
  rw [e3]
  conv => lhs; rw [e1]
  rw [recs_whole 0 ps _ (fun p hp => (e4 p hp).1), recs_no (cut_no hn), List.append_nil]
end Go.Proofs.Ytopljcabcknaeaa
