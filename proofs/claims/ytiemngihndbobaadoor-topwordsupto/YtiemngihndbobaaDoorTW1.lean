/- Names of terms are names of texts: plain lists, and the contract of TopWords. -/
import Derived.Test.YtiemngihndbobaaDoorLxQ5
import Derived.Test.YtiemngihndbobaaDoorTmW13
namespace Go.Proofs.YtiemngihndbobaaDoor
open Go.RowKit
theorem name_iff (s : ByteArray) : Tm.isNameB s.data.toList = true ↔ 0 < s.size ∧ s.size ≤ 16 ∧ Lx.smallB (s.data.toList.headD 0) = true ∧ s.data.toList.all Lx.innerB = true := by
  have e1 : ∀ c, Tm.smallB c = Lx.smallB c := fun _ => rfl
  have e2 : s.data.toList.all Tm.innerB = s.data.toList.all Lx.innerB := rfl
  unfold Tm.isNameB
  rw [e1, e2]
  simp only [Bool.and_eq_true, Bool.not_eq_true', decide_eq_true_eq, List.isEmpty_eq_false_iff, Lx.len_list]
  constructor
  · rintro ⟨⟨⟨h1, h2⟩, h3⟩, h4⟩
    refine ⟨?_, h2, h3, h4⟩
    rcases Nat.eq_zero_or_pos s.size with h | h
    · exact absurd (List.eq_nil_of_length_eq_zero (by rw [Lx.len_list]; exact h)) h1
    · exact h
  · rintro ⟨h1, h2, h3, h4⟩
    refine ⟨⟨⟨?_, h2⟩, h3⟩, h4⟩
    intro h
    have := Lx.len_list s
    rw [h] at this; simp at this; omega
theorem small_not (c : UInt8) (h : Lx.smallB c = true) : Lx.blankB c = false ∧ ((c.toNat : Int) == 37) = false ∧ ((c.toNat : Int) == 95) = false ∧ Lx.capitalB c = false := by
  unfold Lx.smallB at h
  simp only [Bool.and_eq_true, decide_eq_true_eq] at h
  refine ⟨?_, by simp; omega, by simp; omega, ?_⟩
  · unfold Lx.blankB
    cases hq : [32, 9, 13, 10].contains c with
    | false => rfl
    | true =>
      have hm := List.contains_iff_mem.1 hq
      simp only [List.mem_cons, List.not_mem_nil, or_false] at hm
      rcases hm with rfl | rfl | rfl | rfl <;> exact absurd h.1 (by decide)
  · unfold Lx.capitalB
    have : ¬ ((c.toNat : Int) ≤ 90) := by omega
    simp [this]
theorem run_all (p : UInt8 → Bool) (l : List UInt8) (h : l.all p = true) : Lx.runP p l = l.length := by
  induction l with
  | nil => rfl
  | cons c r ih =>
    rw [List.all_cons, Bool.and_eq_true] at h
    have h2 := ih h.2
    unfold Lx.runP at h2 ⊢
    rw [List.takeWhile_cons, if_pos h.1, List.length_cons, List.length_cons, h2]
theorem ext_all (s : ByteArray) : s.extract 0 s.size = s := by
  apply Lx.byte_ext
  rw [Lx.ext_list, Lx.take_all, List.drop_zero]
theorem name_first (s : ByteArray) (h : Tm.isNameB s.data.toList = true) : Lx.firstT s = (⟨1, s, 0, 0, 0⟩, 0) ∧ Lx.gapL s.data.toList = 0 := by
  obtain ⟨h1, h2, h3, h4⟩ := (name_iff s).1 h
  rw [Lx.headD_of s h1] at h3
  obtain ⟨n1, n2, n3, n4⟩ := small_not s[0] h3
  constructor
  · have hr := run_all Lx.innerB s.data.toList h4
    rw [Lx.len_list] at hr
    rw [Lx.first_eq s h1, if_neg (by rw [n3, n4]; decide), if_pos h3]
    unfold Lx.wordT
    rw [hr, if_neg (by omega), ext_all]
  · have e := Lx.drop_consB s 0 h1
    rw [List.drop_zero] at e
    rw [e]
    exact Lx.gap_stop _ _ n1 n2
theorem name_all (s : ByteArray) (h : Tm.isNameB s.data.toList = true) : Lx.allE s = (0, 0) ∧ Lx.allL s = [⟨1, s, 0, 0, 0⟩, ⟨0, ⟨#[]⟩, 0, 0, (s.size : Int)⟩] := by
  obtain ⟨h1, _, _, _⟩ := (name_iff s).1 h
  obtain ⟨hf, hg⟩ := name_first s h
  have hst : Lx.startN s 0 = 0 := by unfold Lx.startN; rw [List.drop_zero, hg]
  have hn : Lx.nextN s 0 = (⟨1, s, 0, 0, 0⟩, (s.size : Int), 0) := by
    unfold Lx.nextN
    rw [hst, ext_all, hf]
    simp
  have hd : s.data.toList.drop s.size = [] := List.drop_eq_nil_of_le (by rw [Lx.len_list]; exact Nat.le_refl _)
  have hst2 : Lx.startN s s.size = s.size := by unfold Lx.startN; rw [hd]; rfl
  have hf2 : Lx.firstT (s.extract (Lx.startN s s.size) s.size) = (Lx.zeroT, 0) := by
    unfold Lx.firstT
    rw [if_pos]
    rw [Lx.ext_list, Lx.take_all, hst2, hd]
  have hn2 : Lx.nextN s s.size = (⟨0, ⟨#[]⟩, 0, 0, (s.size : Int)⟩, (s.size : Int), 0) := by
    unfold Lx.nextN
    rw [hf2, if_pos rfl, hst2]
    rfl
  have hl : Lx.lastB (Lx.nextN s 0) = false := by rw [hn]; rfl
  have hl2 : Lx.lastB (Lx.nextN s s.size) = true := by rw [hn2]; rfl
  obtain ⟨f, hfz⟩ : ∃ f, s.size = f + 1 := ⟨s.size - 1, by omega⟩
  have hw : Lx.walkL s = [(⟨1, s, 0, 0, 0⟩, (s.size : Int), 0), (⟨0, ⟨#[]⟩, 0, 0, (s.size : Int)⟩, (s.size : Int), 0)] := by
    unfold Lx.walkL
    rw [Lx.walk_more s s.size 0 s.size hl (by rw [hn]), hn]
    have : Lx.walkF s s.size s.size = Lx.walkF s (f + 1) s.size := by rw [← hfz]
    rw [this, Lx.walk_last s f s.size hl2, hn2]
  have hok : ∀ y ∈ Lx.walkL s, Lx.okB y = true := by
    rw [hw]
    intro y hy
    simp only [List.mem_cons, List.not_mem_nil, or_false] at hy
    rcases hy with rfl | rfl <;> rfl
  obtain ⟨e1, e2⟩ := Lx.allE_ok rfl hok
  refine ⟨e1, ?_⟩
  rw [e2, hw]; rfl
theorem first_name (s : ByteArray) (h0 : (Lx.firstT s).2 = 0) (hk : (Lx.firstT s).1.k = 1) (ht : (Lx.firstT s).1.t = s) : Tm.isNameB s.data.toList = true := by
  have hpos : 0 < s.size := by
    rcases Nat.eq_zero_or_pos s.size with h | h
    · exfalso
      unfold Lx.firstT at hk
      rw [if_pos (List.eq_nil_of_length_eq_zero (by rw [Lx.len_list]; exact h))] at hk
      exact absurd hk (by decide)
    · exact h
  have hw : ∀ k : Int, k ≠ 1 → (Lx.wordT s k).2 = 0 → (Lx.wordT s k).1.k = 1 → False := fun k hk0 h1 h2 => by
    unfold Lx.wordT at h1 h2
    split at h1
    · exact absurd h1 (by decide)
    · rename_i h3; rw [if_neg h3] at h2; exact hk0 h2
  rw [Lx.first_eq s hpos] at h0 hk ht
  by_cases c1 : (((s[0].toNat : Int) == 95) || Lx.capitalB s[0]) = true
  · rw [if_pos c1] at h0 hk
    exact (hw 2 (by decide) h0 hk).elim
  · rw [if_neg c1] at h0 hk ht
    by_cases c2 : Lx.smallB s[0] = true
    · rw [if_pos c2] at h0 ht
      rw [name_iff]
      unfold Lx.wordT at h0 ht
      split at h0
      · exact absurd h0 (by decide)
      · rename_i h3
        rw [if_neg h3] at ht
        have ht : s.extract 0 (Lx.runP Lx.innerB s.data.toList) = s := ht
        have hr := Lx.runP_le Lx.innerB s.data.toList
        rw [Lx.len_list] at hr
        have hsz := congrArg ByteArray.size ht
        rw [ByteArray.size_extract] at hsz
        have hrs : Lx.runP Lx.innerB s.data.toList = s.size := by omega
        refine ⟨hpos, by omega, by rw [Lx.headD_of s hpos]; exact c2, ?_⟩
        have := Lx.runP_take Lx.innerB s.data.toList
        rw [hrs, Lx.take_all] at this
        exact this
    · rw [if_neg c2] at h0 hk
      exfalso
      by_cases c3 : Lx.digitB s[0] = true
      · rw [if_pos c3] at hk
        exact absurd (show (3 : Int) = 1 from hk) (by decide)
      · rw [if_neg c3] at h0 hk
        by_cases c4 : ((s[0].toNat : Int) == 63) = true
        · rw [if_pos c4] at h0 hk
          unfold Lx.globT at h0 hk
          split at h0
          · rename_i h5; rw [if_pos h5] at hk
            split at h0
            · exact absurd h0 (by decide)
            · rename_i h6; rw [if_neg h6] at hk
              split at h0
              · rename_i h7; rw [if_pos h7] at hk; exact absurd (show (4 : Int) = 1 from hk) (by decide)
              · rename_i h7; exact h7 h0
          · exact absurd h0 (by decide)
        · rw [if_neg c4] at h0 hk
          unfold Lx.signT at h0 hk
          split at h0
          · rename_i q hq; rw [hq] at hk; exact absurd (show (5 : Int) = 1 from hk) (by decide)
          · exact absurd h0 (by decide)
theorem all_name (s : ByteArray) (hE : (Lx.allE s).1 = 0) (x : Lx.T) (hx : (Lx.allL s)[0]? = some x) (hk : x.k = 1) (ht : x.t = s) : Tm.isNameB s.data.toList = true := by
  have hall : ∀ y ∈ Lx.walkL s, Lx.okB y = true := by
    unfold Lx.allE at hE
    split at hE
    · rename_i z hz
      have h2 := List.find?_some hz
      unfold Lx.okB at h2
      simp at h2
      exact absurd hE h2
    · rename_i hz
      intro y hy
      have h2 := List.find?_eq_none.1 hz y hy
      simpa using h2
  obtain ⟨_, hL⟩ := Lx.allE_ok rfl hall
  obtain ⟨r, hr⟩ : ∃ r, Lx.walkL s = Lx.nextN s 0 :: r := by
    unfold Lx.walkL
    cases hl : Lx.lastB (Lx.nextN s 0) with
    | true => exact ⟨_, Lx.walk_last s _ 0 hl⟩
    | false => exact ⟨_, by simp only [Lx.walkF]; rw [if_neg (by simp [hl])]⟩
  rw [hL, hr] at hx
  have hx : some (Lx.nextN s 0).1 = some x := hx
  obtain rfl := Option.some.inj hx
  have hok := hall (Lx.nextN s 0) (by rw [hr]; exact List.mem_cons_self)
  have hT : (Lx.firstT (s.extract (Lx.startN s 0) s.size)).2 = 0 := by
    unfold Lx.okB Lx.nextN at hok
    by_cases he : (Lx.firstT (s.extract (Lx.startN s 0) s.size)).2 = 0
    · exact he
    · rw [if_neg he] at hok; simpa using hok
  have hN : Lx.nextN s 0 = ({ (Lx.firstT (s.extract (Lx.startN s 0) s.size)).1 with at_ := (Lx.startN s 0 : Int) }, ((Lx.startN s 0 + (Lx.firstT (s.extract (Lx.startN s 0) s.size)).1.t.size : Nat) : Int), 0) := by
    unfold Lx.nextN; rw [if_pos hT]
  rw [hN] at hk ht
  simp only at hk ht
  have h4 := Lx.first_len (s.extract (Lx.startN s 0) s.size)
  have h5 := Lx.startN_le s 0 (Nat.zero_le _)
  rw [ht, ByteArray.size_extract] at h4
  rcases Nat.eq_zero_or_pos s.size with hz | hz
  · exfalso
    unfold Lx.firstT at hk
    rw [if_pos (List.eq_nil_of_length_eq_zero (by rw [Lx.len_list, ByteArray.size_extract]; omega))] at hk
    exact absurd hk (by decide)
  · have hst : Lx.startN s 0 = 0 := by omega
    rw [hst, ext_all] at hT hk ht
    exact first_name s hT hk ht
theorem right_atom (s : ByteArray) : Tm.rightB [⟨2, s, 0, 0, 0⟩] = Tm.isNameB s.data.toList := by
  have h1 : Tm.cellB 2 s 0 0 0 = Tm.isNameB s.data.toList := by
    unfold Tm.cellB
    rw [if_neg (by decide), if_pos rfl]
    simp [Tm.eqCells]
  have h2 : Tm.endS [⟨2, s, 0, 0, 0⟩] 0 = 1 := rfl
  unfold Tm.rightB Tm.cellsB
  rw [h2]
  simp [Tm.C.ok, h1]
end Go.Proofs.YtiemngihndbobaaDoor
