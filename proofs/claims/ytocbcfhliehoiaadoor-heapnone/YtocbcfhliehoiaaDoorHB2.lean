/- Contracts of a nil heap's calls; of live. -/
import Derived.Test.YtocbcfhliehoiaaDoorHB1
import Derived.Test.YtocbcfhliehoiaaDoorHB0
namespace Go.Proofs.YtocbcfhliehoiaaDoor
open Go.RowKit
attribute [local go_sem ↓] Go.wp_at_zero Go.wp_at_succ
set_option maxRecDepth 100000 in
theorem h6n (x1 x2 : Int) (w : World) : Calls Tryd.prog 6 #[.pointer none, .agg #[.int .i64 x1, .int .i64 x2]] w fun e w' => e = .returned (.tuple #[.slice none 0 0, .bool false]) ∧ Below w.heap.size w w' := by
  have HB : Hid (Below w.heap.size w (w.alloc (.cells #[.int .i64 x1, .int .i64 x2] 23))) := (Below.refl _ w).alloc (Nat.le_refl _) _
  go_enter Tryd.func6, Tryd.ntmps6
  go_wp2_with fail
  exact bodyPost_ret (v := .tuple #[.slice none 0 0, .bool false]) (by simp [results, Tryd.results6, go_sem]) rfl ⟨rfl, HB.out⟩
set_option maxRecDepth 100000 in
theorem h8n (v : Value) (w : World) : Calls Tryd.prog 8 #[.pointer none, v] w fun e w' => e = .returned (.tuple #[]) ∧ w' = w := by
  go_enter Tryd.func8, Tryd.ntmps8
  go_wp2_with fail
  exact bodyPost_ret (v := .tuple #[]) (by simp [results, Tryd.results8, go_sem]) rfl ⟨rfl, rfl⟩
set_option maxRecDepth 100000 in
theorem h9n (v : Value) (w : World) : Calls Tryd.prog 9 #[.pointer none, v] w fun e w' => e = .returned (.tuple #[.slice none 0 0, .int .i64 1]) ∧ w' = w := by
  go_enter Tryd.func9, Tryd.ntmps9
  go_wp2_with fail
  exact bodyPost_ret (v := .tuple #[.slice none 0 0, .int .i64 1]) (by simp [results, Tryd.results9, go_sem]) rfl ⟨rfl, rfl⟩
set_option maxRecDepth 100000 in
theorem h11n (x1 x2 : Int) (v : Value) (w : World) : Calls Tryd.prog 11 #[.pointer none, .agg #[.int .i64 x1, .int .i64 x2], v] w fun e w' => e = .returned (.int .i64 1) ∧ Below w.heap.size w w' := by
  have HB : Hid (Below w.heap.size w (w.alloc (.cells #[.int .i64 x1, .int .i64 x2] 23))) := (Below.refl _ w).alloc (Nat.le_refl _) _
  go_enter Tryd.func11, Tryd.ntmps11
  go_wp2_with fail
  go_ret
  exact ⟨rfl, HB.out⟩
set_option maxRecDepth 100000 in
theorem h12n (w : World) : Calls Tryd.prog 12 #[.pointer none] w fun e w' => e = .returned (.slice none 0 0) ∧ w' = w := by
  go_enter Tryd.func12, Tryd.ntmps12
  go_wp2_with fail
  go_ret
  exact ⟨rfl, rfl⟩
set_option maxRecDepth 100000 in
theorem h13n (w : World) : Calls Tryd.prog 13 #[.pointer none] w fun e w' => e = .returned (.pointer none) ∧ w' = w := by
  go_enter Tryd.func13, Tryd.ntmps13
  go_wp2_with fail
  go_ret
  exact ⟨rfl, rfl⟩
theorem next_nil (l : List C) : nextH [] l = none := by unfold nextH lookH; split <;> rfl
/-- How long a chain is in which nothing has a value. -/
def oneN (l : List C) : Nat := if l.length = 0 then 0 else 1
set_option maxRecDepth 100000 in
set_option maxHeartbeats 2000000 in
theorem h7n (l : List C) (v : Value) (w : World) (hT : TermAt w v l) (hW : ∀ c ∈ l, wfN (c.vn, c.vk)) (hby : l.length * 48 ≤ 140737488355328) : Calls Tryd.prog 7 #[.pointer none, v] w fun e w' => ∃ a c, e = .returned (.slice a (oneN l) c) ∧ Hid (Below w.heap.size w w') := by
  have H22 : Calls Tryd.prog 22 #[v] w fun e w' => ∃ ta tn tc, e = .returned (.slice ta tn tc) ∧ Hid (Below w.heap.size w w') := by
    refine (h22 l v w hT hby).mono ?_
    rintro e w' ⟨u', rfl, h1, _, h3⟩
    obtain ⟨ta, tc, e⟩ := h1.form
    exact ⟨ta, _, tc, by rw [e], h3⟩
  have H23 : Hid (∀ W, Below w.heap.size w W → Calls Tryd.prog 23 #[.pointer none, v] W fun e w' => ∃ a k c, e = .returned (.tuple #[.slice a k c, .bool false]) ∧ Hid (Below w.heap.size w w')) := fun W hb => by
    refine (h23 [] (.pointer none) l v W (.inl ⟨rfl, rfl⟩) (hT.below hb) hW).mono ?_
    rintro e w' ⟨u, rfl, ⟨a, k, c, rfl⟩, _, h4⟩
    rw [next_nil]
    exact ⟨a, k, c, rfl, hb.trans (h4.mono hb.size)⟩
  obtain ⟨a, c, hf⟩ := hT.form
  subst hf
  by_cases h0 : l.length = 0
  · have e : oneN l = 0 := by simp [oneN, h0]
    rw [e, h0]
    clear hT hW hby H22 H23
    go_enter Tryd.func7, Tryd.ntmps7
    go_wp2_with fail
    go_ret
    exact ⟨_, _, rfl, Below.refl _ _⟩
  · have e : oneN l = 1 := by simp [oneN, h0]
    rw [e]
    have hne : ¬ ((l.length : Nat) : Int) = 0 := by omega
    clear hT hW hby e
    go_enter Tryd.func7, Tryd.ntmps7
    go_wp2_with fail
    refine H22.mono ?_
    rintro e w1 ⟨ta, tn, tc, rfl, H1⟩
    clear H22
    have H23' : Calls Tryd.prog 23 #[.pointer none, .slice a l.length c] (w1.alloc (.cells #[.slice ta tn tc] 25)) fun e w' => ∃ a k c, e = .returned (.tuple #[.slice a k c, .bool false]) ∧ Hid (Below w.heap.size w w') := H23.out _ (H1.out.alloc H1.out.size _)
    go_wp2_with fail
    refine H23'.mono ?_
    rintro e w2 ⟨a2, k2, c2, rfl, H2⟩
    clear H23' H23
    go_wp2_with fail
    refine wp_loop_rounds 1 ?_
    rw [rounds_succ]
    go_wp2_with fail
    go_ret
    exact ⟨_, _, rfl, H2⟩
theorem h15n (l : List C) (v : Value) (w : World) (hT : TermAt w v l) (hW : ∀ c ∈ l, wfN (c.vn, c.vk)) (hby : l.length * 48 ≤ 140737488355328) : Calls Tryd.prog 15 #[.pointer none, v] w fun e w' => ∃ u, e = .returned u ∧ Hid (TermAt w' u l ∧ Below w.heap.size w w') := by
  refine (h15 [] (.pointer none) l v w (.inl ⟨rfl, rfl⟩) hT hW hby (fun x l h => by simp [lookH] at h)).mono ?_
  rintro e w' ⟨u, l', rfl, h1, h2, _, h4⟩
  have e2 : l' = l := h2.uniq ⟨.here _, next_nil l⟩
  subst e2
  exact ⟨u, rfl, h1, h4⟩
end Go.Proofs.YtocbcfhliehoiaaDoor
