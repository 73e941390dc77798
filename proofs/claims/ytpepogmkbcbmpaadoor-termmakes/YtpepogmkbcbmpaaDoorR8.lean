/- Contract of the statement on making terms: for every number, name, text and row of terms it returns true. -/
import Derived.Test.YtpepogmkbcbmpaaDoorR7
import Derived.Test.YtpepogmkbcbmpaaDoorW18
namespace Go.Proofs.YtpepogmkbcbmpaaDoor
open Go.RowKit
attribute [local go_sem ↓] Go.wp_at_zero Go.wp_at_succ
abbrev MkS (w : World) (vn vk : Int) (text : ByteArray) (vx vo va vb : Value) (L : List C) (ls : List (List C)) (w' : World) : Prop :=
  w'.cell? ⟨w.heap.size, 0, none⟩ = some (.int .i64 vn) ∧ w'.cell? ⟨w.heap.size, 1, none⟩ = some (.int .i64 vk) ∧ w'.cell? ⟨w.heap.size + 1, 0, none⟩ = some (.string text) ∧ w'.cell? ⟨w.heap.size + 1, 1, none⟩ = some vx ∧
  Hid (Below w.heap.size w w' ∧ w.heap.size + 1 < w'.heap.size ∧ RowAt w' vo ls ∧ TermAt w' va L ∧ TermAt w' vb L)
theorem mkS_drew {w : World} {vn vk : Int} {text : ByteArray} {vx vo va vb : Value} {L : List C} {ls : List (List C)} {w' : World} (h : MkS w vn vk text vx vo va vb L ls w') : MkS w vn vk text vx vo va vb L ls w'.drew := by
  obtain ⟨h1, h2, h3, h4, h5⟩ := h
  have h9 := h5.out
  have hd : Below w'.heap.size w' w'.drew := (Below.refl _ _).drew
  exact ⟨by simpa using h1, by simpa using h2, by simpa using h3, by simpa using h4, h9.1.drew, h9.2.1, h9.2.2.1.below hd, h9.2.2.2.1.below hd, h9.2.2.2.2.below hd⟩
theorem mkS_below {w : World} {vn vk : Int} {text : ByteArray} {vx vo va vb : Value} {L : List C} {ls : List (List C)} {w' w'' : World} (h : MkS w vn vk text vx vo va vb L ls w') (hb : Below w'.heap.size w' w'') : MkS w vn vk text vx vo va vb L ls w'' := by
  obtain ⟨h1, h2, h3, h4, h5⟩ := h
  have h9 := h5.out
  have := hb.size
  have hz : w.heap.size < w'.heap.size := by omega
  exact ⟨(hb.cell (p := ⟨_, _, none⟩) hz).trans h1, (hb.cell (p := ⟨_, _, none⟩) hz).trans h2, (hb.cell (p := ⟨_, _, none⟩) h9.2.1).trans h3, (hb.cell (p := ⟨_, _, none⟩) h9.2.1).trans h4, h9.1.trans (hb.mono (by omega)), by omega, h9.2.2.1.below hb, h9.2.2.2.1.below hb, h9.2.2.2.2.below hb⟩
theorem mkS_hb {w : World} {vn vk : Int} {text : ByteArray} {vx vo va vb : Value} {L : List C} {ls : List (List C)} {w' : World} (h : MkS w vn vk text vx vo va vb L ls w') : Below w.heap.size w w' := h.2.2.2.2.out.1
theorem mkS_row {w : World} {vn vk : Int} {text : ByteArray} {vx vo va vb : Value} {L : List C} {ls : List (List C)} {w' : World} (h : MkS w vn vk text vx vo va vb L ls w') : RowAt w' vo ls := h.2.2.2.2.out.2.2.1
theorem mkS_a {w : World} {vn vk : Int} {text : ByteArray} {vx vo va vb : Value} {L : List C} {ls : List (List C)} {w' : World} (h : MkS w vn vk text vx vo va vb L ls w') : TermAt w' va L := h.2.2.2.2.out.2.2.2.1
theorem mkS_b {w : World} {vn vk : Int} {text : ByteArray} {vx vo va vb : Value} {L : List C} {ls : List (List C)} {w' : World} (h : MkS w vn vk text vx vo va vb L ls w') : TermAt w' vb L := h.2.2.2.2.out.2.2.2.2
set_option maxRecDepth 100000 in
set_option maxHeartbeats 8000000 in
theorem c3 (n vn vk : Int) (text : ByteArray) (vx : Value) (ls : List (List C)) (w : World) (hS : Signs w) (ht : text.size ≤ maxLen) (hx : RowAt w vx ls) (h24 : ls.length * 24 ≤ 140737488355328) (h48 : ∀ x ∈ ls, x.length * 48 ≤ 140737488355328) :
    Calls Tryd.prog 3 #[.int .i64 n, .agg #[.int .i64 vn, .int .i64 vk], .agg #[.string text, vx]] w fun e w' => e = .returned (.bool true) ∧ Below w.heap.size w w' := by
  have HS : Hid (Signs w) := hS
  have HX : Hid (RowAt w vx ls) := hx
  have H9 : Hid (∀ w' : World, Below w.heap.size w w' → Calls Tryd.prog 9 #[vx] w' fun e w'' => ∃ u, e = .returned u ∧ RowAt w'' u ls ∧ Below w'.heap.size w' w'') := fun w' hb => c9 ls vx w' (HX.out.below hb) h24 h48
  obtain ⟨ax, cx, hf⟩ := hx.form
  subst hf
  have hc0 : ∀ o1 : Obj, (w.alloc o1).heap.size = w.heap.size + 1 := fun o1 => World.size_alloc _ _
  have hB2 : ∀ o1 o2 : Obj, Hid (Below w.heap.size w ((w.alloc o1).alloc o2)) := fun o1 o2 => (below_alloc w o1).alloc (by simp) o2
  have k1 : Hid (∀ j v, #[Value.int .i64 vn, Value.int .i64 vk][j]? = some v → ((w.alloc (.cells #[.int .i64 vn, .int .i64 vk] 23)).alloc (.cells #[.string text, .slice ax ls.length cx] 26)).cell? ⟨w.heap.size, j, none⟩ = some v) := fun j v hv => cell_alloc (by simp) (cell_new w _ 23 j v hv)
  have k2 : Hid (∀ j v, #[Value.string text, Value.slice ax ls.length cx][j]? = some v → ((w.alloc (.cells #[.int .i64 vn, .int .i64 vk] 23)).alloc (.cells #[.string text, .slice ax ls.length cx] 26)).cell? ⟨w.heap.size + 1, j, none⟩ = some v) := fun j v hv => by
    have h := cell_new (w.alloc (.cells #[.int .i64 vn, .int .i64 vk] 23)) #[.string text, .slice ax ls.length cx] 26 j v hv
    rw [World.size_alloc] at h; exact h
  clear hS hx h24 h48 hc0
  go_enter Tryd.func3, Tryd.ntmps3
  go_wp2_with fail
  have hW2 : Hid (Below w.heap.size w ((w.alloc (.cells #[.int .i64 vn, .int .i64 vk] 23)).alloc (.cells #[.string text, .slice ax ls.length cx] 26))) := hB2 _ _
  have hz2 : Hid (w.heap.size + 1 < ((w.alloc (.cells #[.int .i64 vn, .int .i64 vk] 23)).alloc (.cells #[.string text, .slice ax ls.length cx] 26)).heap.size) := by
    show w.heap.size + 1 < _
    simp
  generalize ((w.alloc (.cells #[.int .i64 vn, .int .i64 vk] 23)).alloc (.cells #[.string text, .slice ax ls.length cx] 26)) = W2 at *
  clear hB2
  refine (H9.out _ hW2.out).mono ?_
  rintro e w3 ⟨vo, rfl, hrow3, hb3⟩
  have hW3 : Hid (Below w.heap.size w w3) := hW2.out.trans (hb3.mono hW2.out.size)
  have hz3 : Hid (w.heap.size + 1 < w3.heap.size) := by
    show w.heap.size + 1 < w3.heap.size
    have := hb3.size; have := hz2.out; omega
  have HR3 : Hid (RowAt w3 vo ls) := hrow3
  clear hrow3
  have m0 : w3.cell? ⟨w.heap.size + 1, 0, none⟩ = some (.string text) := (hb3.cell (p := ⟨_, _, none⟩) hz2.out).trans (k2.out 0 _ rfl)
  have m1 : w3.cell? ⟨w.heap.size + 1, 1, none⟩ = some (.slice ax ls.length cx) := (hb3.cell (p := ⟨_, _, none⟩) hz2.out).trans (k2.out 1 _ rfl)
  have m2 : Hid (w3.cell? ⟨w.heap.size, 0, none⟩ = some (.int .i64 vn)) := (hb3.cell (p := ⟨_, _, none⟩) (Nat.lt_of_succ_lt hz2.out)).trans (k1.out 0 _ rfl)
  have m3 : Hid (w3.cell? ⟨w.heap.size, 1, none⟩ = some (.int .i64 vk)) := (hb3.cell (p := ⟨_, _, none⟩) (Nat.lt_of_succ_lt hz2.out)).trans (k1.out 1 _ rfl)
  obtain ⟨ao, co, hfo⟩ := HR3.out.form
  subst hfo
  go_wp2_with fail
  refine (c10 text ls _ _ HR3.out (HS.out.below hW3.out) ht).mono ?_
  rintro e w4 ⟨va, rfl, hTa, hb4⟩
  have hW4 : Hid (Below w.heap.size w w4) := hW3.out.trans (hb4.mono hW3.out.size)
  have HTa : Hid (TermAt w4 va (makeL text ls)) := hTa
  clear hTa
  have n0 : w4.cell? ⟨w.heap.size + 1, 0, none⟩ = some (.string text) := (hb4.cell (p := ⟨_, _, none⟩) hz3.out).trans m0
  have n1 : w4.cell? ⟨w.heap.size + 1, 1, none⟩ = some (.slice ax ls.length cx) := (hb4.cell (p := ⟨_, _, none⟩) hz3.out).trans m1
  clear m0 m1
  go_wp2_with fail
  refine (c11 text ls _ _ (HX.out.below hW4.out) ht).mono ?_
  rintro e w5 ⟨vb, rfl, hTb, hb5⟩
  have hz4 : Hid (w.heap.size + 1 < w4.heap.size) := by
    show w.heap.size + 1 < w4.heap.size
    have := hb4.size; have := hz3.out; omega
  have hS0 : Hid (MkS w vn vk text (.slice ax ls.length cx) (.slice ao ls.length co) va vb (makeL text ls) ls w5) :=
    ⟨(hb5.cell (p := ⟨_, _, none⟩) (Nat.lt_of_succ_lt hz4.out)).trans ((hb4.cell (p := ⟨_, _, none⟩) (Nat.lt_of_succ_lt hz3.out)).trans m2.out), (hb5.cell (p := ⟨_, _, none⟩) (Nat.lt_of_succ_lt hz4.out)).trans ((hb4.cell (p := ⟨_, _, none⟩) (Nat.lt_of_succ_lt hz3.out)).trans m3.out), (hb5.cell (p := ⟨_, _, none⟩) hz4.out).trans n0, (hb5.cell (p := ⟨_, _, none⟩) hz4.out).trans n1, hW4.out.trans (hb5.mono hW4.out.size), Nat.lt_of_lt_of_le hz4.out hb5.size, (HR3.out.below hb4).below hb5, HTa.out.below hb5, hTb⟩
  clear hTb n0 n1 hb3 hb4 hb5 k1 k2 m2 m3 hW2 hz2 hz3 hz4 hW3 hW4 HTa HR3 H9
  generalize makeE text ls = er at *
  have her : (er == er) = true := by simp
  go_wp2_with fail
  go_region_held3 (fun w' => MkS w vn vk text (.slice ax ls.length cx) (.slice ao ls.length co) va vb (makeL text ls) ls w')
    (first | exact mkS_drew hS0.out | (refine mkS_drew ?_; assumption) | assumption | exact mkS_below (by assumption) (by assumption))
    (first
      | (go_at_call 12; refine (c12 _ ?_).mono ?_; (exact HS.out.below (mkS_hb (by assumption))); rintro e w12 ⟨rfl, hb12⟩)
      | (go_at_call 14; refine (c14 n _ ?_).mono ?_; (exact HS.out.below (mkS_hb (by assumption))); rintro e w14 ⟨v14, rfl, T14, hb14⟩)
      | (go_at_call 15; refine (c15 n _).mono ?_; rintro e w15 ⟨v15, rfl, T15, hb15⟩)
      | (go_at_call 16; refine (c16 text _ ?_ ht).mono ?_; (exact HS.out.below (mkS_hb (by assumption))); rintro e w16 ⟨v16, rfl, T16, hb16⟩)
      | (go_at_call 17; refine (c17 text _ ht).mono ?_; rintro e w17 ⟨v17, rfl, T17, hb17⟩)
      | (go_at_call 18; refine (c18 vn vk _ ?_).mono ?_; (exact HS.out.below (mkS_hb (by assumption))); rintro e w18 ⟨v18, rfl, T18, hb18⟩)
      | (go_at_call 19; refine (c19 vn vk _).mono ?_; rintro e w19 ⟨v19, rfl, T19, hb19⟩)
      | (go_at_call_of 13 v14; refine (c13 _ _ _ _ _ (T14.below hb15) T15).mono ?_; rw [eqT_refl]; rintro e wA ⟨rfl, hbA⟩)
      | (go_at_call_of 13 v16; refine (c13 _ _ _ _ _ (T16.below hb17) T17).mono ?_; rw [eqT_refl]; rintro e wB ⟨rfl, hbB⟩)
      | (go_at_call_of 13 v18; refine (c13 _ _ _ _ _ (T18.below hb19) T19).mono ?_; rw [eqT_refl]; rintro e wC ⟨rfl, hbC⟩)
      | (go_at_call_of 13 va; refine (c13 _ _ _ _ _ (mkS_a (by assumption)) (mkS_b (by assumption))).mono ?_; rw [eqT_refl]; rintro e wD ⟨rfl, hbD⟩)
      | (go_at_call 20; refine (c20 ls ls _ _ _ (mkS_row (by assumption)) (HX.out.below (mkS_hb (by assumption)))).mono ?_; rw [sameR_refl]; rintro e wE ⟨rfl, hbE⟩))
  go_wp2_with fail
  go_ret
  exact ⟨rfl, mkS_hb (by assumption)⟩
end Go.Proofs.YtpepogmkbcbmpaaDoor
