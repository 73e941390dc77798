/- Contracts of a message's shape, of messages that are right, of amounts that are right, of units. -/
import Derived.Test.YtopapmnoepnpcaaDoorCB
namespace Go.Proofs.YtopapmnoepnpcaaDoor
open Go.RowKit
attribute [local go_sem ↓] Go.wp_at_zero Go.wp_at_succ
/-- A shape and a message in memory. -/
structure Ft (w0 w : World) (sb mb : Nat) (W : Int) (a : Option Addr) (n c : Nat) : Prop where
  sh : w.heap[sb]? = some (.cells #[.bool false, .bool false, .bool false, .int .i64 0, .int .i64 2147483647, .int .i64 0, .int .i64 3, .bool true] 61 (0, 0))
  ms : w.heap[mb]? = some (.cells #[.int .u8 6, .int .i64 0, .int .i64 0, .int .i64 0, .int .i64 0, .slice none 0 0, .int .i64 0, .int .i64 0, .int .i64 W, .slice a n c] 49 (0, 0))
  bel : Below w0.heap.size w0 w
theorem Ft.below {w0 w w' : World} {sb mb : Nat} {W : Int} {a : Option Addr} {n c : Nat} (h : Ft w0 w sb mb W a n c) (hb : Below w.heap.size w w') : Ft w0 w' sb mb W a n c :=
  ⟨(hb.block sb (Array.getElem?_eq_some_iff.1 h.sh).1).trans h.sh, (hb.block mb (Array.getElem?_eq_some_iff.1 h.ms).1).trans h.ms, h.bel.trans (hb.mono h.bel.size)⟩
abbrev FtS (w0 w : World) (sb mb : Nat) (W : Int) (a : Option Addr) (n c : Nat) : Prop := w.cell? ⟨sb, 0, none⟩ = some (.bool false) ∧ w.cell? ⟨sb, 1, none⟩ = some (.bool false) ∧ w.cell? ⟨sb, 2, none⟩ = some (.bool false) ∧ w.cell? ⟨sb, 3, none⟩ = some (.int .i64 0) ∧ w.cell? ⟨sb, 4, none⟩ = some (.int .i64 2147483647) ∧ w.cell? ⟨sb, 5, none⟩ = some (.int .i64 0) ∧ w.cell? ⟨sb, 6, none⟩ = some (.int .i64 3) ∧ w.cell? ⟨sb, 7, none⟩ = some (.bool true) ∧ w.cell? ⟨mb, 1, none⟩ = some (.int .i64 0) ∧ w.cell? ⟨mb, 2, none⟩ = some (.int .i64 0) ∧ w.cell? ⟨mb, 3, none⟩ = some (.int .i64 0) ∧ w.cell? ⟨mb, 4, none⟩ = some (.int .i64 0) ∧ w.cell? ⟨mb, 5, none⟩ = some (.slice none 0 0) ∧ w.cell? ⟨mb, 6, none⟩ = some (.int .i64 0) ∧ w.cell? ⟨mb, 7, none⟩ = some (.int .i64 0) ∧ w.cell? ⟨mb, 8, none⟩ = some (.int .i64 W) ∧ w.cell? ⟨mb, 9, none⟩ = some (.slice a n c) ∧ Hid (Ft w0 w sb mb W a n c)
theorem fts {w0 w : World} {sb mb : Nat} {W : Int} {a : Option Addr} {n c : Nat} (h : Hid (Ft w0 w sb mb W a n c)) : FtS w0 w sb mb W a n c := ⟨by rw [cell_of_row w sb 0 _ 61 (0, 0) h.out.sh]; rfl, by rw [cell_of_row w sb 1 _ 61 (0, 0) h.out.sh]; rfl, by rw [cell_of_row w sb 2 _ 61 (0, 0) h.out.sh]; rfl, by rw [cell_of_row w sb 3 _ 61 (0, 0) h.out.sh]; rfl, by rw [cell_of_row w sb 4 _ 61 (0, 0) h.out.sh]; rfl, by rw [cell_of_row w sb 5 _ 61 (0, 0) h.out.sh]; rfl, by rw [cell_of_row w sb 6 _ 61 (0, 0) h.out.sh]; rfl, by rw [cell_of_row w sb 7 _ 61 (0, 0) h.out.sh]; rfl, by rw [cell_of_row w mb 1 _ 49 (0, 0) h.out.ms]; rfl, by rw [cell_of_row w mb 2 _ 49 (0, 0) h.out.ms]; rfl, by rw [cell_of_row w mb 3 _ 49 (0, 0) h.out.ms]; rfl, by rw [cell_of_row w mb 4 _ 49 (0, 0) h.out.ms]; rfl, by rw [cell_of_row w mb 5 _ 49 (0, 0) h.out.ms]; rfl, by rw [cell_of_row w mb 6 _ 49 (0, 0) h.out.ms]; rfl, by rw [cell_of_row w mb 7 _ 49 (0, 0) h.out.ms]; rfl, by rw [cell_of_row w mb 8 _ 49 (0, 0) h.out.ms]; rfl, by rw [cell_of_row w mb 9 _ 49 (0, 0) h.out.ms]; rfl, h⟩
theorem fts_get {w0 w : World} {sb mb : Nat} {W : Int} {a : Option Addr} {n c : Nat} (h : FtS w0 w sb mb W a n c) : Hid (Ft w0 w sb mb W a n c) := h.2.2.2.2.2.2.2.2.2.2.2.2.2.2.2.2.2
theorem fts_drew {w0 w : World} {sb mb : Nat} {W : Int} {a : Option Addr} {n c : Nat} (h : Hid (Ft w0 w sb mb W a n c)) : FtS w0 w.drew sb mb W a n c := fts (h.out.below ((Below.refl _ w).drew))
set_option maxRecDepth 100000 in
set_option maxHeartbeats 8000000 in
theorem d29 (W : Int) (a : Option Addr) (n c : Nat) (B : List Int) (w : World) (h : In w a n B) (hn : n ≤ 9223372036854775807) : Calls Tryd.prog 29 #[.agg #[.bool false, .bool false, .bool false, .int .i64 0, .int .i64 2147483647, .int .i64 0, .int .i64 3, .bool true], .agg #[.int .u8 6, .int .i64 0, .int .i64 0, .int .i64 0, .int .i64 0, .slice none 0 0, .int .i64 0, .int .i64 0, .int .i64 W, .slice a n c]] w fun e w' => e = .returned (.bool (nz W B)) ∧ Below w.heap.size w w' := by
  obtain ⟨U, hU⟩ : ∃ U, (w.alloc (.cells #[.bool false, .bool false, .bool false, .int .i64 0, .int .i64 2147483647, .int .i64 0, .int .i64 3, .bool true] 61)).alloc (.cells #[.int .u8 6, .int .i64 0, .int .i64 0, .int .i64 0, .int .i64 0, .slice none 0 0, .int .i64 0, .int .i64 0, .int .i64 W, .slice a n c] 49) = U := ⟨_, rfl⟩
  obtain ⟨sb, hsb⟩ : ∃ sb, w.heap.size = sb := ⟨_, rfl⟩
  obtain ⟨mb, hmb⟩ : ∃ mb, sb + 1 = mb := ⟨_, rfl⟩
  have H0 : Hid (Ft w U sb mb W a n c) := by
    rw [← hU, ← hmb, ← hsb]
    have b1 : Below w.heap.size w (w.alloc (.cells #[.bool false, .bool false, .bool false, .int .i64 0, .int .i64 2147483647, .int .i64 0, .int .i64 3, .bool true] 61)) := (Below.refl _ w).alloc (Nat.le_refl _) _
    have e1 := heap_alloc_new w (.cells #[.bool false, .bool false, .bool false, .int .i64 0, .int .i64 2147483647, .int .i64 0, .int .i64 3, .bool true] 61)
    refine ⟨?_, ?_, b1.alloc b1.size _⟩
    · exact (((Below.refl _ (w.alloc (.cells #[.bool false, .bool false, .bool false, .int .i64 0, .int .i64 2147483647, .int .i64 0, .int .i64 3, .bool true] 61))).alloc (Nat.le_refl _) (.cells #[.int .u8 6, .int .i64 0, .int .i64 0, .int .i64 0, .int .i64 0, .slice none 0 0, .int .i64 0, .int .i64 0, .int .i64 W, .slice a n c] 49)).block w.heap.size (Array.getElem?_eq_some_iff.1 e1).1).trans e1
    · have := heap_alloc_new (w.alloc (.cells #[.bool false, .bool false, .bool false, .int .i64 0, .int .i64 2147483647, .int .i64 0, .int .i64 3, .bool true] 61)) (.cells #[.int .u8 6, .int .i64 0, .int .i64 0, .int .i64 0, .int .i64 0, .slice none 0 0, .int .i64 0, .int .i64 0, .int .i64 W, .slice a n c] 49)
      simpa using this
  have H37 : Hid (∀ V, Hid (Ft w V sb mb W a n c) → Calls Tryd.prog 37 #[.agg #[.int .i64 0, .int .i64 0]] V fun e w' => e = .returned (.bool true) ∧ Hid (Ft w w' sb mb W a n c)) := fun V hV => (d37 V).mono fun e w' ⟨h1, h2⟩ => ⟨h1, hV.out.below h2⟩
  have H36 : Hid (∀ V x y z r, Hid (Ft w V sb mb W a n c) → (bif x then y else z) = r → Calls Tryd.prog 36 #[.bool x, .bool y, .bool z] V fun e w' => e = .returned (.bool r) ∧ Hid (Ft w w' sb mb W a n c)) := fun V x y z r hV hr => (d36 x y z V).mono fun e w' ⟨h1, h2⟩ => ⟨by rw [h1, hr], by rw [h2]; exact hV⟩
  have H38 : Hid (∀ V, Hid (Ft w V sb mb W a n c) → Calls Tryd.prog 38 #[.slice none 0 0] V fun e w' => e = .returned (.bool false) ∧ Hid (Ft w w' sb mb W a n c)) := fun V hV => (d38 none 0 V).mono fun e w' ⟨h1, h2⟩ => ⟨h1, hV.out.below h2⟩
  have H39 : Hid (∀ V hi, 0 ≤ hi → Hid (Ft w V sb mb W a n c) → Calls Tryd.prog 39 #[.agg #[.int .i64 0, .int .i64 hi], .int .i64 0] V fun e w' => e = .returned (.bool true) ∧ Hid (Ft w w' sb mb W a n c)) := fun V hi h0 hV => (d39 0 hi 0 V).mono fun e w' ⟨h1, h2⟩ => ⟨by rw [h1]; simp [hasB, h0], hV.out.below h2⟩
  obtain ⟨R, hR⟩ : ∃ R, nz W B = R := ⟨_, rfl⟩
  have H40 : Hid (∀ V, Hid (Ft w V sb mb W a n c) → Calls Tryd.prog 40 #[.agg #[.int .i64 W, .slice a n c]] V fun e w' => e = .returned (.bool R) ∧ Hid (Ft w w' sb mb W a n c)) := fun V hV => (d40 W a n c B V (h.below hV.out.bel) hn).mono fun e w' ⟨h1, h2⟩ => ⟨by rw [h1, hR], hV.out.below h2⟩
  obtain ⟨Z, hZ⟩ : ∃ Z, zeroB W n = Z := ⟨_, rfl⟩
  have H41 : Hid (∀ V, Hid (Ft w V sb mb W a n c) → Calls Tryd.prog 41 #[.agg #[.int .i64 W, .slice a n c]] V fun e w' => e = .returned (.bool Z) ∧ Hid (Ft w w' sb mb W a n c)) := fun V hV => (d41 W a n c V).mono fun e w' ⟨h1, h2⟩ => ⟨by rw [h1, hZ], hV.out.below h2⟩
  rw [hR]
  clear h hR hZ
  go_enter Tryd.func29, Tryd.ntmps29
  go_wp2_with fail
  clear hU hsb hmb
  go_region_held3 (fun w' => FtS w w' sb mb W a n c)
    (first | assumption | exact fts (by assumption) | exact fts_drew H0)
    (first
      | (go_at_call 37; refine (H37.out _ (fts_get (by assumption))).mono ?_; rintro e w6 ⟨rfl, H6⟩)
      | (go_at_call 36; refine (H36.out _ _ _ _ _ (fts_get (by assumption)) (by rfl)).mono ?_; rintro e w6 ⟨rfl, H6⟩)
      | (go_at_call 38; refine (H38.out _ (fts_get (by assumption))).mono ?_; rintro e w6 ⟨rfl, H6⟩)
      | (go_at_call 39; refine (H39.out _ _ (by decide) (fts_get (by assumption))).mono ?_; rintro e w6 ⟨rfl, H6⟩)
      | (go_at_call 40; refine (H40.out _ (fts_get (by assumption))).mono ?_; rintro e w6 ⟨rfl, H6⟩)
      | (go_at_call 41; refine (H41.out _ (fts_get (by assumption))).mono ?_; rintro e w6 ⟨rfl, H6⟩))
  all_goals (
    go_wp2_with fail
    go_ret
    exact ⟨rfl, H6.out.bel⟩)
end Go.Proofs.YtopapmnoepnpcaaDoor
