/- Contracts of the document's told, Is, kind. -/
import Derived.Test.YtaehhophaaipdaaGreatDoorGQg
import Derived.Test.YtaehhophaaipdaaGreatDoorQNg
namespace Go.Proofs.YtaehhophaaipdaaGreatDoor
open Go.RowKit
attribute [local go_sem ↓] Go.wp_at_zero Go.wp_at_succ
/-- What the document's guards tell. -/
def RgPost (u : G2) (w : World) (e : Ending) (w' : World) : Prop := ∃ q c, e = .returned (.tuple #[.int .u8 u.1, .slice q u.2.length c]) ∧ NamesAt w' (.slice q u.2.length c) u.2 ∧ Below w.heap.size w w'
theorem rg_nil {o : Int} {w w' : World} (h : Below w.heap.size w w') : RgPost (o, []) w (.returned (.tuple #[.int .u8 o, .slice none 0 0])) w' := ⟨none, 0, rfl, namesAt_nil _, h⟩
theorem x79 (b : Bool) (w : World) : Calls Tryz.prog 79 #[.bool b] w fun e w' => e = .returned (.tuple #[.int .u8 (outO b), .slice none 0 0]) ∧ w' = w := by
 cases b
 ·go_enter Tryz.func79, Tryz.ntmps79
  go_wp2_with fail
  exact bodyPost_ret (v := .tuple #[.int .u8 2, .slice none 0 0]) (by simp [results, Tryz.results79, go_sem]) rfl ⟨rfl, rfl⟩
 ·go_enter Tryz.func79, Tryz.ntmps79
  go_wp2_with fail
  exact bodyPost_ret (v := .tuple #[.int .u8 1, .slice none 0 0]) (by simp [results, Tryz.results79, go_sem]) rfl ⟨rfl, rfl⟩
/-- Deref of the document, of any term. -/
def DerG (w0 : World) (p : Option Addr) (m : Hp) : Prop := ∀ (W : World) (t : List C) (v : Value), Below w0.heap.size w0 W → TermAt W v t → (∀ c ∈ t, wfN (c.vn, c.vk)) → t ≠ [] → Calls Tryz.prog 26 #[.pointer p, v] W fun e w' => ∃ a n cp l', e = .returned (.slice a n cp) ∧ Hid (IsFol m t l' ∧ TermAt w' (.slice a n cp) l' ∧ Below W.heap.size W w')
theorem DerG.one {w0 : World} {p : Option Addr} {m : Hp} (h : DerG w0 p m) : DerR w0 p m := fun W c v hb hT hW => h W [c] v hb hT (by intro x hx; simp at hx; subst hx; exact hW) (by simp)
theorem derG_rf {w0 : World} {G : Nat → Prop} {rt : Nat} {bs : List Bn} (h : RfH w0 G rt bs) (hup : RisesH (hpOf bs)) (hD : DescH (hpOf bs)) (hwf : ∀ x l, lookH (hpOf bs) x = some l → wfN x ∧ ∀ c ∈ l, wfN (c.vn, c.vk)) (hn : bs.length ≤ 3518437208780) : DerG w0 (some ⟨rt, 0, none⟩) (hpOf bs) := fun W t v hb hT hW hne => by
 refine (z15 G rt bs t v W (h.below hb) hup hD hwf hn hT hW hne).mono ?_
 rintro e w' ⟨a, k, cp, l', rfl, H⟩
 obtain ⟨h1, rfl, h3, h4⟩ := H.out
 exact ⟨a, _, cp, l', rfl, h3, h1.below h4, h4⟩
/-- Deref, its first cell told. -/
theorem der_head {w0 : World} {p : Option Addr} {m : Hp} (hD : DerG w0 p m) {t : List C} {e : C} {r : List C} (hf : IsFol m t (e :: r)) {v : Value} {W : World} (hb : Below w0.heap.size w0 W) (hT : TermAt W v t) (hW : ∀ c ∈ t, wfN (c.vn, c.vk)) (hne : t ≠ []) :
  Calls Tryz.prog 26 #[.pointer p, v] W fun x w' => ∃ b o cp, x = .returned (.slice (some ⟨b, o, none⟩) (r.length + 1) cp) ∧ r.length + 1 ≤ cp ∧ Hid ((∀ w2, Below w'.heap.size w' w2 → w2.cell? ⟨b, o, none⟩ = some (.int .u8 e.k) ∧ w2.cell? ⟨b, o + 1, none⟩ = some (.string e.t) ∧ w2.cell? ⟨b, o + 2, none⟩ = some (.int .i64 e.n) ∧ w2.cell? ⟨b, o + 3, none⟩ = some (.int .i64 e.vn) ∧ w2.cell? ⟨b, o + 4, none⟩ = some (.int .i64 e.vk)) ∧ Below W.heap.size W w') := by
 refine (hD W t v hb hT hW hne).mono ?_
 rintro x w' ⟨a, n, cp, l', rfl, H⟩
 obtain ⟨h1, h2, h3⟩ := H.out
 have e1 := h1.uniq hf
 subst e1
 obtain ⟨b, o, cap, e2, e3, HC⟩ := head_cells h2
 simp only [Value.slice.injEq] at e2
 obtain ⟨rfl, rfl, rfl⟩ := e2
 exact ⟨b, o, _, rfl, e3, HC.out, h3⟩
set_option maxRecDepth 100000 in
set_option maxHeartbeats 4000000 in
theorem x43_7 (m : Hp) (w0 : World) (p : Option Addr) (hD : DerG w0 p m) (tx : ByteArray) (ht : tx.toList = [105, 110, 116, 101, 103, 101, 114]) (t : List C) (e : C) (r : List C) (v : Value) (w : World) (hb : Below w0.heap.size w0 w) (hf : IsFol m t (e :: r)) (hT : TermAt w v t) (hW : ∀ c ∈ t, wfN (c.vn, c.vk)) (hne : t ≠ []) :
  Calls Tryz.prog 43 #[.pointer p, .string tx, v] w (RgPost (askR 7 e) w) := by
 have H26 := der_head hD hf hb hT hW hne
 obtain ⟨va, vc, hv⟩ := hT.form
 subst hv
 clear hD hf hb hT hW hne
 go_enter Tryz.func43, Tryz.ntmps43
 go_wp2_with fail
 refine H26.mono ?_
 rintro x w1 ⟨b, o, cp, rfl, hcp, H1⟩
 clear H26
 obtain ⟨p0, p1, p2, p3, p4⟩ := H1.out.1 w1 (Below.refl _ _)
 obtain ⟨X, hX⟩ : ∃ X, w1.alloc (.cells #[.int .u8 e.k, .string e.t, .int .i64 e.n, .int .i64 e.vn, .int .i64 e.vk] 69) = X := ⟨_, rfl⟩
 have hBX : Below w1.heap.size w1 X := by rw [← hX]; exact below_alloc _ _
 have hx : X.heap[w1.heap.size]? = some (.cells #[.int .u8 e.k, .string e.t, .int .i64 e.n, .int .i64 e.vn, .int .i64 e.vk] 69 (0, 0)) := by rw [← hX]; exact heap_alloc_new _ _
 have d0 : X.cell? ⟨w1.heap.size, 0, none⟩ = some (.int .u8 e.k) := by rw [cell_of_row X _ 0 _ 69 (0, 0) hx]; rfl
 have d3 : X.cell? ⟨w1.heap.size, 3, none⟩ = some (.int .i64 e.vn) := by rw [cell_of_row X _ 3 _ 69 (0, 0) hx]; rfl
 have d4 : X.cell? ⟨w1.heap.size, 4, none⟩ = some (.int .i64 e.vk) := by rw [cell_of_row X _ 4 _ 69 (0, 0) hx]; rfl
 have HB : Hid (Below w.heap.size w X) := H1.out.2.trans (hBX.mono H1.out.2.size)
 clear H1 hBX hx
 by_cases h4 : e.k = 4
 ·have HE : Hid (askR 7 e = (3, [(e.vn, e.vk)])) := by show askR 7 e = _; unfold askR; rw [if_pos h4]
  rw [h4] at d0 hX
  rw [h4] at p0
  clear h4
  generalize e.vn = x1 at *
  generalize e.vk = x2 at *
  go_wp2_with fail
  go_region
  all_goals (
   go_wp2_with fail
   refine bodyPost_ret (v := .tuple #[.int .u8 3, .slice (some ⟨X.heap.size, 0, none⟩) 1 1]) (by simp [results, Tryz.results43, go_sem]) rfl ?_
   rw [HE.out]
   exact ⟨_, 1, rfl, (names_new _ (x1, x2)).below (Below.refl _ _).drew, HB.out.trans ((below_alloc _ _).drew.mono HB.out.size)⟩)
 ·have HE : Hid (askR 7 e = (outO (kindB 7 e.k), [])) := by show askR 7 e = _; unfold askR; rw [if_neg h4]
  have q4 : (e.k == 4) = false := by simpa using h4
  clear h4
  go_wp2_with fail
  refine (x79 _ _).mono ?_
  rintro x w2 ⟨rfl, hw2⟩
  obtain rfl := hw2
  go_wp2_with fail
  refine bodyPost_ret (v := .tuple #[.int .u8 (outO (e.k == 1)), .slice none 0 0]) (by simp [results, Tryz.results43, go_sem]) rfl ?_
  rw [HE.out]
  exact rg_nil HB.out
set_option maxRecDepth 100000 in
set_option maxHeartbeats 4000000 in
theorem x43_8 (m : Hp) (w0 : World) (p : Option Addr) (hD : DerG w0 p m) (tx : ByteArray) (ht : tx.toList = [97, 116, 111, 109]) (t : List C) (e : C) (r : List C) (v : Value) (w : World) (hb : Below w0.heap.size w0 w) (hf : IsFol m t (e :: r)) (hT : TermAt w v t) (hW : ∀ c ∈ t, wfN (c.vn, c.vk)) (hne : t ≠ []) :
  Calls Tryz.prog 43 #[.pointer p, .string tx, v] w (RgPost (askR 8 e) w) := by
 have H26 := der_head hD hf hb hT hW hne
 obtain ⟨va, vc, hv⟩ := hT.form
 subst hv
 clear hD hf hb hT hW hne
 go_enter Tryz.func43, Tryz.ntmps43
 go_wp2_with fail
 refine H26.mono ?_
 rintro x w1 ⟨b, o, cp, rfl, hcp, H1⟩
 clear H26
 obtain ⟨p0, p1, p2, p3, p4⟩ := H1.out.1 w1 (Below.refl _ _)
 obtain ⟨X, hX⟩ : ∃ X, w1.alloc (.cells #[.int .u8 e.k, .string e.t, .int .i64 e.n, .int .i64 e.vn, .int .i64 e.vk] 69) = X := ⟨_, rfl⟩
 have hBX : Below w1.heap.size w1 X := by rw [← hX]; exact below_alloc _ _
 have hx : X.heap[w1.heap.size]? = some (.cells #[.int .u8 e.k, .string e.t, .int .i64 e.n, .int .i64 e.vn, .int .i64 e.vk] 69 (0, 0)) := by rw [← hX]; exact heap_alloc_new _ _
 have d0 : X.cell? ⟨w1.heap.size, 0, none⟩ = some (.int .u8 e.k) := by rw [cell_of_row X _ 0 _ 69 (0, 0) hx]; rfl
 have d3 : X.cell? ⟨w1.heap.size, 3, none⟩ = some (.int .i64 e.vn) := by rw [cell_of_row X _ 3 _ 69 (0, 0) hx]; rfl
 have d4 : X.cell? ⟨w1.heap.size, 4, none⟩ = some (.int .i64 e.vk) := by rw [cell_of_row X _ 4 _ 69 (0, 0) hx]; rfl
 have HB : Hid (Below w.heap.size w X) := H1.out.2.trans (hBX.mono H1.out.2.size)
 clear H1 hBX hx
 by_cases h4 : e.k = 4
 ·have HE : Hid (askR 8 e = (3, [(e.vn, e.vk)])) := by show askR 8 e = _; unfold askR; rw [if_pos h4]
  rw [h4] at d0 hX
  rw [h4] at p0
  clear h4
  generalize e.vn = x1 at *
  generalize e.vk = x2 at *
  go_wp2_with fail
  go_region
  all_goals (
   go_wp2_with fail
   refine bodyPost_ret (v := .tuple #[.int .u8 3, .slice (some ⟨X.heap.size, 0, none⟩) 1 1]) (by simp [results, Tryz.results43, go_sem]) rfl ?_
   rw [HE.out]
   exact ⟨_, 1, rfl, (names_new _ (x1, x2)).below (Below.refl _ _).drew, HB.out.trans ((below_alloc _ _).drew.mono HB.out.size)⟩)
 ·have HE : Hid (askR 8 e = (outO (kindB 8 e.k), [])) := by show askR 8 e = _; unfold askR; rw [if_neg h4]
  have q4 : (e.k == 4) = false := by simpa using h4
  clear h4
  go_wp2_with fail
  refine (x79 _ _).mono ?_
  rintro x w2 ⟨rfl, hw2⟩
  obtain rfl := hw2
  go_wp2_with fail
  refine bodyPost_ret (v := .tuple #[.int .u8 (outO (e.k == 2)), .slice none 0 0]) (by simp [results, Tryz.results43, go_sem]) rfl ?_
  rw [HE.out]
  exact rg_nil HB.out
set_option maxRecDepth 100000 in
set_option maxHeartbeats 4000000 in
theorem x43_9 (m : Hp) (w0 : World) (p : Option Addr) (hD : DerG w0 p m) (tx : ByteArray) (ht : tx.toList = [99, 111, 109, 112, 111, 117, 110, 100]) (t : List C) (e : C) (r : List C) (v : Value) (w : World) (hb : Below w0.heap.size w0 w) (hf : IsFol m t (e :: r)) (hT : TermAt w v t) (hW : ∀ c ∈ t, wfN (c.vn, c.vk)) (hne : t ≠ []) :
  Calls Tryz.prog 43 #[.pointer p, .string tx, v] w (RgPost (askR 9 e) w) := by
 have H26 := der_head hD hf hb hT hW hne
 obtain ⟨va, vc, hv⟩ := hT.form
 subst hv
 clear hD hf hb hT hW hne
 go_enter Tryz.func43, Tryz.ntmps43
 go_wp2_with fail
 refine H26.mono ?_
 rintro x w1 ⟨b, o, cp, rfl, hcp, H1⟩
 clear H26
 obtain ⟨p0, p1, p2, p3, p4⟩ := H1.out.1 w1 (Below.refl _ _)
 obtain ⟨X, hX⟩ : ∃ X, w1.alloc (.cells #[.int .u8 e.k, .string e.t, .int .i64 e.n, .int .i64 e.vn, .int .i64 e.vk] 69) = X := ⟨_, rfl⟩
 have hBX : Below w1.heap.size w1 X := by rw [← hX]; exact below_alloc _ _
 have hx : X.heap[w1.heap.size]? = some (.cells #[.int .u8 e.k, .string e.t, .int .i64 e.n, .int .i64 e.vn, .int .i64 e.vk] 69 (0, 0)) := by rw [← hX]; exact heap_alloc_new _ _
 have d0 : X.cell? ⟨w1.heap.size, 0, none⟩ = some (.int .u8 e.k) := by rw [cell_of_row X _ 0 _ 69 (0, 0) hx]; rfl
 have d3 : X.cell? ⟨w1.heap.size, 3, none⟩ = some (.int .i64 e.vn) := by rw [cell_of_row X _ 3 _ 69 (0, 0) hx]; rfl
 have d4 : X.cell? ⟨w1.heap.size, 4, none⟩ = some (.int .i64 e.vk) := by rw [cell_of_row X _ 4 _ 69 (0, 0) hx]; rfl
 have HB : Hid (Below w.heap.size w X) := H1.out.2.trans (hBX.mono H1.out.2.size)
 clear H1 hBX hx
 by_cases h4 : e.k = 4
 ·have HE : Hid (askR 9 e = (3, [(e.vn, e.vk)])) := by show askR 9 e = _; unfold askR; rw [if_pos h4]
  rw [h4] at d0 hX
  rw [h4] at p0
  clear h4
  generalize e.vn = x1 at *
  generalize e.vk = x2 at *
  go_wp2_with fail
  go_region
  all_goals (
   go_wp2_with fail
   refine bodyPost_ret (v := .tuple #[.int .u8 3, .slice (some ⟨X.heap.size, 0, none⟩) 1 1]) (by simp [results, Tryz.results43, go_sem]) rfl ?_
   rw [HE.out]
   exact ⟨_, 1, rfl, (names_new _ (x1, x2)).below (Below.refl _ _).drew, HB.out.trans ((below_alloc _ _).drew.mono HB.out.size)⟩)
 ·have HE : Hid (askR 9 e = (outO (kindB 9 e.k), [])) := by show askR 9 e = _; unfold askR; rw [if_neg h4]
  have q4 : (e.k == 4) = false := by simpa using h4
  clear h4
  go_wp2_with fail
  refine (x79 _ _).mono ?_
  rintro x w2 ⟨rfl, hw2⟩
  obtain rfl := hw2
  go_wp2_with fail
  refine bodyPost_ret (v := .tuple #[.int .u8 (outO (e.k == 3)), .slice none 0 0]) (by simp [results, Tryz.results43, go_sem]) rfl ?_
  rw [HE.out]
  exact rg_nil HB.out
set_option maxRecDepth 100000 in
set_option maxHeartbeats 4000000 in
theorem x43_10 (m : Hp) (w0 : World) (p : Option Addr) (hD : DerG w0 p m) (tx : ByteArray) (ht : tx.toList = [107, 110, 111, 119, 110]) (t : List C) (e : C) (r : List C) (v : Value) (w : World) (hb : Below w0.heap.size w0 w) (hf : IsFol m t (e :: r)) (hT : TermAt w v t) (hW : ∀ c ∈ t, wfN (c.vn, c.vk)) (hne : t ≠ []) :
  Calls Tryz.prog 43 #[.pointer p, .string tx, v] w (RgPost (askR 10 e) w) := by
 have H26 := der_head hD hf hb hT hW hne
 obtain ⟨va, vc, hv⟩ := hT.form
 subst hv
 clear hD hf hb hT hW hne
 go_enter Tryz.func43, Tryz.ntmps43
 go_wp2_with fail
 refine H26.mono ?_
 rintro x w1 ⟨b, o, cp, rfl, hcp, H1⟩
 clear H26
 obtain ⟨p0, p1, p2, p3, p4⟩ := H1.out.1 w1 (Below.refl _ _)
 obtain ⟨X, hX⟩ : ∃ X, w1.alloc (.cells #[.int .u8 e.k, .string e.t, .int .i64 e.n, .int .i64 e.vn, .int .i64 e.vk] 69) = X := ⟨_, rfl⟩
 have hBX : Below w1.heap.size w1 X := by rw [← hX]; exact below_alloc _ _
 have hx : X.heap[w1.heap.size]? = some (.cells #[.int .u8 e.k, .string e.t, .int .i64 e.n, .int .i64 e.vn, .int .i64 e.vk] 69 (0, 0)) := by rw [← hX]; exact heap_alloc_new _ _
 have d0 : X.cell? ⟨w1.heap.size, 0, none⟩ = some (.int .u8 e.k) := by rw [cell_of_row X _ 0 _ 69 (0, 0) hx]; rfl
 have d3 : X.cell? ⟨w1.heap.size, 3, none⟩ = some (.int .i64 e.vn) := by rw [cell_of_row X _ 3 _ 69 (0, 0) hx]; rfl
 have d4 : X.cell? ⟨w1.heap.size, 4, none⟩ = some (.int .i64 e.vk) := by rw [cell_of_row X _ 4 _ 69 (0, 0) hx]; rfl
 have HB : Hid (Below w.heap.size w X) := H1.out.2.trans (hBX.mono H1.out.2.size)
 clear H1 hBX hx
 by_cases h4 : e.k = 4
 ·have HE : Hid (askR 10 e = (3, [(e.vn, e.vk)])) := by show askR 10 e = _; unfold askR; rw [if_pos h4]
  rw [h4] at d0 hX
  rw [h4] at p0
  clear h4
  generalize e.vn = x1 at *
  generalize e.vk = x2 at *
  go_wp2_with fail
  go_region
  all_goals (
   go_wp2_with fail
   refine bodyPost_ret (v := .tuple #[.int .u8 3, .slice (some ⟨X.heap.size, 0, none⟩) 1 1]) (by simp [results, Tryz.results43, go_sem]) rfl ?_
   rw [HE.out]
   exact ⟨_, 1, rfl, (names_new _ (x1, x2)).below (Below.refl _ _).drew, HB.out.trans ((below_alloc _ _).drew.mono HB.out.size)⟩)
 ·have HE : Hid (askR 10 e = (outO (kindB 10 e.k), [])) := by show askR 10 e = _; unfold askR; rw [if_neg h4]
  have q4 : (e.k == 4) = false := by simpa using h4
  clear h4
  go_wp2_with fail
  refine bodyPost_ret (v := .tuple #[.int .u8 1, .slice none 0 0]) (by simp [results, Tryz.results43, go_sem]) rfl ?_
  rw [HE.out]
  exact rg_nil HB.out
end Go.Proofs.YtaehhophaaipdaaGreatDoor
