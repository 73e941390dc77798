/- Contracts of Wanted and Asked: the names, rising, in a row of the caller's own. -/
import Derived.Test.YtdonclnjgopmbaaKR3
import Derived.Test.YtdonclnjgopmbaaOD
namespace Go.Proofs.Ytdonclnjgopmbaa
open Go.RowKit
attribute [local go_sem ↓] Go.wp_at_zero Go.wp_at_succ
/-- Names, rising: just those of which p says so. -/
structure UpN (p : Nm → Prop) (xs : List Nm) : Prop where
  all : ∀ x, x ∈ xs ↔ wfN x ∧ p x
  up : xs.Pairwise ltN
theorem UpN.like {p : Nm → Prop} {xs ys : List Nm} (h : UpN p xs) (h' : UpN p ys) : xs = ys := rise_ext ltN_irr ltN_tr h.up h'.up fun x => (h.all x).trans (h'.all x).symm
/-- What Wanted and Asked tell. -/
def NmTo (p : Nm → Prop) (nn : Nat) (w : World) (v : Value) (w' : World) : Prop := ∃ xs, (UpN p xs ∧ xs.length ≤ nn) ∧ (∃ a c, v = .slice a xs.length c) ∧ w'.ownsRow w.heap.size 28 2 v xs.length (xs.flatMap encM) ∧ Below w.heap.size w w'
set_option maxRecDepth 100000 in
theorem o23 (B tb rb wb n : Nat) (s : Nm → Sl) (m : Nm → List Int) (q : Nm → Bool) (w : World) (h : TbAt w B tb rb wb n s m q) (hn : n ≤ 1000000) :
    Calls Try.prog 23 #[.pointer (some ⟨tb, 0, none⟩)] w fun e w' => ∃ u, e = .returned u ∧ NmTo (fun x => q x = true) n w u w' := by
  obtain ⟨_, t1⟩ := h.cells
  obtain ⟨D, h1, h2⟩ := h.want
  have H36 : Calls Try.prog 36 #[.map (some wb)] w fun e w' => ∃ u, e = .returned u ∧ Hid (NmTo (fun x => q x = true) n w u w') := by
    refine (y31 wb n D w h1 (by omega)).mono ?_
    rintro e w' ⟨u, rfl, xs, ⟨hu, hl⟩, h4, h5, h6⟩
    refine ⟨u, rfl, xs, ⟨⟨fun x => (hu.all x).trans ⟨fun ⟨k1, k2⟩ => ⟨k1, ?_⟩, fun ⟨k1, k2⟩ => ⟨k1, ?_⟩⟩, hu.up⟩, hl⟩, h4, h5, h6⟩
    · have := (h2 x k1).1
      have e : Maps.has D (kLit x) = true := k2
      rw [show nmK.l x = kLit x from rfl, e] at this
      cases hq : q x
      · simp [hq] at this
      · rfl
    · have := (h2 x k1).1
      rw [show nmK.l x = kLit x from rfl] at this
      rw [this]; simp [k2]
  clear h h1 h2 hn
  go_enter Try.func23, Try.ntmps23
  go_wp2_with fail
  refine H36.mono ?_
  rintro e w1 ⟨u, rfl, H1⟩
  go_wp2_with fail
  go_ret
  exact ⟨u, rfl, H1.out⟩
set_option maxRecDepth 100000 in
theorem o24 (B tb rb wb n : Nat) (s : Nm → Sl) (m : Nm → List Int) (q : Nm → Bool) (w : World) (h : TbAt w B tb rb wb n s m q) (hn : n ≤ 1000000) :
    Calls Try.prog 24 #[.pointer (some ⟨tb, 0, none⟩)] w fun e w' => ∃ u, e = .returned u ∧ NmTo (fun x => m x ≠ []) n w u w' := by
  obtain ⟨t0, _⟩ := h.cells
  obtain ⟨D, h1, h2⟩ := h.rows
  have H37 : Calls Try.prog 37 #[.map (some rb)] w fun e w' => ∃ u, e = .returned u ∧ Hid (NmTo (fun x => m x ≠ []) n w u w') := by
    refine (R.y31 rb n D w h1 (by omega)).mono ?_
    rintro e w' ⟨u, rfl, xs, ⟨hu, hl⟩, h4, h5, h6⟩
    refine ⟨u, rfl, xs, ⟨⟨fun x => (hu.all x).trans ⟨fun ⟨k1, k2⟩ => ⟨k1, ?_⟩, fun ⟨k1, k2⟩ => ⟨k1, ?_⟩⟩, hu.up⟩, hl⟩, h4, h5, h6⟩
    · have := (h2 x k1).1
      have e : Maps.has D (kLit x) = true := k2
      rw [show nmK.l x = kLit x from rfl, e] at this
      intro hq
      simp [hq] at this
    · have := (h2 x k1).1
      rw [show nmK.l x = kLit x from rfl] at this
      rw [this]; simp [k2]
  clear h h1 h2 hn
  go_enter Try.func24, Try.ntmps24
  go_wp2_with fail
  refine H37.mono ?_
  rintro e w1 ⟨u, rfl, H1⟩
  go_wp2_with fail
  go_ret
  exact ⟨u, rfl, H1.out⟩
end Go.Proofs.Ytdonclnjgopmbaa
