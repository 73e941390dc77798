/- Contracts of Equation, of the program and of the document: both sides. -/
import Derived.Test.YtljggjllijacjaaGreatDoorAAg
import Derived.Test.YtljggjllijacjaaGreatDoorB1g
namespace Go.Proofs.YtljggjllijacjaaGreatDoor
open Go.RowKit
attribute [local go_sem ↓] Go.wp_at_zero Go.wp_at_succ
theorem dN_b (w : World) (n : Nat) : Below w.heap.size w (w.drewN n) := ⟨(Below.refl w.heap.size w).os, (Below.refl w.heap.size w).tape, (Below.refl w.heap.size w).output, (Below.refl w.heap.size w).size, fun k hk => (Below.refl w.heap.size w).block k hk⟩
def eqS : ByteArray := ⟨#[61]⟩
/-- An equation. -/
def eqB (l : List C) : Bool := rightB l && isB l eqS 2
theorem eq_two {l : List C} (h : eqB l = true) : ∃ x y, argsL l = [x, y] := by
 unfold eqB at h
 rw [Bool.and_eq_true] at h
 have h1 : 0 < l.length := (right_len h.1).1
 have h2 := h.2
 rw [isB_get h1] at h2
 simp at h2
 have hk : headK l = 3 := by rw [headK_get h1]; omega
 have hl := (argsL_spec l h.1 h1 hk).2.1
 have e : (argsOf l[0].k l[0].n).toNat = 2 := by
  unfold argsOf; rw [if_pos (by omega)]; omega
 rw [e] at hl
 match argsL l, hl with
 | [x, y], _ => exact ⟨x, y, rfl⟩
/-- What Equation tells. -/
def EqPost (l : List C) (e : Ending) (w w' : World) : Prop :=
 (eqB l = false ∧ e = .returned (.tuple #[.slice none 0 0, .slice none 0 0, .bool false]) ∧ Below w.heap.size w w') ∨ (eqB l = true ∧ ∃ a b x y, argsL l = [x, y] ∧ e = .returned (.tuple #[a, b, .bool true]) ∧ OwnT w' w.heap.size a x ∧ OwnT w' w.heap.size b y ∧ Ap [a, b] ∧ Below w.heap.size w w')
theorem range_of_owns' {w : World} {g : Nat} {cur : Array Value} {e : TypeId} {m : Nat} {xs : List Value} (h3 : w.heap[g]? = some (.cells cur e (0, 0))) (h7 : cur.toList.take m = xs) : w.rangeAt g 0 xs := by
 intro j u hu
 rw [cell_of_row _ _ _ _ _ _ h3]
 rw [← h7, List.getElem?_take] at hu
 split at hu
 ·simpa using hu
 ·cases hu
theorem two_own {w : World} {n : Nat} {u : Value} {x y : List C} (h : OwnRow w n u [x, y]) : ∃ g cap a b, u = .slice (some ⟨g, 0, none⟩) 2 cap ∧ w.cell? ⟨g, 0, none⟩ = some a ∧ w.cell? ⟨g, 1, none⟩ = some b ∧ OwnT w n a x ∧ OwnT w n b y ∧ Ap [a, b] := by
 obtain ⟨us, h1, h2, h3⟩ := h
 have hl : us.length = 2 := by have := h1.1; simpa using this
 match us, hl with
 | [a, b], _ =>
  rcases h1.2 with ⟨_, e⟩ | ⟨g, c, cur, e1, e2, e3, e4, e5, e6, e7⟩
  ·simp at e
  ·refine ⟨g, c, a, b, e1, ?_, ?_, h2 0 a x rfl rfl, h2 1 b y rfl rfl, h3⟩
   ·have := range_of_owns' e3 e7 0 a rfl
    simpa using this
   ·have := range_of_owns' e3 e7 1 b rfl
    simpa using this
theorem ownT_form {w : World} {n : Nat} {u : Value} {l : List C} (h : OwnT w n u l) : ∃ ad cap, u = .slice ad l.length cap := by
 rcases h.2 with ⟨h1, h2⟩ | ⟨g, c, cur, h1, _⟩
 ·exact ⟨none, 0, by rw [h1, h2]⟩
 ·exact ⟨_, _, h1⟩
set_option maxRecDepth 100000 in
set_option maxHeartbeats 2000000 in
theorem u6 (l : List C) (v : Value) (w : World) (hT : TermAt w v l) (hS : Signs w) : Calls Tryz.prog 30 #[v] w fun e w' => EqPost l e w w' := by
 have HR : Hid (Calls Tryz.prog 68 #[v] w fun e w' => e = .returned (.bool (rightB l)) ∧ Below w.heap.size w w') := c22 l v w hT hS
 have HI : Hid (∀ w', Below w.heap.size w w' → Calls Tryz.prog 69 #[v, .string ⟨#[61]⟩, .int .i64 2] w' fun e w'' => e = .returned (.bool (isB l eqS 2)) ∧ w'' = w') := fun w' hb => c28 l v eqS 2 w' (hT.below hb)
 have HA : Hid (∀ w', Below w.heap.size w w' → Calls Tryz.prog 70 #[v] w' fun e w'' => ∃ u, e = .returned u ∧ OwnRow w'' w'.heap.size u (argsL l) ∧ Below w'.heap.size w' w'') := fun w' hb => c26o l v w' (hT.below hb) (hS.below hb)
 have HE : Hid (eqB l = (rightB l && isB l eqS 2)) := rfl
 have HT : Hid (eqB l = true → ∃ x y, argsL l = [x, y]) := eq_two
 obtain ⟨ad, cap, hf⟩ := hT.form
 subst hf
 clear hT hS
 cases hr : rightB l
 ·have hq : eqB l = false := by rw [HE.out, hr]; rfl
  rw [hr] at HR
  have HQ : Hid (eqB l = false) := hq
  clear hq hr
  go_enter Tryz.func30, Tryz.ntmps30
  go_wp2_with fail
  refine HR.out.mono ?_
  rintro e w1 ⟨rfl, hb1⟩
  clear HR
  go_wp2_with fail
  exact bodyPost_ret (v := .tuple #[.slice none 0 0, .slice none 0 0, .bool false]) (by simp [results, Tryz.results30, go_sem]) rfl (.inl ⟨HQ.out, rfl, hb1⟩)
 ·cases hi : isB l eqS 2
  ·have hq : eqB l = false := by rw [HE.out, hr, hi]; rfl
   rw [hr] at HR
   rw [hi] at HI
   have HQ : Hid (eqB l = false) := hq
   clear hq hr hi
   go_enter Tryz.func30, Tryz.ntmps30
   go_wp2_with fail
   refine HR.out.mono ?_
   rintro e w1 ⟨rfl, hb1⟩
   clear HR
   go_wp2_with fail
   refine (HI.out _ hb1).mono ?_
   rintro e w1' ⟨rfl, hw⟩
   obtain rfl := hw.symm
   go_wp2_with fail
   exact bodyPost_ret (v := .tuple #[.slice none 0 0, .slice none 0 0, .bool false]) (by simp [results, Tryz.results30, go_sem]) rfl (.inl ⟨HQ.out, rfl, hb1⟩)
  ·have hq : eqB l = true := by rw [HE.out, hr, hi]; rfl
   rw [hr] at HR
   rw [hi] at HI
   have HQ : Hid (eqB l = true) := hq
   obtain ⟨x, y, hxy⟩ := HT.out hq
   have HXY : Hid (argsL l = [x, y]) := hxy
   clear hq hr hi
   go_enter Tryz.func30, Tryz.ntmps30
   go_wp2_with fail
   refine HR.out.mono ?_
   rintro e w1 ⟨rfl, hb1⟩
   clear HR
   go_wp2_with fail
   refine (HI.out _ hb1).mono ?_
   rintro e w1' ⟨rfl, hw⟩
   obtain rfl := hw.symm
   have HB1 : Hid (Below w.heap.size w w1) := hb1
   go_wp2_with fail
   refine (HA.out _ hb1).mono ?_
   rintro e w2 ⟨u, rfl, hO, hb2⟩
   have HB2 : Hid (Below w.heap.size w w2) := HB1.out.trans (hb2.mono HB1.out.size)
   rw [hxy] at hO
   obtain ⟨g, cp, a, b, huf, ca, cb, hOa, hOb, hAp⟩ := two_own hO
   have HO : Hid (OwnT w2 w.heap.size a x ∧ OwnT w2 w.heap.size b y ∧ Ap [a, b]) := ⟨ownT_base hOa HB1.out.size, ownT_base hOb HB1.out.size, hAp⟩
   obtain ⟨aa, ac, haf⟩ := ownT_form hOa
   obtain ⟨ba, bc, hbf⟩ := ownT_form hOb
   clear hO hOa hOb hAp hxy hb1 hb2 HA HI
   generalize x.length = n1 at *
   generalize y.length = n2 at *
   subst huf haf hbf
   go_wp2_with fail
   go_quiet (fail)
   have HF : Hid (OwnT (w2.drewN nq) w.heap.size (.slice aa n1 ac) x ∧ OwnT (w2.drewN nq) w.heap.size (.slice ba n2 bc) y ∧ Ap [.slice aa n1 ac, .slice ba n2 bc] ∧ Below w.heap.size w (w2.drewN nq)) := ⟨ownT_below HO.out.1 (dN_b _ _), ownT_below HO.out.2.1 (dN_b _ _), HO.out.2.2, HB2.out.trans ((dN_b _ _).mono HB2.out.size)⟩
   go_wp2_with fail
   exact bodyPost_ret (v := .tuple #[.slice aa n1 ac, .slice ba n2 bc, .bool true]) (by simp [results, Tryz.results30, go_sem]) rfl (.inr ⟨HQ.out, _, _, x, y, HXY.out, rfl, HF.out.1, HF.out.2.1, HF.out.2.2.1, HF.out.2.2.2⟩)
def EqPostR (l : List C) (e : Ending) (w w' : World) : Prop :=
 (eqB l = false ∧ e = .returned (.tuple #[.slice none 0 0, .slice none 0 0, .bool false]) ∧ Below w.heap.size w w') ∨ (eqB l = true ∧ ∃ a b x y, argsL l = [x, y] ∧ e = .returned (.tuple #[a, b, .bool true]) ∧ TermAt w' a x ∧ TermAt w' b y ∧ Below w.heap.size w w')
theorem two_row {w : World} {u : Value} {x y : List C} (h : RowAt w u [x, y]) : ∃ g o cap a b, u = .slice (some ⟨g, o, none⟩) 2 cap ∧ w.cell? ⟨g, o, none⟩ = some a ∧ w.cell? ⟨g, o + 1, none⟩ = some b ∧ TermAt w a x ∧ TermAt w b y := by
 rcases h.2 with ⟨e, _⟩ | ⟨b, o, cap, vs, h1, h2, h3, h4, h5, h6, h7⟩
 ·cases e
 ·match vs, h5 with
  | [p, q], _ => exact ⟨b, o, cap, p, q, h1, by simpa using h6 0 p rfl, h6 1 q rfl, h7 0 p x rfl rfl, h7 1 q y rfl rfl⟩
set_option maxRecDepth 100000 in
set_option maxHeartbeats 2000000 in
theorem u7 (l : List C) (v : Value) (w : World) (hT : TermAt w v l) : Calls Tryz.prog 63 #[v] w fun e w' => EqPostR l e w w' := by
 have HR : Hid (Calls Tryz.prog 79 #[v] w fun e w' => e = .returned (.bool (rightB l)) ∧ Below w.heap.size w w') := c23 l v w hT
 have HI : Hid (∀ w', Below w.heap.size w w' → Calls Tryz.prog 91 #[v, .string ⟨#[61]⟩, .int .i64 2] w' fun e w'' => e = .returned (.bool (isB l eqS 2)) ∧ w'' = w') := fun w' hb => c29 l v eqS 2 w' (hT.below hb)
 have HA : Hid (∀ w', Below w.heap.size w w' → Calls Tryz.prog 46 #[v] w' fun e w'' => ∃ u, e = .returned u ∧ RowAt w'' u (argsL l) ∧ Below w'.heap.size w' w'') := fun w' hb => c27 l v w' (hT.below hb)
 have HE : Hid (eqB l = (rightB l && isB l eqS 2)) := rfl
 have HT : Hid (eqB l = true → ∃ x y, argsL l = [x, y]) := eq_two
 obtain ⟨ad, cap, hf⟩ := hT.form
 subst hf
 clear hT
 cases hr : rightB l
 ·have hq : eqB l = false := by rw [HE.out, hr]; rfl
  rw [hr] at HR
  have HQ : Hid (eqB l = false) := hq
  clear hq hr
  go_enter Tryz.func63, Tryz.ntmps63
  go_wp2_with fail
  refine HR.out.mono ?_
  rintro e w1 ⟨rfl, hb1⟩
  clear HR
  go_wp2_with fail
  exact bodyPost_ret (v := .tuple #[.slice none 0 0, .slice none 0 0, .bool false]) (by simp [results, Tryz.results63, go_sem]) rfl (.inl ⟨HQ.out, rfl, hb1⟩)
 ·cases hi : isB l eqS 2
  ·have hq : eqB l = false := by rw [HE.out, hr, hi]; rfl
   rw [hr] at HR
   rw [hi] at HI
   have HQ : Hid (eqB l = false) := hq
   clear hq hr hi
   go_enter Tryz.func63, Tryz.ntmps63
   go_wp2_with fail
   refine HR.out.mono ?_
   rintro e w1 ⟨rfl, hb1⟩
   clear HR
   go_wp2_with fail
   refine (HI.out _ hb1).mono ?_
   rintro e w1' ⟨rfl, hw⟩
   obtain rfl := hw.symm
   go_wp2_with fail
   exact bodyPost_ret (v := .tuple #[.slice none 0 0, .slice none 0 0, .bool false]) (by simp [results, Tryz.results63, go_sem]) rfl (.inl ⟨HQ.out, rfl, hb1⟩)
  ·have hq : eqB l = true := by rw [HE.out, hr, hi]; rfl
   rw [hr] at HR
   rw [hi] at HI
   have HQ : Hid (eqB l = true) := hq
   obtain ⟨x, y, hxy⟩ := HT.out hq
   have HXY : Hid (argsL l = [x, y]) := hxy
   clear hq hr hi
   go_enter Tryz.func63, Tryz.ntmps63
   go_wp2_with fail
   refine HR.out.mono ?_
   rintro e w1 ⟨rfl, hb1⟩
   clear HR
   go_wp2_with fail
   refine (HI.out _ hb1).mono ?_
   rintro e w1' ⟨rfl, hw⟩
   obtain rfl := hw.symm
   have HB1 : Hid (Below w.heap.size w w1) := hb1
   go_wp2_with fail
   refine (HA.out _ hb1).mono ?_
   rintro e w2 ⟨u, rfl, hO, hb2⟩
   have HB2 : Hid (Below w.heap.size w w2) := HB1.out.trans (hb2.mono HB1.out.size)
   rw [hxy] at hO
   obtain ⟨g, o, cp, a, b, huf, ca, cb, hOa, hOb⟩ := two_row hO
   have HO : Hid (TermAt w2 a x ∧ TermAt w2 b y) := ⟨hOa, hOb⟩
   obtain ⟨aa, ac, haf⟩ := hOa.form
   obtain ⟨ba, bc, hbf⟩ := hOb.form
   clear hO hOa hOb hxy hb1 hb2 HA HI
   generalize x.length = n1 at *
   generalize y.length = n2 at *
   subst huf haf hbf
   go_wp2_with fail
   go_quiet (fail)
   have HF : Hid (TermAt (w2.drewN nq) (.slice aa n1 ac) x ∧ TermAt (w2.drewN nq) (.slice ba n2 bc) y ∧ Below w.heap.size w (w2.drewN nq)) := ⟨HO.out.1.below (dN_b _ _), HO.out.2.below (dN_b _ _), HB2.out.trans ((dN_b _ _).mono HB2.out.size)⟩
   go_wp2_with fail
   exact bodyPost_ret (v := .tuple #[.slice aa n1 ac, .slice ba n2 bc, .bool true]) (by simp [results, Tryz.results63, go_sem]) rfl (.inr ⟨HQ.out, _, _, x, y, HXY.out, rfl, HF.out.1, HF.out.2.1, HF.out.2.2⟩)
end Go.Proofs.YtljggjllijacjaaGreatDoor
