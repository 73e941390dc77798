/- Contract of Bind. -/
import Derived.Test.YtljggjllijacjaaGreatDoorHAg
import Derived.Test.YtljggjllijacjaaGreatDoorHP2g
import Derived.Test.YtljggjllijacjaaGreatDoorV2g
import Derived.Test.YtljggjllijacjaaGreatDoorWCg
namespace Go.Proofs.YtljggjllijacjaaGreatDoor
open Go.RowKit
attribute [local go_sem ↓] Go.wp_at_zero Go.wp_at_succ
theorem less_names (a b : Nm) : decide (namesS a.1 a.2 b.1 b.2 < 0) = lessN a b := by
 unfold namesS orI cmpI lessN
 rcases Int.lt_trichotomy a.1 b.1 with h | h | h
 ·simp [h]
 ·rcases Int.lt_trichotomy a.2 b.2 with k | k | k
  ·simp [h, k]
  ·simp [h, k]
  ·have k' : ¬ a.2 < b.2 := by omega
   simp [h, k, k']
 ·have h' : ¬ a.1 < b.1 := by omega
  have h'' : a.1 ≠ b.1 := by omega
  simp [h, h', h'']
/-- What Bind answers. -/
def bindE (m : Hp) (x : Nm) (l : List C) : Int :=
 if x.1 < 0 ∨ oneT ⟨4, ⟨#[]⟩, 0, x.1, x.2⟩ = [] ∨ globalB l = false then 6 else if (lookH m x).isSome then 70 else if isVarL l = true ∧ lessN (varL l) x = false then 71 else 0
def bindH (m : Hp) (x : Nm) (l : List C) : Hp := if bindE m x l = 0 then insH x l m else m
/-- All blocks but one stay. -/
def KeepsBut (M : Nat) (w w' : World) : Prop := w'.os = w.os ∧ w'.tape = w.tape ∧ w'.output = w.output ∧ w.heap.size ≤ w'.heap.size ∧ ∀ k, k < w.heap.size → k ≠ M → w'.heap[k]? = w.heap[k]?
theorem KeepsBut.of_below {M : Nat} {w w' : World} (h : Below w.heap.size w w') : KeepsBut M w w' := ⟨h.os, h.tape, h.output, h.size, fun k hk _ => h.block k hk⟩
theorem KeepsBut.below {M B : Nat} {w w' : World} (h : KeepsBut M w w') (hB : B ≤ M) (hs : B ≤ w.heap.size) : Below B w w' := ⟨h.1, h.2.1, h.2.2.1, h.2.2.2.1, fun k hk => h.2.2.2.2 k (by omega) (by omega)⟩
theorem keeps_put {M : Nat} {w w7 w8 : World} (h : Below w.heap.size w w7) (ht : w7.mapTurned w8 M) : KeepsBut M w w8 := by
 have hg := ht.grown
 exact ⟨hg.os.trans h.os, hg.tape.trans h.tape, hg.output.trans h.output, Nat.le_trans h.size hg.size, fun k hk hne => (hg.block k (Nat.lt_of_lt_of_le hk h.size) (by simpa using hne)).trans (h.block k hk)⟩
theorem TermAt.turned {w w' : World} {v : Value} {l : List C} {M : Nat} (h : TermAt w v l) (ht : w.mapTurned w' M) : TermAt w' v l := by
 obtain ⟨h0, h⟩ := h
 refine ⟨h0, ?_⟩
 rcases h with h | ⟨b, o, cap, h1, h2, h3, h4, h5⟩
 ·exact .inl h
 ·have hg := ht.grown
  obtain ⟨es, ck, es', ck', hb, _⟩ := ht
  cases hl : l with
  | nil =>
   rw [hl] at h1 h2
   refine .inr ⟨b, o, cap, h1, h2, h3, fun j u hu => ?_, Nat.lt_of_lt_of_le h5 hg.size⟩
   simp [flat] at hu
  | cons c r =>
   rw [← hl]
   have hbM : b ≠ M := by
    intro e
    have h6 := h4 0 (.int .u8 c.k) (by rw [hl]; simp [flat, C.vals])
    rw [e] at h6
    simp [World.cell?, hb] at h6
   exact .inr ⟨b, o, cap, h1, h2, h3, fun j u hu => by
    rw [World.cell?_of_block (a := ⟨b, o + j, none⟩) (hg.block b h5 (by simpa using hbM))]
    exact h4 j u hu, Nat.lt_of_lt_of_le h5 hg.size⟩
theorem HpAt.put {w w' : World} {hb M n : Nat} {D : DataW Value} {m : Hp} {x : Nm} {l : List C} {u : Value} (h : HpAt w hb M n D m) (hx : wfN x) (h0 : lookH m x = none) (hT : TermAt w u l) (hW : ∀ c ∈ l, wfN (c.vn, c.vk)) (hv : isVarL l = true → lessN (varL l) x = true) (hm : w'.ownsMap Tryz.prog 32 heldElem M (n + 1) (D.put (kLit x) (.held u))) (ht : w.mapTurned w' M) : HpAt w' hb M (n + 1) (D.put (kLit x) (.held u)) (insH x l m) := by
 have hne : hb ≠ M := by
  intro e
  have h1 := h.blk
  obtain ⟨es, ck, h2, _⟩ := h.map
  rw [e, h2] at h1
  cases h1
 have hisM : Maps.IsMap D := h.map.isMap
 have hkl : WideAt.IsKeyLit (kLit x) := keyed23.key (key23 x hx)
 refine ⟨(ht.grown.block hb (Array.getElem?_eq_some_iff.1 h.blk).1 (by simpa using hne)).trans h.blk, hm, ?_, ?_, desc_ins h.desc h0 hv, ?_⟩
 ·intro y hy hn
  rw [look_ins m x y l h0] at hn
  split at hn
  ·cases hn
  ·next e =>
   have hk : kLit y ≠ kLit x := fun e' => e (kLit_inj hy hx e').symm
   rw [Maps.has_put_other hk]
   exact h.no y hy hn
 ·intro y l' hy hs
  rw [look_ins m x y l h0] at hs
  split at hs
  ·next e =>
   cases hs
   subst e
   exact ⟨u, fun z => Maps.atKey_put_same hisM hkl _ _, hT.turned ht⟩
  ·next e =>
   have hk : kLit y ≠ kLit x := fun e' => e (kLit_inj hy hx e').symm
   obtain ⟨v, h1, h2⟩ := h.yes y l' hy hs
   exact ⟨v, fun z => by rw [Maps.atKey_put_other hk]; exact h1 z, h2.turned ht⟩
 ·intro y l' hs
  rw [look_ins m x y l h0] at hs
  split at hs
  ·next e =>
   cases hs
   subst e
   exact ⟨hx, hW⟩
  ·exact h.wf y l' hs
abbrev BdS (w2 : World) (hb M bx tb tof : Nat) (x1 x2 y1 y2 : Int) (f : Bool) (w' : World) : Prop :=
 w'.cell? ⟨hb, 0, none⟩ = some (.map (some M)) ∧ w'.cell? ⟨bx, 0, none⟩ = some (.int .i64 x1) ∧ w'.cell? ⟨bx, 1, none⟩ = some (.int .i64 x2) ∧ (f = true → w'.cell? ⟨tb, tof, none⟩ = some (.int .i64 y1)) ∧ (f = true → w'.cell? ⟨tb, tof + 1, none⟩ = some (.int .i64 y2)) ∧ Hid (Below w2.heap.size w2 w' ∧ hb < w2.heap.size ∧ bx < w2.heap.size ∧ (f = true → tb < w2.heap.size))
theorem bdS_hb {w2 : World} {hb M bx tb tof : Nat} {x1 x2 y1 y2 : Int} {f : Bool} {w' : World} (h : BdS w2 hb M bx tb tof x1 x2 y1 y2 f w') : Below w2.heap.size w2 w' := h.2.2.2.2.2.out.1
theorem bdS_to {w2 : World} {hb M bx tb tof : Nat} {x1 x2 y1 y2 : Int} {f : Bool} {w' w'' : World} (h : BdS w2 hb M bx tb tof x1 x2 y1 y2 f w') (hb' : Below w2.heap.size w2 w'') : BdS w2 hb M bx tb tof x1 x2 y1 y2 f w'' := by
 obtain ⟨h1, h2, h3, h4, h5, h6⟩ := h
 have h9 := h6.out
 have t : ∀ q j u, q < w2.heap.size → w'.cell? ⟨q, j, none⟩ = some u → w''.cell? ⟨q, j, none⟩ = some u := fun q j u hq hu =>
  (hb'.cell (p := ⟨q, j, none⟩) hq).trans ((h9.1.cell (p := ⟨q, j, none⟩) hq).symm.trans hu)
 exact ⟨t _ _ _ h9.2.1 h1, t _ _ _ h9.2.2.1 h2, t _ _ _ h9.2.2.1 h3, fun e => t _ _ _ (h9.2.2.2 e) (h4 e), fun e => t _ _ _ (h9.2.2.2 e) (h5 e), hb', h9.2⟩
theorem bdS_below {w2 : World} {hb M bx tb tof : Nat} {x1 x2 y1 y2 : Int} {f : Bool} {w' w'' : World} (h : BdS w2 hb M bx tb tof x1 x2 y1 y2 f w') (hw : Below w'.heap.size w' w'') : BdS w2 hb M bx tb tof x1 x2 y1 y2 f w'' := bdS_to h ((bdS_hb h).trans (hw.mono (bdS_hb h).size))
theorem bdS_drew {w2 : World} {hb M bx tb tof : Nat} {x1 x2 y1 y2 : Int} {f : Bool} {w' : World} (h : BdS w2 hb M bx tb tof x1 x2 y1 y2 f w') : BdS w2 hb M bx tb tof x1 x2 y1 y2 f w'.drew := bdS_to h (bdS_hb h).drew
/-- The blocks of the values. -/
def VB (D : DataW Value) (V : Nat → Prop) : Prop := ∀ x v, wfN x → (∀ z, D.atKey (kLit x) z = .held v) → ∀ g, v.ownBlock = some g → V g
theorem vb_put {D : DataW Value} {V : Nat → Prop} {x : Nm} {u : Value} {B : Nat} (hM : Maps.IsMap D) (hx : wfN x) (hV : VB D V) (hu : ∀ g, u.ownBlock = some g → B ≤ g) : VB (D.put (kLit x) (.held u)) (fun g => V g ∨ B ≤ g) := by
 intro y v hy h g hg
 by_cases e : y = x
 ·subst e
  have h1 := h (.held (.bool true))
  rw [Maps.atKey_put_same hM (keyed23.key (key23 y hy))] at h1
  cases h1
  exact .inr (hu g hg)
 ·have hk : kLit y ≠ kLit x := fun e' => e (kLit_inj hy hx e')
  exact .inl (hV y v hy (fun z => by have := h z; rw [Maps.atKey_put_other hk] at this; exact this) g hg)
/-- How the heap stands behind Bind. -/
def BindPost (m : Hp) (x : Nm) (l : List C) (hb M n : Nat) (D : DataW Value) (w w' : World) : Prop := ∃ n' D', HpAt w' hb M n' D' (bindH m x l) ∧ n' ≤ n + 1 ∧ KeepsBut M w w' ∧ ∀ V, VB D V → VB D' (fun g => V g ∨ w.heap.size ≤ g)
abbrev PtS (hb M bx : Nat) (x1 x2 : Int) (w' : World) : Prop :=
 w'.cell? ⟨hb, 0, none⟩ = some (.map (some M)) ∧ w'.cell? ⟨bx, 0, none⟩ = some (.int .i64 x1) ∧ w'.cell? ⟨bx, 1, none⟩ = some (.int .i64 x2)
theorem ptS_to {hb M bx : Nat} {x1 x2 : Int} {w' w'' : World} (h : PtS hb M bx x1 x2 w') (hw : Below w'.heap.size w' w'') (h1 : hb < w'.heap.size) (h2 : bx < w'.heap.size) : PtS hb M bx x1 x2 w'' :=
 ⟨(hw.cell (p := ⟨hb, 0, none⟩) h1).trans h.1, (hw.cell (p := ⟨bx, 0, none⟩) h2).trans h.2.1, (hw.cell (p := ⟨bx, 1, none⟩) h2).trans h.2.2⟩
theorem ptS_turn {hb M bx : Nat} {x1 x2 : Int} {w' w'' : World} (h : PtS hb M bx x1 x2 w') (hw : w'.mapTurned w'' M) (h1 : hb < w'.heap.size) (h2 : bx < w'.heap.size) (h3 : hb ≠ M) (h4 : bx ≠ M) : PtS hb M bx x1 x2 w'' := by
 have hg := hw.grown
 exact ⟨(World.cell?_of_block (a := ⟨hb, 0, none⟩) (hg.block hb h1 (by simpa using h3))).trans h.1, (World.cell?_of_block (a := ⟨bx, 0, none⟩) (hg.block bx h2 (by simpa using h4))).trans h.2.1, (World.cell?_of_block (a := ⟨bx, 1, none⟩) (hg.block bx h2 (by simpa using h4))).trans h.2.2⟩
set_option maxRecDepth 100000 in
set_option maxHeartbeats 8000000 in
theorem h11 (m : Hp) (hb M n : Nat) (D : DataW Value) (x : Nm) (l : List C) (v : Value) (w : World) (hH : HpAt w hb M n D m) (hx : wfN x) (hT : TermAt w v l) (hWl : ∀ c ∈ l, wfN (c.vn, c.vk)) (hS : Signs w) (hby : l.length * 48 ≤ 140737488355328) (hn : n < maxLen) :
  Calls Tryz.prog 27 #[.pointer (some ⟨hb, 0, none⟩), .agg #[.int .i64 x.1, .int .i64 x.2], v] w fun e w' => e = .returned (.int .i64 (bindE m x l)) ∧ BindPost m x l hb M n D w w' := by
 have HH : Hid (HpAt w hb M n D m) := hH
 have HT : Hid (TermAt w v l) := hT
 have HX : Hid (wfN x) := hx
 have HWl : Hid (∀ c ∈ l, wfN (c.vn, c.vk)) := hWl
 have HS : Hid (Signs w) := hS
 have hhb : hb < w.heap.size := (Array.getElem?_eq_some_iff.1 hH.blk).1
 have hMs : M < w.heap.size := hH.map.lt
 have hbM : hb ≠ M := by
  intro e
  have h1 := hH.blk
  obtain ⟨es, ck, h2, _⟩ := hH.map
  rw [e, h2] at h1
  cases h1
 have hbxM : w.heap.size ≠ M := by omega
 have HBE : Hid (bindE m x l = if x.1 < 0 ∨ oneT ⟨4, ⟨#[]⟩, 0, x.1, x.2⟩ = [] ∨ globalB l = false then 6 else if (lookH m x).isSome then 70 else if isVarL l = true ∧ lessN (varL l) x = false then 71 else 0) := rfl
 have HNo : Hid (∀ W, Below w.heap.size w W → bindE m x l ≠ 0 → BindPost m x l hb M n D w W) := fun W hW he => by
  refine ⟨n, D, ?_, by omega, KeepsBut.of_below hW, fun V hV x v hx h g hg => .inl (hV x v hx h g hg)⟩
  unfold bindH
  rw [if_neg he]
  exact hH.below hW
 have HYes : Hid (bindE m x l = 0 → bindH m x l = insH x l m) := fun he => by unfold bindH; rw [if_pos he]
 have H27 : Hid (∀ W, Below w.heap.size w W → Calls Tryz.prog 65 #[.agg #[.int .i64 x.1, .int .i64 x.2]] W fun e w' => ∃ v, e = .returned v ∧ TermAt w' v (oneT ⟨4, ⟨#[]⟩, 0, x.1, x.2⟩) ∧ Below W.heap.size W w') := fun W hW => c18 x.1 x.2 W (hS.below hW)
 have H28 : Hid (∀ W, Below w.heap.size w W → Calls Tryz.prog 37 #[v] W fun e w' => e = .returned (.bool (globalB l)) ∧ Below W.heap.size W w') := fun W hW => c36 l v W (hT.below hW) (hS.below hW)
 have H21 : Hid (∀ W, Below w.heap.size w W → Calls Tryz.prog 66 #[.pointer (some ⟨hb, 0, none⟩), .agg #[.int .i64 x.1, .int .i64 x.2]] W fun e w' => e = .returned (.bool (lookH m x).isSome) ∧ Below W.heap.size W w') := fun W hW => h21 m hb M n D x W (hH.below hW) hx
 have H29 : Hid (∀ W, Below w.heap.size w W → Calls Tryz.prog 67 #[v] W fun e w' => e = .returned (.bool (isVarL l)) ∧ w' = W) := fun W hW => h29 l v W (hT.below hW)
 have H22 : Hid (∀ W, Below w.heap.size w W → Calls Tryz.prog 56 #[v] W fun e w' => ∃ u, e = .returned u ∧ TermAt w' u l ∧ (∀ g, u.ownBlock = some g → W.heap.size ≤ g) ∧ Below W.heap.size W w') := fun W hW => (h22 l v W (hT.below hW) hby).mono fun e w' ⟨u, h1, h2, h3, h4, _⟩ => ⟨u, h1, h2, h3, h4⟩
 obtain ⟨x1, x2⟩ := x
 have HB1 : Hid (Below w.heap.size w (w.alloc (.cells #[.int .i64 x1, .int .i64 x2] 32))) := (Below.refl _ w).alloc (Nat.le_refl _) _
 have HBx : Hid (∀ W, Below (w.heap.size + 1) (w.alloc (.cells #[.int .i64 x1, .int .i64 x2] 32)) W → W.cell? ⟨w.heap.size, 0, none⟩ = some (.int .i64 x1) ∧ W.cell? ⟨w.heap.size, 1, none⟩ = some (.int .i64 x2)) := fun W hW => by
  have e1 : W.heap[w.heap.size]? = some (.cells #[.int .i64 x1, .int .i64 x2] 32 (0, 0)) := (hW.block w.heap.size (by omega)).trans (heap_alloc_new w _)
  constructor
  ·rw [cell_of_row W _ 0 _ 32 (0, 0) e1]; rfl
  ·rw [cell_of_row W _ 1 _ 32 (0, 0) e1]; rfl
 have HCh : Hid (∀ W, Below w.heap.size w W → W.cell? ⟨hb, 0, none⟩ = some (.map (some M))) := fun W hW => (hH.below hW).cell
 obtain ⟨x0a, x0b⟩ := HBx.out _ (Below.refl _ _)
 obtain ⟨av, cv, hvf⟩ := hT.form
 subst hvf
 have HVar : Hid (isVarL l = true → ∃ tb tof, av = some ⟨tb, tof, none⟩ ∧ tb < w.heap.size ∧ l.length = 1 ∧ w.cell? ⟨tb, tof + 3, none⟩ = some (.int .i64 (varL l).1) ∧ w.cell? ⟨tb, tof + 3 + 1, none⟩ = some (.int .i64 (varL l).2)) := fun h => by
  match l, h with
  | [c], h =>
   obtain ⟨_, hT'⟩ := hT
   rcases hT' with ⟨e, _⟩ | ⟨b, o, cap, e, h2, h5, h3, h4⟩
   ·cases e
   ·simp only [Value.slice.injEq] at e
    obtain ⟨_, _, _, p3, p4⟩ := term_cells h3 0 (by simp)
    simp only [Nat.zero_mul, Nat.add_zero, List.getElem_cons_zero] at p3 p4
    exact ⟨b, o, e.1, h4, rfl, p3, p4⟩
 clear hH hT hx hWl hS
 by_cases hneg : x1 < 0
 ·have HE : Hid (bindE m (x1, x2) l = 6) := by show bindE m (x1, x2) l = 6; rw [HBE.out, if_pos (.inl hneg)]
  have HF := HNo.out _ HB1.out (by rw [HE.out]; decide)
  have HF : Hid (BindPost m (x1, x2) l hb M n D w (w.alloc (.cells #[.int .i64 x1, .int .i64 x2] 32))) := HF
  rw [HE.out]
  go_enter Tryz.func27, Tryz.ntmps27
  go_wp2_with fail
  go_ret
  exact ⟨rfl, HF.out⟩
 ·cases hR : rightB [⟨4, ⟨#[]⟩, 0, x1, x2⟩]
  ·have ho : oneT ⟨4, ⟨#[]⟩, 0, x1, x2⟩ = [] := by unfold oneT; rw [hR]; rfl
   have HE : Hid (bindE m (x1, x2) l = 6) := by show bindE m (x1, x2) l = 6; rw [HBE.out, if_pos (.inr (.inl ho))]
   simp only [ho] at H27
   rw [HE.out]
   clear hR ho
   go_enter Tryz.func27, Tryz.ntmps27
   go_wp2_with fail
   refine (H27.out _ HB1.out).mono ?_
   rintro e w2 ⟨v2, rfl, hT2, hb2⟩
   obtain ⟨a2, c2, hf2⟩ := hT2.form
   simp only [List.length_nil] at hf2
   subst hf2
   have HB2 : Hid (Below w.heap.size w w2) := HB1.out.trans (hb2.mono HB1.out.size)
   clear hT2
   go_wp2_with fail
   go_ret
   exact ⟨rfl, HNo.out w2 HB2.out (by rw [HE.out]; decide)⟩
  ·have ho : oneT ⟨4, ⟨#[]⟩, 0, x1, x2⟩ = [⟨4, ⟨#[]⟩, 0, x1, x2⟩] := by unfold oneT; rw [hR]; rfl
   have HO : Hid (oneT ⟨4, ⟨#[]⟩, 0, x1, x2⟩ ≠ []) := by show _ ≠ _; rw [ho]; simp
   have hneg' : Hid (¬ x1 < 0) := hneg
   simp only [ho] at H27
   clear hR ho
   cases hG : globalB l
   ·have HE : Hid (bindE m (x1, x2) l = 6) := by show bindE m (x1, x2) l = 6; rw [HBE.out, if_pos (.inr (.inr hG))]
    simp only [hG] at H28
    rw [HE.out]
    clear hG
    go_enter Tryz.func27, Tryz.ntmps27
    go_wp2_with fail
    refine (H27.out _ HB1.out).mono ?_
    rintro e w2 ⟨v2, rfl, hT2, hb2⟩
    obtain ⟨a2, c2, hf2⟩ := hT2.form
    simp only [List.length_singleton] at hf2
    subst hf2
    have HB2 : Hid (Below w.heap.size w w2) := HB1.out.trans (hb2.mono HB1.out.size)
    clear hT2
    go_wp2_with fail
    refine (H28.out _ HB2.out).mono ?_
    rintro e w3 ⟨rfl, hb3⟩
    have HB3 : Hid (Below w.heap.size w w3) := HB2.out.trans (hb3.mono HB2.out.size)
    go_wp2_with fail
    go_ret
    exact ⟨rfl, HNo.out w3 HB3.out (by rw [HE.out]; decide)⟩
   ·have HBE1 : Hid (bindE m (x1, x2) l = if (lookH m (x1, x2)).isSome then 70 else if isVarL l = true ∧ lessN (varL l) (x1, x2) = false then 71 else 0) := by
     show bindE m (x1, x2) l = _
     rw [HBE.out, if_neg]
     rintro (h | h | h)
     ·exact hneg'.out h
     ·exact HO.out h
     ·rw [hG] at h; cases h
    simp only [hG] at H28
    clear hG HBE HO
    have H30 : Hid (∀ W, Calls Tryz.prog 41 #[.agg #[.int .i64 (varL l).1, .int .i64 (varL l).2], .agg #[.int .i64 x1, .int .i64 x2]] W fun e w' => e = .returned (.bool (lessN (varL l) (x1, x2))) ∧ Below W.heap.size W w') := fun W => by
     have := h30 (varL l).1 (varL l).2 x1 x2 W
     rw [less_names (varL l) (x1, x2)] at this
     exact this
    cases hL : lookH m (x1, x2) with
    | some l0 =>
     have HE : Hid (bindE m (x1, x2) l = 70) := by show bindE m (x1, x2) l = 70; rw [HBE1.out, hL]; rfl
     simp only [hL, Option.isSome_some] at H21
     rw [HE.out]
     clear hL HBE1
     go_enter Tryz.func27, Tryz.ntmps27
     go_wp2_with fail
     refine (H27.out _ HB1.out).mono ?_
     rintro e w2 ⟨v2, rfl, hT2, hb2⟩
     obtain ⟨a2, c2, hf2⟩ := hT2.form
     simp only [List.length_singleton] at hf2
     subst hf2
     have HB2 : Hid (Below w.heap.size w w2) := HB1.out.trans (hb2.mono HB1.out.size)
     have hw2 : Below (w.heap.size + 1) (w.alloc (.cells #[.int .i64 x1, .int .i64 x2] 32)) w2 := by simpa using hb2
     clear hT2 hb2
     go_wp2_with fail
     refine (H28.out _ HB2.out).mono ?_
     rintro e w3 ⟨rfl, hb3⟩
     have HB3 : Hid (Below w.heap.size w w3) := HB2.out.trans (hb3.mono HB2.out.size)
     obtain ⟨y0a, y0b⟩ := HBx.out w3 (hw2.trans (hb3.mono (by have := hw2.size; simp at this; omega)))
     go_wp2_with fail
     refine (H21.out _ HB3.out).mono ?_
     rintro e w4 ⟨rfl, hb4⟩
     have HB4 : Hid (Below w.heap.size w w4) := HB3.out.trans (hb4.mono HB3.out.size)
     go_wp2_with fail
     go_ret
     exact ⟨rfl, HNo.out w4 HB4.out (by rw [HE.out]; decide)⟩
    | none =>
     have HL0 : Hid (lookH m (x1, x2) = none) := hL
     have HBE2 : Hid (bindE m (x1, x2) l = if isVarL l = true ∧ lessN (varL l) (x1, x2) = false then 71 else 0) := by show bindE m (x1, x2) l = _; rw [HBE1.out, hL]; rfl
     simp only [hL, Option.isSome_none] at H21
     clear hL HBE1
     cases hv : isVarL l
     ·have HE : Hid (bindE m (x1, x2) l = 0) := by show bindE m (x1, x2) l = 0; rw [HBE2.out, hv]; rfl
      have HVs : Hid (isVarL l = true → lessN (varL l) (x1, x2) = true) := fun e => by rw [hv] at e; cases e
      simp only [hv] at H29
      rw [HE.out]
      clear hv HBE2 HVar H30
      go_enter Tryz.func27, Tryz.ntmps27
      go_wp2_with fail
      refine (H27.out _ HB1.out).mono ?_
      rintro e w2 ⟨v2, rfl, hT2, hb2⟩
      obtain ⟨a2, c2, hf2⟩ := hT2.form
      simp only [List.length_singleton] at hf2
      subst hf2
      have HB2 : Hid (Below w.heap.size w w2) := HB1.out.trans (hb2.mono HB1.out.size)
      have hw2 : Below (w.heap.size + 1) (w.alloc (.cells #[.int .i64 x1, .int .i64 x2] 32)) w2 := by simpa using hb2
      clear hT2 hb2 x0a x0b
      go_wp2_with fail
      refine (H28.out _ HB2.out).mono ?_
      rintro e w3 ⟨rfl, hb3⟩
      have HB3 : Hid (Below w.heap.size w w3) := HB2.out.trans (hb3.mono HB2.out.size)
      have hs2 : w.heap.size + 1 ≤ w2.heap.size := by have := hw2.size; simp at this; omega
      have hw3 := hw2.trans (hb3.mono hs2)
      have hs3 : w.heap.size + 1 ≤ w3.heap.size := Nat.le_trans hs2 hb3.size
      obtain ⟨y0a, y0b⟩ := HBx.out w3 hw3
      go_wp2_with fail
      refine (H21.out _ HB3.out).mono ?_
      rintro e w4 ⟨rfl, hb4⟩
      have HB4 : Hid (Below w.heap.size w w4) := HB3.out.trans (hb4.mono HB3.out.size)
      have hw4 := hw3.trans (hb4.mono hs3)
      have hbx4 : w.heap.size < w4.heap.size := by have := hb4.size; omega
      obtain ⟨z0a, z0b⟩ := HBx.out w4 hw4
      clear y0a y0b hb3 hb4 hw2 hw3 hw4
      have hS4 : BdS w4 hb M w.heap.size 0 0 x1 x2 0 0 false w4 := ⟨HCh.out w4 HB4.out, z0a, z0b, (fun e => by cases e), (fun e => by cases e), Below.refl _ _, Nat.lt_of_lt_of_le hhb HB4.out.size, hbx4, (fun e => by cases e)⟩
      go_wp2_with fail
      refine wp_region_noPanic ?_
      refine wp_region_held_drew (S := fun w' => BdS w4 hb M w.heap.size 0 0 x1 x2 0 0 false w') (by kernel_rfl) (bdS_drew hS4) (fun hHeld => ?_)
      refine wpAnyH_take (i := 0) (v := ?_) (by simp only [List.getElem?_toArray, List.getElem?_cons_zero]; rfl) (by kernel_rfl) (by kernel_rfl) (by kernel_rfl) (fun _ _ _ h => h) (Or.inl ⟨by rfl, ?_⟩) (by assumption) ?_
      rotate_left
      ·(intro w hSw; (try dsimp only at hSw); go_simp <;> with_reducible rfl)
      try simp only [Act.put, List.setIfInBounds_toArray, List.set_cons_zero, List.set_cons_succ]
      refine wpAnyH_ready (rs := [1]) (by kernel_rfl) (by simp) ?_
      refine AllReadyH.cons (by simp only [List.getElem?_toArray, List.getElem?_cons_zero, List.getElem?_cons_succ]; rfl) (fun K hK => ?_) AllReadyH.nil
      go_simp
      go_at_call 67
      refine (H29.out _ (HB4.out.trans ((bdS_hb (w2 := w4) (by assumption)).mono HB4.out.size))).mono ?_
      rintro e w5 ⟨rfl, hw5⟩
      obtain rfl := hw5
      refine hK.out _ _ ?_ (fun hHeld => ?_)
      ·exact (by assumption)
      clear hK K
      try simp only [Act.put, List.setIfInBounds_toArray, List.set_cons_zero, List.set_cons_succ]
      refine wpAnyH_take (i := 2) (v := ?_) (by simp only [List.getElem?_toArray, List.getElem?_cons_zero, List.getElem?_cons_succ]; rfl) (by kernel_rfl) (by kernel_rfl) (by kernel_rfl) (fun _ _ _ h => h) (Or.inl ⟨by rfl, ?_⟩) (by assumption) ?_
      rotate_left
      ·(intro w hSw; (try dsimp only at hSw); go_simp <;> with_reducible rfl)
      try simp only [Act.put, List.setIfInBounds_toArray, List.set_cons_zero, List.set_cons_succ]
      refine wpAnyH_take (i := 3) (v := undef) (by simp only [List.getElem?_toArray, List.getElem?_cons_zero, List.getElem?_cons_succ]; rfl) (by kernel_rfl) (by kernel_rfl) (by kernel_rfl) (fun _ _ _ h => h) (Or.inr ⟨by rfl, rfl⟩) (by assumption) ?_
      try simp only [Act.put, List.setIfInBounds_toArray, List.set_cons_zero, List.set_cons_succ]
      refine wpAnyH_take (i := 4) (v := undef) (by simp only [List.getElem?_toArray, List.getElem?_cons_zero, List.getElem?_cons_succ]; rfl) (by kernel_rfl) (by kernel_rfl) (by kernel_rfl) (fun _ _ _ h => h) (Or.inr ⟨by rfl, rfl⟩) (by assumption) ?_
      try simp only [Act.put, List.setIfInBounds_toArray, List.set_cons_zero, List.set_cons_succ]
      refine wpAnyH_take (i := 5) (v := undef) (by simp only [List.getElem?_toArray, List.getElem?_cons_zero, List.getElem?_cons_succ]; rfl) (by kernel_rfl) (by kernel_rfl) (by kernel_rfl) (fun _ _ _ h => h) (Or.inr ⟨by rfl, rfl⟩) (by assumption) ?_
      try simp only [Act.put, List.setIfInBounds_toArray, List.set_cons_zero, List.set_cons_succ]
      refine wpAnyH_take (i := 6) (v := undef) (by simp only [List.getElem?_toArray, List.getElem?_cons_zero, List.getElem?_cons_succ]; rfl) (by kernel_rfl) (by kernel_rfl) (by kernel_rfl) (fun _ _ _ h => h) (Or.inr ⟨by rfl, rfl⟩) (by assumption) ?_
      try simp only [Act.put, List.setIfInBounds_toArray, List.set_cons_zero, List.set_cons_succ]
      refine wpAnyH_take (i := 7) (v := undef) (by simp only [List.getElem?_toArray, List.getElem?_cons_zero, List.getElem?_cons_succ]; rfl) (by kernel_rfl) (by kernel_rfl) (by kernel_rfl) (fun _ _ _ h => h) (Or.inr ⟨by rfl, rfl⟩) (by assumption) ?_
      try simp only [Act.put, List.setIfInBounds_toArray, List.set_cons_zero, List.set_cons_succ]
      refine wpAnyH_take (i := 8) (v := undef) (by simp only [List.getElem?_toArray, List.getElem?_cons_zero, List.getElem?_cons_succ]; rfl) (by kernel_rfl) (by kernel_rfl) (by kernel_rfl) (fun _ _ _ h => h) (Or.inr ⟨by rfl, rfl⟩) (by assumption) ?_
      try simp only [Act.put, List.setIfInBounds_toArray, List.set_cons_zero, List.set_cons_succ]
      refine wpAnyH_take (i := 9) (v := undef) (by simp only [List.getElem?_toArray, List.getElem?_cons_zero, List.getElem?_cons_succ]; rfl) (by kernel_rfl) (by kernel_rfl) (by kernel_rfl) (fun _ _ _ h => h) (Or.inr ⟨by rfl, rfl⟩) (by assumption) ?_
      try simp only [Act.put, List.setIfInBounds_toArray, List.set_cons_zero, List.set_cons_succ]
      refine wpAnyH_take (i := 10) (v := ?_) (by simp only [List.getElem?_toArray, List.getElem?_cons_zero, List.getElem?_cons_succ]; rfl) (by kernel_rfl) (by kernel_rfl) (by kernel_rfl) (fun _ _ _ h => h) (Or.inl ⟨by rfl, ?_⟩) (by assumption) ?_
      rotate_left
      ·(intro w hSw; (try dsimp only at hSw); go_simp <;> with_reducible rfl)
      try simp only [Act.put, List.setIfInBounds_toArray, List.set_cons_zero, List.set_cons_succ]
      refine wpAnyH_take (i := 11) (v := ?_) (by simp only [List.getElem?_toArray, List.getElem?_cons_zero, List.getElem?_cons_succ]; rfl) (by kernel_rfl) (by kernel_rfl) (by kernel_rfl) (fun _ _ _ h => h) (Or.inl ⟨by rfl, ?_⟩) (by assumption) ?_
      rotate_left
      ·(intro w hSw; (try dsimp only at hSw); go_simp <;> with_reducible rfl)
      try simp only [Act.put, List.setIfInBounds_toArray, List.set_cons_zero, List.set_cons_succ]
      refine wpAnyH_done (by kernel_rfl) ?_ _
      refine NoPanic.normal ?_
      have hS5 : PtS hb M w.heap.size x1 x2 w4.drew := (fun h => ⟨h.1, h.2.1, h.2.2.1⟩) (show BdS w4 hb M w.heap.size _ _ x1 x2 _ _ _ w4.drew by assumption)
      have HB5 : Hid (Below w.heap.size w w4.drew) := HB4.out.trans ((bdS_hb (w2 := w4) (by assumption)).mono HB4.out.size)
      have HH5 : Hid (HpAt w4.drew hb M n D m) := HH.out.below HB5.out
      have hh5 : hb < w4.drew.heap.size := Nat.lt_of_lt_of_le hhb HB5.out.size
      have hbx5 : w.heap.size < w4.drew.heap.size := Nat.lt_of_lt_of_le hbx4 (bdS_hb (w2 := w4) (by assumption)).size
      clear hHeld hS4
      go_wp2_with fail
      refine wp_region_noPanic ?_
      refine wp_region_held_drew (S := fun w' => PtS hb M w.heap.size x1 x2 w') (by kernel_rfl) hS5 (fun hHeld => ?_)
      refine wpAnyH_take (i := 0) (v := ?_) (by simp only [List.getElem?_toArray, List.getElem?_cons_zero]; rfl) (by kernel_rfl) (by kernel_rfl) (by kernel_rfl) (fun _ _ _ h => h) (Or.inl ⟨by rfl, ?_⟩) (by assumption) ?_
      rotate_left
      ·(intro w hSw; (try dsimp only at hSw); go_simp <;> with_reducible rfl)
      try simp only [Act.put, List.setIfInBounds_toArray, List.set_cons_zero, List.set_cons_succ]
      refine wpAnyH_take (i := 1) (v := ?_) (by simp only [List.getElem?_toArray, List.getElem?_cons_zero, List.getElem?_cons_succ]; rfl) (by kernel_rfl) (by kernel_rfl) (by kernel_rfl) (fun _ _ _ h => h) (Or.inl ⟨by rfl, ?_⟩) (by assumption) ?_
      rotate_left
      ·(intro w hSw; (try dsimp only at hSw); go_simp <;> with_reducible rfl)
      try simp only [Act.put, List.setIfInBounds_toArray, List.set_cons_zero, List.set_cons_succ]
      refine wpAnyH_take (i := 2) (v := ?_) (by simp only [List.getElem?_toArray, List.getElem?_cons_zero, List.getElem?_cons_succ]; rfl) (by kernel_rfl) (by kernel_rfl) (by kernel_rfl) (fun _ _ _ h => h) (Or.inl ⟨by rfl, ?_⟩) (by assumption) ?_
      rotate_left
      ·(intro w hSw; (try dsimp only at hSw); go_simp <;> with_reducible rfl)
      try simp only [Act.put, List.setIfInBounds_toArray, List.set_cons_zero, List.set_cons_succ]
      refine wpAnyH_take (i := 3) (v := ?_) (by simp only [List.getElem?_toArray, List.getElem?_cons_zero, List.getElem?_cons_succ]; rfl) (by kernel_rfl) (by kernel_rfl) (by kernel_rfl) (fun _ _ _ h => h) (Or.inl ⟨by rfl, ?_⟩) (by assumption) ?_
      rotate_left
      ·(intro w hSw; (try dsimp only at hSw); go_simp <;> with_reducible rfl)
      try simp only [Act.put, List.setIfInBounds_toArray, List.set_cons_zero, List.set_cons_succ]
      refine wpAnyH_take (i := 4) (v := ?_) (by simp only [List.getElem?_toArray, List.getElem?_cons_zero, List.getElem?_cons_succ]; rfl) (by kernel_rfl) (by kernel_rfl) (by kernel_rfl) (fun _ _ _ h => h) (Or.inl ⟨by rfl, ?_⟩) (by assumption) ?_
      rotate_left
      ·(intro w hSw; (try dsimp only at hSw); go_simp <;> with_reducible rfl)
      try simp only [Act.put, List.setIfInBounds_toArray, List.set_cons_zero, List.set_cons_succ]
      refine wpAnyH_take (i := 5) (v := ?_) (by simp only [List.getElem?_toArray, List.getElem?_cons_zero, List.getElem?_cons_succ]; rfl) (by kernel_rfl) (by kernel_rfl) (by kernel_rfl) (fun _ _ _ h => h) (Or.inl ⟨by rfl, ?_⟩) (by assumption) ?_
      rotate_left
      ·(intro w hSw; (try dsimp only at hSw); go_simp <;> with_reducible rfl)
      try simp only [Act.put, List.setIfInBounds_toArray, List.set_cons_zero, List.set_cons_succ]
      refine wpAnyH_ready (rs := [6]) (by kernel_rfl) (by simp) ?_
      refine AllReadyH.cons (by simp only [List.getElem?_toArray, List.getElem?_cons_zero, List.getElem?_cons_succ]; rfl) (fun K hK => ?_) AllReadyH.nil
      go_simp
      go_at_call 56
      refine (H22.out _ HB5.out.drew).mono ?_
      rintro e w7 ⟨u7, rfl, hT7, hfr7, hb7⟩
      have HFR : Hid (∀ g, u7.ownBlock = some g → w.heap.size ≤ g) := fun g hg => Nat.le_trans HB5.out.drew.size (hfr7 g hg)
      clear hfr7
      refine hK.out _ _ ?_ (fun hHeld => ?_)
      ·exact ptS_to (by assumption) hb7 hh5 hbx5
      clear hK K
      try simp only [Act.put, List.setIfInBounds_toArray, List.set_cons_zero, List.set_cons_succ]
      have hB57 : Below w4.drew.heap.size w4.drew w7 := ((Below.refl _ _).drew).trans hb7
      have HH7 : Hid (HpAt w7 hb M n D m) := HH5.out.below hB57
      have HT7 : Hid (TermAt w7 u7 l) := hT7
      obtain ⟨w8, hrun, hmap8, hturn⟩ := HH7.out.map.store keyed23 Tryz.underlying97 hn (key23 (x1, x2) HX.out) (show heldElem u7 = some (.held u7, []) from rfl)
      have HF8 : Hid (BindPost m (x1, x2) l hb M n D w w8) := by
       refine ⟨n + 1, D.put (kLit (x1, x2)) (.held u7), ?_, Nat.le_refl _, keeps_put (HB5.out.trans (hB57.mono HB5.out.size)) hturn, fun V hV => vb_put HH7.out.map.isMap HX.out hV HFR.out⟩
       rw [HYes.out HE.out]
       exact HH7.out.put HX.out HL0.out HT7.out HWl.out HVs.out hmap8 hturn
      have HS8 : Hid (PtS hb M w.heap.size x1 x2 w8) := ptS_turn (by assumption) hturn (Nat.lt_of_lt_of_le hh5 hB57.size) (Nat.lt_of_lt_of_le hbx5 hB57.size) hbM hbxM
      obtain ⟨a7, c7, hf7⟩ := hT7.form
      subst hf7
      clear hT7 hmap8 hturn hb7
      refine wpAnyH_ready (rs := [7]) (by kernel_rfl) (by simp) ?_
      refine AllReadyH.cons (by simp only [List.getElem?_toArray, List.getElem?_cons_zero, List.getElem?_cons_succ]; rfl) (fun K hK => ?_) AllReadyH.nil
      go_simp
      refine hK.out _ _ ?_ (fun hHeld => ?_)
      ·exact HS8.out
      clear hK K
      try simp only [Act.put, List.setIfInBounds_toArray, List.set_cons_zero, List.set_cons_succ]
      refine wpAnyH_done (by kernel_rfl) ?_ _
      refine NoPanic.normal ?_
      clear hHeld
      go_wp2_with fail
      go_ret
      exact ⟨rfl, HF8.out⟩
     ·obtain ⟨tb, tof, rfl, htb, hl1, t3, t4⟩ := HVar.out hv
      have HT3 : Hid (∀ W, Below w.heap.size w W → W.cell? ⟨tb, tof + 3, none⟩ = some (.int .i64 (varL l).1) ∧ W.cell? ⟨tb, tof + 3 + 1, none⟩ = some (.int .i64 (varL l).2)) := fun W hW => ⟨(hW.cell (p := ⟨tb, tof + 3, none⟩) htb).trans t3, (hW.cell (p := ⟨tb, tof + 3 + 1, none⟩) htb).trans t4⟩
      have h0l : (0 : Int) < (l.length : Int) := by omega
      have h0n : 0 < l.length := by omega
      clear t3 t4 HVar hl1
      simp only [hv] at H29
      cases hle : lessN (varL l) (x1, x2)
      ·have HE : Hid (bindE m (x1, x2) l = 71) := by show bindE m (x1, x2) l = 71; rw [HBE2.out, hv, hle]; rfl
       simp only [hle] at H30
       rw [HE.out]
       clear hv hle HBE2
       generalize (varL l).1 = y1 at *
       generalize (varL l).2 = y2 at *
       go_enter Tryz.func27, Tryz.ntmps27
       go_wp2_with fail
       refine (H27.out _ HB1.out).mono ?_
       rintro e w2 ⟨v2, rfl, hT2, hb2⟩
       obtain ⟨a2, c2, hf2⟩ := hT2.form
       simp only [List.length_singleton] at hf2
       subst hf2
       have HB2 : Hid (Below w.heap.size w w2) := HB1.out.trans (hb2.mono HB1.out.size)
       have hw2 : Below (w.heap.size + 1) (w.alloc (.cells #[.int .i64 x1, .int .i64 x2] 32)) w2 := by simpa using hb2
       clear hT2 hb2 x0a x0b
       go_wp2_with fail
       refine (H28.out _ HB2.out).mono ?_
       rintro e w3 ⟨rfl, hb3⟩
       have HB3 : Hid (Below w.heap.size w w3) := HB2.out.trans (hb3.mono HB2.out.size)
       have hs2 : w.heap.size + 1 ≤ w2.heap.size := by have := hw2.size; simp at this; omega
       have hw3 := hw2.trans (hb3.mono hs2)
       have hs3 : w.heap.size + 1 ≤ w3.heap.size := Nat.le_trans hs2 hb3.size
       obtain ⟨y0a, y0b⟩ := HBx.out w3 hw3
       go_wp2_with fail
       refine (H21.out _ HB3.out).mono ?_
       rintro e w4 ⟨rfl, hb4⟩
       have HB4 : Hid (Below w.heap.size w w4) := HB3.out.trans (hb4.mono HB3.out.size)
       have hw4 := hw3.trans (hb4.mono hs3)
       have hbx4 : w.heap.size < w4.heap.size := by have := hb4.size; omega
       obtain ⟨z0a, z0b⟩ := HBx.out w4 hw4
       clear y0a y0b hb3 hb4 hw2 hw3 hw4
       obtain ⟨z3, z4⟩ := HT3.out w4 HB4.out
       have hS4 : BdS w4 hb M w.heap.size tb (tof + 3) x1 x2 y1 y2 true w4 := ⟨HCh.out w4 HB4.out, z0a, z0b, (fun _ => z3), (fun _ => z4), Below.refl _ _, Nat.lt_of_lt_of_le hhb HB4.out.size, hbx4, (fun _ => Nat.lt_of_lt_of_le htb HB4.out.size)⟩
       clear z3 z4
       go_wp2_with fail
       refine wp_region_noPanic ?_
       refine wp_region_held_drew (S := fun w' => BdS w4 hb M w.heap.size tb (tof + 3) x1 x2 y1 y2 true w') (by kernel_rfl) (bdS_drew hS4) (fun hHeld => ?_)
       refine wpAnyH_take (i := 0) (v := ?_) (by simp only [List.getElem?_toArray, List.getElem?_cons_zero]; rfl) (by kernel_rfl) (by kernel_rfl) (by kernel_rfl) (fun _ _ _ h => h) (Or.inl ⟨by rfl, ?_⟩) (by assumption) ?_
       rotate_left
       ·(intro w hSw; (try dsimp only at hSw); go_simp <;> with_reducible rfl)
       try simp only [Act.put, List.setIfInBounds_toArray, List.set_cons_zero, List.set_cons_succ]
       refine wpAnyH_ready (rs := [1]) (by kernel_rfl) (by simp) ?_
       refine AllReadyH.cons (by simp only [List.getElem?_toArray, List.getElem?_cons_zero, List.getElem?_cons_succ]; rfl) (fun K hK => ?_) AllReadyH.nil
       go_simp
       go_at_call 67
       refine (H29.out _ (HB4.out.trans ((bdS_hb (w2 := w4) (by assumption)).mono HB4.out.size))).mono ?_
       rintro e w5 ⟨rfl, hw5⟩
       obtain rfl := hw5
       refine hK.out _ _ ?_ (fun hHeld => ?_)
       ·exact (by assumption)
       clear hK K
       try simp only [Act.put, List.setIfInBounds_toArray, List.set_cons_zero, List.set_cons_succ]
       refine wpAnyH_take (i := 2) (v := ?_) (by simp only [List.getElem?_toArray, List.getElem?_cons_zero, List.getElem?_cons_succ]; rfl) (by kernel_rfl) (by kernel_rfl) (by kernel_rfl) (fun _ _ _ h => h) (Or.inl ⟨by rfl, ?_⟩) (by assumption) ?_
       rotate_left
       ·(intro w hSw; (try dsimp only at hSw); go_simp <;> with_reducible rfl)
       try simp only [Act.put, List.setIfInBounds_toArray, List.set_cons_zero, List.set_cons_succ]
       refine wpAnyH_take (i := 3) (v := ?_) (by simp only [List.getElem?_toArray, List.getElem?_cons_zero, List.getElem?_cons_succ]; rfl) (by kernel_rfl) (by kernel_rfl) (by kernel_rfl) (fun _ _ _ h => h) (Or.inl ⟨by rfl, ?_⟩) (by assumption) ?_
       rotate_left
       ·(intro w hSw; (try dsimp only at hSw); go_simp <;> with_reducible rfl)
       try simp only [Act.put, List.setIfInBounds_toArray, List.set_cons_zero, List.set_cons_succ]
       refine wpAnyH_take (i := 4) (v := ?_) (by simp only [List.getElem?_toArray, List.getElem?_cons_zero, List.getElem?_cons_succ]; rfl) (by kernel_rfl) (by kernel_rfl) (by kernel_rfl) (fun _ _ _ h => h) (Or.inl ⟨by rfl, ?_⟩) (by assumption) ?_
       rotate_left
       ·(intro w hSw; (try dsimp only at hSw); go_simp <;> with_reducible rfl)
       try simp only [Act.put, List.setIfInBounds_toArray, List.set_cons_zero, List.set_cons_succ]
       refine wpAnyH_take (i := 5) (v := ?_) (by simp only [List.getElem?_toArray, List.getElem?_cons_zero, List.getElem?_cons_succ]; rfl) (by kernel_rfl) (by kernel_rfl) (by kernel_rfl) (fun _ _ _ h => h) (Or.inl ⟨by rfl, ?_⟩) (by assumption) ?_
       rotate_left
       ·(intro w hSw; (try dsimp only at hSw); go_simp <;> with_reducible rfl)
       try simp only [Act.put, List.setIfInBounds_toArray, List.set_cons_zero, List.set_cons_succ]
       refine wpAnyH_take (i := 6) (v := ?_) (by simp only [List.getElem?_toArray, List.getElem?_cons_zero, List.getElem?_cons_succ]; rfl) (by kernel_rfl) (by kernel_rfl) (by kernel_rfl) (fun _ _ _ h => h) (Or.inl ⟨by rfl, ?_⟩) (by assumption) ?_
       rotate_left
       ·(intro w hSw; (try dsimp only at hSw); go_simp <;> with_reducible rfl)
       try simp only [Act.put, List.setIfInBounds_toArray, List.set_cons_zero, List.set_cons_succ]
       refine wpAnyH_take (i := 7) (v := ?_) (by simp only [List.getElem?_toArray, List.getElem?_cons_zero, List.getElem?_cons_succ]; rfl) (by kernel_rfl) (by kernel_rfl) (by kernel_rfl) (fun _ _ _ h => h) (Or.inl ⟨by rfl, ?_⟩) (by assumption) ?_
       rotate_left
       ·(intro w hSw; (try dsimp only at hSw); go_simp <;> with_reducible rfl)
       try simp only [Act.put, List.setIfInBounds_toArray, List.set_cons_zero, List.set_cons_succ]
       refine wpAnyH_ready (rs := [8]) (by kernel_rfl) (by simp) ?_
       refine AllReadyH.cons (by simp only [List.getElem?_toArray, List.getElem?_cons_zero, List.getElem?_cons_succ]; rfl) (fun K hK => ?_) AllReadyH.nil
       go_simp
       go_at_call 41
       refine (H30.out _).mono ?_
       rintro e w6 ⟨rfl, hb6⟩
       refine hK.out _ _ ?_ (fun hHeld => ?_)
       ·exact bdS_below (by assumption) hb6
       clear hK K
       try simp only [Act.put, List.setIfInBounds_toArray, List.set_cons_zero, List.set_cons_succ]
       refine wpAnyH_take (i := 9) (v := ?_) (by simp only [List.getElem?_toArray, List.getElem?_cons_zero, List.getElem?_cons_succ]; rfl) (by kernel_rfl) (by kernel_rfl) (by kernel_rfl) (fun _ _ _ h => h) (Or.inl ⟨by rfl, ?_⟩) (by assumption) ?_
       rotate_left
       ·(intro w hSw; (try dsimp only at hSw); go_simp <;> with_reducible rfl)
       try simp only [Act.put, List.setIfInBounds_toArray, List.set_cons_zero, List.set_cons_succ]
       refine wpAnyH_take (i := 10) (v := ?_) (by simp only [List.getElem?_toArray, List.getElem?_cons_zero, List.getElem?_cons_succ]; rfl) (by kernel_rfl) (by kernel_rfl) (by kernel_rfl) (fun _ _ _ h => h) (Or.inl ⟨by rfl, ?_⟩) (by assumption) ?_
       rotate_left
       ·(intro w hSw; (try dsimp only at hSw); go_simp <;> with_reducible rfl)
       try simp only [Act.put, List.setIfInBounds_toArray, List.set_cons_zero, List.set_cons_succ]
       refine wpAnyH_take (i := 11) (v := ?_) (by simp only [List.getElem?_toArray, List.getElem?_cons_zero, List.getElem?_cons_succ]; rfl) (by kernel_rfl) (by kernel_rfl) (by kernel_rfl) (fun _ _ _ h => h) (Or.inl ⟨by rfl, ?_⟩) (by assumption) ?_
       rotate_left
       ·(intro w hSw; (try dsimp only at hSw); go_simp <;> with_reducible rfl)
       try simp only [Act.put, List.setIfInBounds_toArray, List.set_cons_zero, List.set_cons_succ]
       refine wpAnyH_done (by kernel_rfl) ?_ _
       refine NoPanic.normal ?_
       have HB6 : Hid (Below w.heap.size w w6) := HB4.out.trans ((bdS_hb (w2 := w4) (by assumption)).mono HB4.out.size)
       clear hHeld
       go_wp2_with fail
       go_ret
       exact ⟨rfl, HNo.out w6 HB6.out (by rw [HE.out]; decide)⟩
      ·have HE : Hid (bindE m (x1, x2) l = 0) := by show bindE m (x1, x2) l = 0; rw [HBE2.out, hv, hle]; rfl
       have HVs : Hid (isVarL l = true → lessN (varL l) (x1, x2) = true) := fun _ => hle
       simp only [hle] at H30
       rw [HE.out]
       clear hv hle HBE2
       generalize (varL l).1 = y1 at *
       generalize (varL l).2 = y2 at *
       go_enter Tryz.func27, Tryz.ntmps27
       go_wp2_with fail
       refine (H27.out _ HB1.out).mono ?_
       rintro e w2 ⟨v2, rfl, hT2, hb2⟩
       obtain ⟨a2, c2, hf2⟩ := hT2.form
       simp only [List.length_singleton] at hf2
       subst hf2
       have HB2 : Hid (Below w.heap.size w w2) := HB1.out.trans (hb2.mono HB1.out.size)
       have hw2 : Below (w.heap.size + 1) (w.alloc (.cells #[.int .i64 x1, .int .i64 x2] 32)) w2 := by simpa using hb2
       clear hT2 hb2 x0a x0b
       go_wp2_with fail
       refine (H28.out _ HB2.out).mono ?_
       rintro e w3 ⟨rfl, hb3⟩
       have HB3 : Hid (Below w.heap.size w w3) := HB2.out.trans (hb3.mono HB2.out.size)
       have hs2 : w.heap.size + 1 ≤ w2.heap.size := by have := hw2.size; simp at this; omega
       have hw3 := hw2.trans (hb3.mono hs2)
       have hs3 : w.heap.size + 1 ≤ w3.heap.size := Nat.le_trans hs2 hb3.size
       obtain ⟨y0a, y0b⟩ := HBx.out w3 hw3
       go_wp2_with fail
       refine (H21.out _ HB3.out).mono ?_
       rintro e w4 ⟨rfl, hb4⟩
       have HB4 : Hid (Below w.heap.size w w4) := HB3.out.trans (hb4.mono HB3.out.size)
       have hw4 := hw3.trans (hb4.mono hs3)
       have hbx4 : w.heap.size < w4.heap.size := by have := hb4.size; omega
       obtain ⟨z0a, z0b⟩ := HBx.out w4 hw4
       clear y0a y0b hb3 hb4 hw2 hw3 hw4
       obtain ⟨z3, z4⟩ := HT3.out w4 HB4.out
       have hS4 : BdS w4 hb M w.heap.size tb (tof + 3) x1 x2 y1 y2 true w4 := ⟨HCh.out w4 HB4.out, z0a, z0b, (fun _ => z3), (fun _ => z4), Below.refl _ _, Nat.lt_of_lt_of_le hhb HB4.out.size, hbx4, (fun _ => Nat.lt_of_lt_of_le htb HB4.out.size)⟩
       clear z3 z4
       go_wp2_with fail
       refine wp_region_noPanic ?_
       refine wp_region_held_drew (S := fun w' => BdS w4 hb M w.heap.size tb (tof + 3) x1 x2 y1 y2 true w') (by kernel_rfl) (bdS_drew hS4) (fun hHeld => ?_)
       refine wpAnyH_take (i := 0) (v := ?_) (by simp only [List.getElem?_toArray, List.getElem?_cons_zero]; rfl) (by kernel_rfl) (by kernel_rfl) (by kernel_rfl) (fun _ _ _ h => h) (Or.inl ⟨by rfl, ?_⟩) (by assumption) ?_
       rotate_left
       ·(intro w hSw; (try dsimp only at hSw); go_simp <;> with_reducible rfl)
       try simp only [Act.put, List.setIfInBounds_toArray, List.set_cons_zero, List.set_cons_succ]
       refine wpAnyH_ready (rs := [1]) (by kernel_rfl) (by simp) ?_
       refine AllReadyH.cons (by simp only [List.getElem?_toArray, List.getElem?_cons_zero, List.getElem?_cons_succ]; rfl) (fun K hK => ?_) AllReadyH.nil
       go_simp
       go_at_call 67
       refine (H29.out _ (HB4.out.trans ((bdS_hb (w2 := w4) (by assumption)).mono HB4.out.size))).mono ?_
       rintro e w5 ⟨rfl, hw5⟩
       obtain rfl := hw5
       refine hK.out _ _ ?_ (fun hHeld => ?_)
       ·exact (by assumption)
       clear hK K
       try simp only [Act.put, List.setIfInBounds_toArray, List.set_cons_zero, List.set_cons_succ]
       refine wpAnyH_take (i := 2) (v := ?_) (by simp only [List.getElem?_toArray, List.getElem?_cons_zero, List.getElem?_cons_succ]; rfl) (by kernel_rfl) (by kernel_rfl) (by kernel_rfl) (fun _ _ _ h => h) (Or.inl ⟨by rfl, ?_⟩) (by assumption) ?_
       rotate_left
       ·(intro w hSw; (try dsimp only at hSw); go_simp <;> with_reducible rfl)
       try simp only [Act.put, List.setIfInBounds_toArray, List.set_cons_zero, List.set_cons_succ]
       refine wpAnyH_take (i := 3) (v := ?_) (by simp only [List.getElem?_toArray, List.getElem?_cons_zero, List.getElem?_cons_succ]; rfl) (by kernel_rfl) (by kernel_rfl) (by kernel_rfl) (fun _ _ _ h => h) (Or.inl ⟨by rfl, ?_⟩) (by assumption) ?_
       rotate_left
       ·(intro w hSw; (try dsimp only at hSw); go_simp <;> with_reducible rfl)
       try simp only [Act.put, List.setIfInBounds_toArray, List.set_cons_zero, List.set_cons_succ]
       refine wpAnyH_take (i := 4) (v := ?_) (by simp only [List.getElem?_toArray, List.getElem?_cons_zero, List.getElem?_cons_succ]; rfl) (by kernel_rfl) (by kernel_rfl) (by kernel_rfl) (fun _ _ _ h => h) (Or.inl ⟨by rfl, ?_⟩) (by assumption) ?_
       rotate_left
       ·(intro w hSw; (try dsimp only at hSw); go_simp <;> with_reducible rfl)
       try simp only [Act.put, List.setIfInBounds_toArray, List.set_cons_zero, List.set_cons_succ]
       refine wpAnyH_take (i := 5) (v := ?_) (by simp only [List.getElem?_toArray, List.getElem?_cons_zero, List.getElem?_cons_succ]; rfl) (by kernel_rfl) (by kernel_rfl) (by kernel_rfl) (fun _ _ _ h => h) (Or.inl ⟨by rfl, ?_⟩) (by assumption) ?_
       rotate_left
       ·(intro w hSw; (try dsimp only at hSw); go_simp <;> with_reducible rfl)
       try simp only [Act.put, List.setIfInBounds_toArray, List.set_cons_zero, List.set_cons_succ]
       refine wpAnyH_take (i := 6) (v := ?_) (by simp only [List.getElem?_toArray, List.getElem?_cons_zero, List.getElem?_cons_succ]; rfl) (by kernel_rfl) (by kernel_rfl) (by kernel_rfl) (fun _ _ _ h => h) (Or.inl ⟨by rfl, ?_⟩) (by assumption) ?_
       rotate_left
       ·(intro w hSw; (try dsimp only at hSw); go_simp <;> with_reducible rfl)
       try simp only [Act.put, List.setIfInBounds_toArray, List.set_cons_zero, List.set_cons_succ]
       refine wpAnyH_take (i := 7) (v := ?_) (by simp only [List.getElem?_toArray, List.getElem?_cons_zero, List.getElem?_cons_succ]; rfl) (by kernel_rfl) (by kernel_rfl) (by kernel_rfl) (fun _ _ _ h => h) (Or.inl ⟨by rfl, ?_⟩) (by assumption) ?_
       rotate_left
       ·(intro w hSw; (try dsimp only at hSw); go_simp <;> with_reducible rfl)
       try simp only [Act.put, List.setIfInBounds_toArray, List.set_cons_zero, List.set_cons_succ]
       refine wpAnyH_ready (rs := [8]) (by kernel_rfl) (by simp) ?_
       refine AllReadyH.cons (by simp only [List.getElem?_toArray, List.getElem?_cons_zero, List.getElem?_cons_succ]; rfl) (fun K hK => ?_) AllReadyH.nil
       go_simp
       go_at_call 41
       refine (H30.out _).mono ?_
       rintro e w6 ⟨rfl, hb6⟩
       refine hK.out _ _ ?_ (fun hHeld => ?_)
       ·exact bdS_below (by assumption) hb6
       clear hK K
       try simp only [Act.put, List.setIfInBounds_toArray, List.set_cons_zero, List.set_cons_succ]
       refine wpAnyH_take (i := 9) (v := ?_) (by simp only [List.getElem?_toArray, List.getElem?_cons_zero, List.getElem?_cons_succ]; rfl) (by kernel_rfl) (by kernel_rfl) (by kernel_rfl) (fun _ _ _ h => h) (Or.inl ⟨by rfl, ?_⟩) (by assumption) ?_
       rotate_left
       ·(intro w hSw; (try dsimp only at hSw); go_simp <;> with_reducible rfl)
       try simp only [Act.put, List.setIfInBounds_toArray, List.set_cons_zero, List.set_cons_succ]
       refine wpAnyH_take (i := 10) (v := ?_) (by simp only [List.getElem?_toArray, List.getElem?_cons_zero, List.getElem?_cons_succ]; rfl) (by kernel_rfl) (by kernel_rfl) (by kernel_rfl) (fun _ _ _ h => h) (Or.inl ⟨by rfl, ?_⟩) (by assumption) ?_
       rotate_left
       ·(intro w hSw; (try dsimp only at hSw); go_simp <;> with_reducible rfl)
       try simp only [Act.put, List.setIfInBounds_toArray, List.set_cons_zero, List.set_cons_succ]
       refine wpAnyH_take (i := 11) (v := ?_) (by simp only [List.getElem?_toArray, List.getElem?_cons_zero, List.getElem?_cons_succ]; rfl) (by kernel_rfl) (by kernel_rfl) (by kernel_rfl) (fun _ _ _ h => h) (Or.inl ⟨by rfl, ?_⟩) (by assumption) ?_
       rotate_left
       ·(intro w hSw; (try dsimp only at hSw); go_simp <;> with_reducible rfl)
       try simp only [Act.put, List.setIfInBounds_toArray, List.set_cons_zero, List.set_cons_succ]
       refine wpAnyH_done (by kernel_rfl) ?_ _
       refine NoPanic.normal ?_
       have hS5 : PtS hb M w.heap.size x1 x2 w6 := (fun h => ⟨h.1, h.2.1, h.2.2.1⟩) (show BdS w4 hb M w.heap.size _ _ x1 x2 _ _ _ w6 by assumption)
       have HB5 : Hid (Below w.heap.size w w6) := HB4.out.trans ((bdS_hb (w2 := w4) (by assumption)).mono HB4.out.size)
       have HH5 : Hid (HpAt w6 hb M n D m) := HH.out.below HB5.out
       have hh5 : hb < w6.heap.size := Nat.lt_of_lt_of_le hhb HB5.out.size
       have hbx5 : w.heap.size < w6.heap.size := Nat.lt_of_lt_of_le hbx4 (bdS_hb (w2 := w4) (by assumption)).size
       clear hHeld hS4
       go_wp2_with fail
       refine wp_region_noPanic ?_
       refine wp_region_held_drew (S := fun w' => PtS hb M w.heap.size x1 x2 w') (by kernel_rfl) hS5 (fun hHeld => ?_)
       refine wpAnyH_take (i := 0) (v := ?_) (by simp only [List.getElem?_toArray, List.getElem?_cons_zero]; rfl) (by kernel_rfl) (by kernel_rfl) (by kernel_rfl) (fun _ _ _ h => h) (Or.inl ⟨by rfl, ?_⟩) (by assumption) ?_
       rotate_left
       ·(intro w hSw; (try dsimp only at hSw); go_simp <;> with_reducible rfl)
       try simp only [Act.put, List.setIfInBounds_toArray, List.set_cons_zero, List.set_cons_succ]
       refine wpAnyH_take (i := 1) (v := ?_) (by simp only [List.getElem?_toArray, List.getElem?_cons_zero, List.getElem?_cons_succ]; rfl) (by kernel_rfl) (by kernel_rfl) (by kernel_rfl) (fun _ _ _ h => h) (Or.inl ⟨by rfl, ?_⟩) (by assumption) ?_
       rotate_left
       ·(intro w hSw; (try dsimp only at hSw); go_simp <;> with_reducible rfl)
       try simp only [Act.put, List.setIfInBounds_toArray, List.set_cons_zero, List.set_cons_succ]
       refine wpAnyH_take (i := 2) (v := ?_) (by simp only [List.getElem?_toArray, List.getElem?_cons_zero, List.getElem?_cons_succ]; rfl) (by kernel_rfl) (by kernel_rfl) (by kernel_rfl) (fun _ _ _ h => h) (Or.inl ⟨by rfl, ?_⟩) (by assumption) ?_
       rotate_left
       ·(intro w hSw; (try dsimp only at hSw); go_simp <;> with_reducible rfl)
       try simp only [Act.put, List.setIfInBounds_toArray, List.set_cons_zero, List.set_cons_succ]
       refine wpAnyH_take (i := 3) (v := ?_) (by simp only [List.getElem?_toArray, List.getElem?_cons_zero, List.getElem?_cons_succ]; rfl) (by kernel_rfl) (by kernel_rfl) (by kernel_rfl) (fun _ _ _ h => h) (Or.inl ⟨by rfl, ?_⟩) (by assumption) ?_
       rotate_left
       ·(intro w hSw; (try dsimp only at hSw); go_simp <;> with_reducible rfl)
       try simp only [Act.put, List.setIfInBounds_toArray, List.set_cons_zero, List.set_cons_succ]
       refine wpAnyH_take (i := 4) (v := ?_) (by simp only [List.getElem?_toArray, List.getElem?_cons_zero, List.getElem?_cons_succ]; rfl) (by kernel_rfl) (by kernel_rfl) (by kernel_rfl) (fun _ _ _ h => h) (Or.inl ⟨by rfl, ?_⟩) (by assumption) ?_
       rotate_left
       ·(intro w hSw; (try dsimp only at hSw); go_simp <;> with_reducible rfl)
       try simp only [Act.put, List.setIfInBounds_toArray, List.set_cons_zero, List.set_cons_succ]
       refine wpAnyH_take (i := 5) (v := ?_) (by simp only [List.getElem?_toArray, List.getElem?_cons_zero, List.getElem?_cons_succ]; rfl) (by kernel_rfl) (by kernel_rfl) (by kernel_rfl) (fun _ _ _ h => h) (Or.inl ⟨by rfl, ?_⟩) (by assumption) ?_
       rotate_left
       ·(intro w hSw; (try dsimp only at hSw); go_simp <;> with_reducible rfl)
       try simp only [Act.put, List.setIfInBounds_toArray, List.set_cons_zero, List.set_cons_succ]
       refine wpAnyH_ready (rs := [6]) (by kernel_rfl) (by simp) ?_
       refine AllReadyH.cons (by simp only [List.getElem?_toArray, List.getElem?_cons_zero, List.getElem?_cons_succ]; rfl) (fun K hK => ?_) AllReadyH.nil
       go_simp
       go_at_call 56
       refine (H22.out _ HB5.out.drew).mono ?_
       rintro e w7 ⟨u7, rfl, hT7, hfr7, hb7⟩
       have HFR : Hid (∀ g, u7.ownBlock = some g → w.heap.size ≤ g) := fun g hg => Nat.le_trans HB5.out.drew.size (hfr7 g hg)
       clear hfr7
       refine hK.out _ _ ?_ (fun hHeld => ?_)
       ·exact ptS_to (by assumption) hb7 hh5 hbx5
       clear hK K
       try simp only [Act.put, List.setIfInBounds_toArray, List.set_cons_zero, List.set_cons_succ]
       have hB57 : Below w6.heap.size w6 w7 := ((Below.refl _ _).drew).trans hb7
       have HH7 : Hid (HpAt w7 hb M n D m) := HH5.out.below hB57
       have HT7 : Hid (TermAt w7 u7 l) := hT7
       obtain ⟨w8, hrun, hmap8, hturn⟩ := HH7.out.map.store keyed23 Tryz.underlying97 hn (key23 (x1, x2) HX.out) (show heldElem u7 = some (.held u7, []) from rfl)
       have HF8 : Hid (BindPost m (x1, x2) l hb M n D w w8) := by
        refine ⟨n + 1, D.put (kLit (x1, x2)) (.held u7), ?_, Nat.le_refl _, keeps_put (HB5.out.trans (hB57.mono HB5.out.size)) hturn, fun V hV => vb_put HH7.out.map.isMap HX.out hV HFR.out⟩
        rw [HYes.out HE.out]
        exact HH7.out.put HX.out HL0.out HT7.out HWl.out HVs.out hmap8 hturn
       have HS8 : Hid (PtS hb M w.heap.size x1 x2 w8) := ptS_turn (by assumption) hturn (Nat.lt_of_lt_of_le hh5 hB57.size) (Nat.lt_of_lt_of_le hbx5 hB57.size) hbM hbxM
       obtain ⟨a7, c7, hf7⟩ := hT7.form
       subst hf7
       clear hT7 hmap8 hturn hb7
       refine wpAnyH_ready (rs := [7]) (by kernel_rfl) (by simp) ?_
       refine AllReadyH.cons (by simp only [List.getElem?_toArray, List.getElem?_cons_zero, List.getElem?_cons_succ]; rfl) (fun K hK => ?_) AllReadyH.nil
       go_simp
       refine hK.out _ _ ?_ (fun hHeld => ?_)
       ·exact HS8.out
       clear hK K
       try simp only [Act.put, List.setIfInBounds_toArray, List.set_cons_zero, List.set_cons_succ]
       refine wpAnyH_done (by kernel_rfl) ?_ _
       refine NoPanic.normal ?_
       clear hHeld
       go_wp2_with fail
       go_ret
       exact ⟨rfl, HF8.out⟩
end Go.Proofs.YtljggjllijacjaaGreatDoor
