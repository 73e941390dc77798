/- A range over a function whose iterator writes memory of its own: maps, rows of paths. The iterator over paths: all paths from some roots, level by level. -/
import Derived.Test.YtojobiefambkoaaGreatDoorFA
import Derived.RangeFuncNested
import Derived.RangeFuncBound
import Derived.RangeFuncCalls
import Derived.RangeFuncLeaves
import Derived.RangeFuncBox
import Derived.RangeFuncKeeps
import Derived.Deep.LoopGhost
import Derived.Shelf.Abstract
import Derived.Shelf.RegionOpen
import Derived.OwnWalkIn
import Derived.TacticsInMore
import Derived.LoopNIn
import Derived.LoopIn
import Derived.Sort.EveryDepth
import Derived.Maps.OwnIn
namespace Go.Proofs.YtojobiefambkoaaGreatDoor
open Go.RowKit Go.Shelf
/-- Memory below B stays, and cells but those of rows of paths. -/
structure ItL (B : Nat) (A C : World) : Prop where
  bel : Below B A C
  kt : Kt A C
/-- What an iterator does between two rounds: besides, loops and deferred calls lie as they lay. -/
structure ItS (B : Nat) (A C : World) : Prop where
  l : ItL B A C
  oth : ∀ (k : Nat) (o : Obj), A.heap[k]? = some o → o.isCells = false → (∀ es ck, o ≠ .map es ck) → C.heap[k]? = some o
theorem ItL.refl (B : Nat) (A : World) : ItL B A A := ⟨Below.refl _ _, Kt.refl _⟩
theorem ItL.trans {B : Nat} {a b c : World} (h : ItL B a b) (k : ItL B b c) : ItL B a c := ⟨h.bel.trans k.bel, h.kt.trans k.kt⟩
theorem ItS.trans {B : Nat} {a b c : World} (h : ItS B a b) (k : ItS B b c) : ItS B a c := ⟨h.l.trans k.l, fun i o hi h1 h2 => k.oth i o (h.oth i o hi h1 h2) h1 h2⟩
theorem ItL.mono {B B' : Nat} {a b : World} (h : ItL B a b) (hb : B' ≤ B) : ItL B' a b := ⟨h.bel.mono hb, h.kt⟩
theorem itL_alloc {B : Nat} (W : World) (hB : B ≤ W.heap.size) (o : Obj) : ItL B W (W.alloc o) := ⟨(Below.refl _ W).alloc hB _, Kt.below (below_alloc _ _)⟩
theorem itL_putObj {B : Nat} {W : World} {l : Nat} {o : Obj} (o' : Obj) (hB : B ≤ l) (hl : W.heap[l]? = some o) (ho : o.isCells = false) : ItL B W (W.putObj l o') :=
  ⟨(Below.refl B W).grown (grownBy_putObj' W l o') (Nat.le_of_lt (Nat.lt_of_le_of_lt hB (Array.getElem?_eq_some_iff.1 hl).1)) (fun g e => by cases e; exact hB), Kt.grown (grownBy_putObj' W l o') fun g e cu t f _ hg => by
    cases e
    rw [hl] at hg
    cases hg
    cases ho⟩
theorem itS_below {B : Nat} {A C : World} (h : Below A.heap.size A C) (hB : B ≤ A.heap.size) : ItS B A C :=
  ⟨⟨h.mono hB, Kt.below h⟩, fun k _ hk _ _ => (h.block k (Array.getElem?_eq_some_iff.1 hk).1).trans hk⟩
theorem itS_fs {B : Nat} {A C : World} {b nn : Nat} {v : Value} {t : List Nm × List (List Nm)} (h : Fs A C b nn v t) (hB : B ≤ b) (hBA : B ≤ A.heap.size) {l : List Nm} {n0 : Nat} (hM : Met A b n0 l) : ItS B A C :=
  ⟨⟨(Below.refl B A).grown h.2.2.1 hBA (fun g e => by cases e; exact hB), h.2.2.2⟩, fun k o hk _ h2 => (h.2.2.1.block k (Array.getElem?_eq_some_iff.1 hk).1 (fun e => by
    cases e
    obtain ⟨es, ck, hm⟩ := hM.1.blk
    rw [hm] at hk
    cases hk
    exact h2 es ck rfl)).trans hk⟩
/-- The contract of an iterator that writes: what the caller says abides its steps. -/
def ItSeq {α : Type} (F : Fence) (n : Nat) (P : Program) (g : Nat) (lb : Array Value) (encs : α → Array Value) (Gd : α → World → Prop) (Kp : World → World → Prop) (S Sp Nx : List α → Prop) (w : World) : Prop :=
  ∀ (l : Nat) (J Jx : List α → World → Prop) (W : World), Below w.heap.size w W → (∀ s A C, J s A → ItS W.heap.size A C → J s C) → (∀ s A C, Jx s A → ItS W.heap.size A C → Jx s C) →
    (∀ pre x W1, J pre W1 → Gd x W1 → Nx (pre ++ [x]) → YieldAt F (n - 1) P l (encs x) W1 fun e W' =>
      (e = .returned (.bool true) ∧ J (pre ++ [x]) W' ∧ Kp W1 W') ∨ (e = .returned (.bool false) ∧ Jx (pre ++ [x]) W')) →
    J [] W →
    CallsIn F n P g (#[.func (.yield l) #[] #[]] ++ lb) W fun e W' => (∃ v, e = .returned v) ∧ ((∃ xs, S xs ∧ J xs W') ∨ (∃ pre, Sp pre ∧ Jx pre W'))
section
variable {F : Fence} {n : Nat} {P : Program} {w : World}
theorem rf_it {α : Type} {g : Operand} {ps : Array Tmp} {assign body : Code} {Q : Exit → Act → World → Prop} {a : Act}
    (hro : F.round = none) (h1 : 1 ≤ n) {gf : Nat} {lb : Array Value} (hg : a.eval g = .func (.func gf) #[] lb) (hFg : F.fn gf) (eg : ∀ args w, (callFunc gf args).run P w = .ok (.enter gf args) w)
    {encs : α → Array Value} {Gd : α → World → Prop} {Kp : World → World → Prop} {S Sp Nx : List α → Prop} (hseq : ItSeq F (n - 1) P gf lb encs Gd Kp S Sp Nx w)
    (hKt : ∀ {A B C : World}, Kp A B → Kp B C → Kp A C) (hKb : ∀ (W : World) (l : Nat) (r r' : Loop), w.heap.size ≤ l → W.heap[l]? = some (.loop r) → Kp W (W.putObj l (.loop r'))) (hps : ∀ x, (encs x).size = ps.size)
    (I : List α → World → Prop) (Ix : Code → List α → World → Prop) (hI : ∀ s A C, I s A → ItL w.heap.size A C → I s C) (hIx : ∀ c s A C, Ix c s A → ItL w.heap.size A C → Ix c s C) (h0 : I [] w)
    (Ax : α → Act → World → Prop) (hAx : ∀ x a' A C, Ax x a' A → ItL w.heap.size A C → Ax x a' C)
    (hassign : ∀ (l : Nat) (pre : List α) (x : α) (W : World) (K : Act → World → Prop), I pre W → Gd x W → (∀ a' W', KeepsFrom w.heap.size W W' → Kp W W' → I pre W' → Ax x a' W' → K a' W') →
      assign.wpIn (F.inRound l) (n - 1 - 1) P (Exit.then K (fun _ _ _ => False)) { tmps := (ps.zip (encs x)).foldl (fun t (p, v) => t.setIfInBounds p v) a.tmps, defers := [] } W)
    (hbody : ∀ (l : Nat) (pre : List α) (x : α) (a' : Act) (W : World), I pre W → Ax x a' W → Nx (pre ++ [x]) → body.wpIn (F.inRound l) (n - 1 - 1) P (ownPostG w.heap.size Kp I Ix (pre ++ [x]) W) a' W)
    (hdone : ∀ (D : Nat) (xs : List α) (W : World), w.heap.size ≤ D → S xs → I xs W → W.heap[D]? = some (.deferred (some [])) → Q .normal { a with defers := { target := .collected D, args := #[] } :: a.defers } W)
    (hstop : ∀ (D : Nat) (c : Code) (pre : List α) (W : World), w.heap.size ≤ D → Sp pre → Ix c pre W → W.heap[D]? = some (.deferred (some [])) → c.wpIn F n P Q { a with defers := { target := .collected D, args := #[] } :: a.defers } W) :
    (Code.rangeFunc g ps assign body).wpIn F n P Q a w := by
  refine wpIn_rangeFunc fun fn hfn => ?_
  rw [hro]
  obtain ⟨rec, hrec⟩ : ∃ rec : LoopState → Option Code → Loop, rec = fun st pe => { state := st, pending := pe, fn, tmps := a.tmps, params := ps, assign, body, defers := w.heap.size } := ⟨_, rfl⟩
  obtain ⟨D0, hD0⟩ : ∃ D0, w.heap.size = D0 := ⟨_, rfl⟩
  obtain ⟨W1, hW1⟩ : ∃ W1, (w.alloc (.deferred (some []))).alloc (.loop (rec .ready none)) = W1 := ⟨_, rfl⟩
  have hsz : W1.heap.size = D0 + 2 := by rw [← hW1, ← hD0]; simp
  have hL1 : W1.heap[D0 + 1]? = some (.loop (rec .ready none)) := by
    rw [← hW1, ← hD0]
    have h := World.alloc_heap_new (w.alloc (.deferred (some []))) (.loop (rec .ready none))
    rwa [World.size_alloc] at h
  have hK1 : W1.heap[D0]? = some (.deferred (some [])) := by
    rw [← hW1, ← hD0]
    exact (Below.heap_alloc _ _ _ (by simp)).trans (World.alloc_heap_new w _)
  have hI1 : I [] W1 := by
    rw [← hW1]
    exact hI _ _ _ (hI _ _ _ h0 (itL_alloc w (Nat.le_refl _) _)) (itL_alloc _ (by simp) _)
  have hb1 : Below w.heap.size w W1 := by
    rw [← hW1]
    exact ((Below.refl _ w).alloc (Nat.le_refl _) _).alloc (by simp) _
  -- the two blocks of book-keeping
  let Bk : LoopState → Option Code → World → Prop := fun st pe W => W.heap[D0 + 1]? = some (.loop (rec st pe)) ∧ W.heap[D0]? = some (.deferred (some []))
  have hBk : ∀ {st : LoopState} {pe : Option Code} {A C : World}, Bk st pe A → ItS W1.heap.size A C → Bk st pe C := fun hb hs =>
    ⟨hs.oth _ _ hb.1 rfl (fun _ _ e => by cases e), hs.oth _ _ hb.2 rfl (fun _ _ e => by cases e)⟩
  have hlow : ∀ {A C : World}, ItS W1.heap.size A C → ItL w.heap.size A C := fun hs => hs.l.mono (by omega)
  refine ⟨D0 + 1, [{ target := .collected D0, args := #[] }], W1, { target := .fn (.func gf) lb, args := #[.func (.yield (D0 + 1)) #[] #[]] }, W1, gf, #[.func (.yield (D0 + 1)) #[] #[]] ++ lb, W1, ?_, ?_, ?_, ?_, fun _ => h1, ?_⟩
  · rw [← hW1, hrec, ← hD0]
    exact run_enterLoop_outer _ _ _ _ _
  · simp only [resolve, hg]
    simp [go_sem]
  · intro f' hf'
    simp only [Target.leads] at hf'
    simp at hf'
    subst hf'
    exact hFg
  · simp [invoke, go_sem, eg]
  · refine (hseq (D0 + 1) (fun pre W => I pre W ∧ Bk .ready none W) (fun pre W => ∃ c, Ix c pre W ∧ Bk .done (some c) W) W1 hb1 (fun s A C h hs => ⟨hI s A C h.1 (hlow hs), hBk h.2 hs⟩) (fun s A C h hs => by
      obtain ⟨c, hc, hk⟩ := h
      exact ⟨c, hIx c s A C hc (hlow hs), hBk hk hs⟩) ?_ ⟨hI1, hL1, hK1⟩).mono ?_
    · rintro pre x W ⟨hi, hl, hk⟩ hgd hlen
      have hy := run_yield (P := P) (args := encs x) hl (by rw [hrec]; exact hps x)
      rw [hrec] at hy
      refine ⟨fn, _, assign, body, hy, roundIn_of_wpIn hfn (hassign _ pre x W _ hi hgd fun a' Wa hkf hkp hia hax => ?_)⟩
      clear hy
      have hla := hkf.same _ _ (by omega) hl rfl
      have hka := hkf.same _ _ (by omega) hk rfl
      have hlt : D0 + 1 < Wa.heap.size := (Array.getElem?_eq_some_iff.1 hla).1
      obtain ⟨Wb, hWb⟩ : ∃ Wb, Wa.putObj (D0 + 1) (.loop { rec .ready none with state := .busy }) = Wb := ⟨_, rfl⟩
      have hlb : Wb.heap[D0 + 1]? = some (.loop { rec .ready none with state := .busy }) := by rw [← hWb]; exact World.putObj_heap_same hlt
      have hkb : Wb.heap[D0]? = some (.deferred (some [])) := by rw [← hWb]; exact (World.putObj_heap_other (by omega)).trans hka
      have hstep : ItL w.heap.size Wa Wb := by rw [← hWb]; exact itL_putObj _ (by omega) hla rfl
      have hkpb : Kp Wa Wb := by rw [← hWb]; exact hKb _ _ _ _ (by omega) hla
      refine ⟨Wb, by rw [← hWb]; exact run_beginRound hla (by rw [hrec]), ?_⟩
      refine wpIn_mono (hbody _ pre x a' Wb (hI _ _ _ hia hstep) (hAx _ _ _ _ hax hstep) hlen) ?_
      have fin : ∀ (jump : Option Code) (W3 : World), KeepsFrom w.heap.size Wb W3 → ∃ W4, (Instr.endRound (D0 + 1) jump).run P W3 = .ok (.bool jump.isNone) W4 ∧ Bk (if jump.isNone then .ready else .done) jump W4 ∧ ItL w.heap.size W3 W4 ∧ Kp W3 W4 := fun jump W3 hk3 => by
        have hl3 := hk3.same _ _ (by omega) hlb rfl
        have hd3 := hk3.same _ _ (by omega) hkb rfl
        have hr := run_endRound (P := P) jump hl3
        refine ⟨_, hr, ⟨?_, (World.putObj_heap_other (by omega)).trans hd3⟩, itL_putObj _ (by omega) hl3 rfl, hKb _ _ _ _ (by omega) hl3⟩
        rw [World.putObj_heap_same (Array.getElem?_eq_some_iff.1 hl3).1, hrec]
      rintro e a3 W3 hp
      cases e with
      | normal =>
        obtain ⟨hk3, hkp3, hi3⟩ := hp
        obtain ⟨W4, hr, hb4, hs4, hp4⟩ := fin none W3 hk3
        exact ⟨_, W4, hr, .inl ⟨rfl, ⟨hI _ _ _ hi3 hs4, hb4⟩, hKt hkp (hKt (hKt hkpb hkp3) hp4)⟩⟩
      | ret =>
        obtain ⟨hk3, hi3⟩ := hp
        obtain ⟨W4, hr, hb4, hs4, _⟩ := fin (some .ret) W3 hk3
        exact ⟨_, W4, hr, .inr ⟨rfl, .ret, hIx _ _ _ _ hi3 hs4, hb4⟩⟩
      | exit id =>
        obtain ⟨hk3, hi3⟩ := hp
        obtain ⟨W4, hr, hb4, hs4, _⟩ := fin (some (.exit id)) W3 hk3
        exact ⟨_, W4, hr, .inr ⟨rfl, .exit id, hIx _ _ _ _ hi3 hs4, hb4⟩⟩
      | goto t =>
        obtain ⟨hk3, hi3⟩ := hp
        obtain ⟨W4, hr, hb4, hs4, _⟩ := fin (some (.goto t)) W3 hk3
        exact ⟨_, W4, hr, .inr ⟨rfl, .goto t, hIx _ _ _ _ hi3 hs4, hb4⟩⟩
      | panic ch => exact hp.elim
      | outgrown => exact hp.elim
    · rintro e W2 ⟨⟨v, rfl⟩, (⟨xs, hS, hi, hl, hk⟩ | ⟨pre, hSp, c, hi, hl, hk⟩)⟩
      · have hr := run_endLoop (P := P) hl (by rw [hrec]; simp)
        rw [hrec] at hr
        exact ⟨none, _, hr, hdone _ xs _ (by omega) hS (hI _ _ _ hi (itL_putObj _ (by omega) hl rfl)) ((World.putObj_heap_other (by omega)).trans hk)⟩
      · have hr := run_endLoop (P := P) hl (by rw [hrec]; simp)
        rw [hrec] at hr
        exact ⟨some c, _, hr, hstop _ c pre _ (by omega) hSp (hIx _ _ _ _ hi (itL_putObj _ (by omega) hl rfl)) ((World.putObj_heap_other (by omega)).trans hk)⟩
end
end Go.Proofs.YtojobiefambkoaaGreatDoor

namespace Go.Proofs.YtojobiefambkoaaGreatDoor
open Go.RowKit Go.Shelf
attribute [local go_sem] Oper.semAt_some
/-- A path as it is yielded. -/
structure Pc where
  v : Option Addr
  c : List Nm
abbrev encP (x : Pc) : Array Value := #[.pointer x.v]
def Pc.p (x : Pc) : Value := .pointer x.v
/-- What is good of a path that is yielded. -/
def GdP (m : Hp) (rs : List Nm) (x : Pc) (W : World) : Prop := PathAt W (.pointer x.v) x.c ∧ Chn m rs x.c ∧ ∀ y ∈ x.c, wfN y
/-- What a body keeps: old memory; of new memory all cells but names, and the maps; but not its own blocks. -/
def KpR (Own : Nat → Prop) (B : Nat) (A C : World) : Prop := Below B A C ∧ ∀ (k : Nat) (o : Obj), A.heap[k]? = some o → ((∃ cu t f, o = .cells cu t f ∧ (t = 71 ∨ t = 73 ∨ (t ≠ 49 ∧ ¬ Own k))) ∨ ∃ es ck, o = .map es ck) → C.heap[k]? = some o
theorem kpR_t {Own : Nat → Prop} {B : Nat} {x y z : World} (h : KpR Own B x y) (k : KpR Own B y z) : KpR Own B x z := ⟨h.1.trans k.1, fun i o hi ht => k.2 i o (h.2 i o hi ht) ht⟩
theorem kpR_b {Own : Nat → Prop} {B : Nat} (W : World) (l : Nat) (r r' : Loop) (hl : B ≤ l) (h : W.heap[l]? = some (.loop r)) : KpR Own B W (W.putObj l (.loop r')) :=
  ⟨(itL_putObj (o' := .loop r') hl h rfl).bel, fun k o hk ht => by
    have hne : k ≠ l := fun e => by
      subst e
      rw [h] at hk
      cases hk
      rcases ht with ⟨_, _, _, e, _⟩ | ⟨_, _, e⟩ <;> cases e
    exact (World.putObj_heap_other hne).trans hk⟩
theorem PathAt.keeps {w w' : World} (hk : ∀ (g : Nat) (cu : Array Value), w.heap[g]? = some (.cells cu 73 (0, 0)) → w'.heap[g]? = some (.cells cu 73 (0, 0))) : ∀ {c : List Nm} {p : Value}, PathAt w p c → PathAt w' p c
  | [], _, h => h
  | _ :: _, _, ⟨g, a, h1, h2, h3⟩ => ⟨g, a, h1, hk g _ h2, PathAt.keeps hk h3⟩
/-- A level in memory, path by path. -/
def LvP (W : World) (B : Nat) (v : Value) (ps : List Pc) : Prop := W.ownsRow B 71 1 v ps.length (ps.map Pc.p) ∧ ∀ p ∈ ps, PathAt W p.p p.c
theorem lvP_of {W : World} {B : Nat} {v : Value} {cs : List (List Nm)} (h : LvAt W B v cs) : ∃ ps : List Pc, ps.map Pc.c = cs ∧ LvP W B v ps := by
  obtain ⟨us, h1, h2⟩ := h
  have hl : us.length = cs.length := by have := h1.1; omega
  have key : ∀ (us : List Value) (cs : List (List Nm)), us.length = cs.length → (∀ (j : Nat) (u : Value) (c : List Nm), us[j]? = some u → cs[j]? = some c → PathAt W u c) → ∃ ps : List Pc, ps.map Pc.c = cs ∧ ps.map Pc.p = us ∧ ∀ p ∈ ps, PathAt W p.p p.c := by
    intro us
    induction us with
    | nil =>
      intro cs hl _
      have : cs = [] := List.eq_nil_of_length_eq_zero (by simpa using hl.symm)
      subst this
      exact ⟨[], rfl, rfl, by simp⟩
    | cons u us ih =>
      intro cs hl h
      cases cs with
      | nil => simp at hl
      | cons c cs =>
        obtain ⟨ps, g1, g2, g3⟩ := ih cs (by simpa using hl) fun j u' c' hu hc => h (j + 1) u' c' (by simpa using hu) (by simpa using hc)
        have h0 := h 0 u c rfl rfl
        obtain ⟨a, e⟩ := h0.form
        subst e
        refine ⟨⟨a, c⟩ :: ps, by simp [g1], by simp [g2, Pc.p], fun p hp => ?_⟩
        rcases List.mem_cons.1 hp with rfl | hp
        · exact h0
        · exact g3 p hp
  obtain ⟨ps, g1, g2, g3⟩ := key us cs hl h2
  refine ⟨ps, g1, ?_, g3⟩
  rw [g2]
  have : ps.length = cs.length := by rw [← g1]; simp
  rw [this]
  exact h1
theorem LvP.at {W : World} {B : Nat} {v : Value} {ps : List Pc} (h : LvP W B v ps) : LvAt W B v (ps.map Pc.c) := by
  refine ⟨ps.map Pc.p, by simpa using h.1, fun j u c hu hc => ?_⟩
  rw [List.getElem?_map] at hu hc
  cases hp : ps[j]? with
  | none => rw [hp] at hu; cases hu
  | some p =>
    rw [hp] at hu hc
    cases hu
    cases hc
    exact h.2 p (List.mem_of_getElem? hp)
/-- What stands ahead of a level. -/
structure PtI (m : Hp) (rs : List Nm) (wS : World) (B b rb hx : Nat) (rv hv : Value) (J : List Pc → World → Prop) (pre : List Pc) (met : List Nm) (lv0 : List (List Nm)) (v : Value) (W : World) : Prop where
  j : J pre W
  low : Below B wS W
  siz : wS.heap.size ≤ W.heap.size
  mt : Met W b (rs.length + 256 * pre.length) met
  lv : LvAt W wS.heap.size v lv0
  box : W.heap[rb]? = some (.cells #[rv] 23 (0, 0)) ∧ W.heap[hx]? = some (.cells #[hv] 25 (0, 0))
  lvl : Lvl m rs (pre.map Pc.c) met lv0
/-- The same while a level is gone through. -/
structure PtJ (m : Hp) (rs : List Nm) (wS : World) (B b rb hx : Nat) (rv hv : Value) (J : List Pc → World → Prop) (pre : List Pc) (met : List Nm) (ps : List Pc) (k : Nat) (v : Value) (W : World) : Prop where
  j : J (pre ++ ps.take k) W
  low : Below B wS W
  siz : wS.heap.size ≤ W.heap.size
  mt : Met W b (rs.length + 256 * pre.length) met
  lv : LvP W wS.heap.size v ps
  box : W.heap[rb]? = some (.cells #[rv] 23 (0, 0)) ∧ W.heap[hx]? = some (.cells #[hv] 25 (0, 0))
  lvl : Lvl m rs (pre.map Pc.c) met (ps.map Pc.c)
theorem PtJ.kp {m : Hp} {rs : List Nm} {wS : World} {Own : Nat → Prop} {B b rb hx : Nat} {rv hv : Value} {J : List Pc → World → Prop} {pre : List Pc} {met : List Nm} {ps : List Pc} {k k' : Nat} {v : Value} {W W' : World} (h : PtJ m rs wS B b rb hx rv hv J pre met ps k v W) (hk : KpR Own B W W') (hj : J (pre ++ ps.take k') W')
    (hO : ¬ Own rb ∧ ¬ Own hx) : PtJ m rs wS B b rb hx rv hv J pre met ps k' v W' := by
  obtain ⟨es, ck, hm⟩ := h.mt.1.blk
  refine ⟨hj, h.low.trans hk.1, Nat.le_trans h.siz hk.1.size, h.mt.keeps ((hk.2 b _ hm (.inr ⟨es, ck, rfl⟩)).trans hm.symm), ⟨row_keep h.lv.1 fun g hg => ?_, fun p hp => (h.lv.2 p hp).keeps fun g cu hg => hk.2 g _ hg (.inl ⟨cu, 73, _, rfl, .inr (.inl rfl)⟩)⟩, ⟨hk.2 rb _ h.box.1 (.inl ⟨_, 23, _, rfl, .inr (.inr ⟨by decide, hO.1⟩)⟩), hk.2 hx _ h.box.2 (.inl ⟨_, 25, _, rfl, .inr (.inr ⟨by decide, hO.2⟩)⟩)⟩, h.lvl⟩
  obtain ⟨cu, hc⟩ := row_typed h.lv.1 g hg
  rw [hc]
  exact hk.2 g _ hc (.inl ⟨cu, 71, _, rfl, .inl rfl⟩)
theorem chn_wf {m : Hp} {rs c : List Nm} (h : Chn m rs c) (hw : WfH m) (hr : ∀ x ∈ rs, wfN x) : ∀ y ∈ c, wfN y := by
  induction h with
  | one k => intro y hy; simp only [List.mem_singleton] at hy; rw [hy]; exact hr _ k
  | more _ k ih =>
    intro y hy
    rcases List.mem_cons.1 hy with rfl | hy
    · exact leadsH_wf hw _ _ k
    · exact ih y hy
theorem chn_cons {m : Hp} {rs c : List Nm} (h : Chn m rs c) : ∃ x r, c = x :: r := by
  cases h with
  | one _ => exact ⟨_, _, rfl⟩
  | more _ _ => exact ⟨_, _, rfl⟩
theorem LvAt.base {W : World} {B B' : Nat} {v : Value} {cs : List (List Nm)} (h : LvAt W B v cs) (hb : B' ≤ B) : LvAt W B' v cs := by
  obtain ⟨us, h1, h2⟩ := h
  exact ⟨us, row_low h1 hb, h2⟩
/-- A bound on the rounds to come. -/
def PtR (m : Hp) (rs : List Nm) (wS : World) (B b rb hx : Nat) (rv hv : Value) (J : List Pc → World → Prop) (k : Nat) (v : Value) (W : World) : Prop := ∃ pre met lv, PtI m rs wS B b rb hx rv hv J pre met lv v W ∧ pre.length + k = (univ m rs).length + 1 ∧ ∃ f, pre.map Pc.c ++ bfsF m f met lv = allC m rs ∧ (univ m rs).length + 1 ≤ pre.length + f
set_option maxRecDepth 100000 in
set_option maxHeartbeats 4000000 in
theorem pt_in (Own : Nat → Prop) (m : Hp) (p : Value) (rs : List Nm) (ra : Option Addr) (rc B rb hx l : Nat) (n : Nat) (hn : 1 ≤ n) (w0 wS : World) (J Jx : List Pc → World → Prop)
    (hp : HpV w0 p m) (hr : NamesAt w0 (.slice ra rs.length rc) rs) (hw0 : w0.heap.size ≤ B) (hwS : Below w0.heap.size w0 wS) (hBS : B ≤ wS.heap.size) (hm : GoodH m) (hw : WfH m) (hrw : ∀ x ∈ rs, wfN x) (hu : rs.length + 256 * (univ m rs).length ≤ 1000000000000)
    (hb1 : wS.heap[rb]? = some (.cells #[.slice ra rs.length rc] 23 (0, 0))) (hb2 : wS.heap[hx]? = some (.cells #[p] 25 (0, 0))) (hO : ¬ Own rb ∧ ¬ Own hx)
    (hJ : ∀ s A C, J s A → ItS wS.heap.size A C → J s C)
    (hY : ∀ pre x W1, J pre W1 → GdP m rs x W1 → (pre ++ [x]).map Pc.c <+: allC m rs → YieldAt Fence.wide (n - 1) Tryz.prog l (encP x) W1 fun e W' =>
      (e = .returned (.bool true) ∧ J (pre ++ [x]) W' ∧ KpR Own B W1 W') ∨ (e = .returned (.bool false) ∧ Jx (pre ++ [x]) W'))
    (h0 : J [] wS) :
    CallsIn Fence.wide n Tryz.prog 60 #[.func (.yield l) #[] #[], .pointer (some ⟨rb, 0, none⟩), .pointer (some ⟨hx, 0, none⟩)] wS fun e W' => (∃ v, e = .returned v) ∧
      ((∃ xs : List Pc, xs.map Pc.c = allC m rs ∧ J xs W') ∨ (∃ pre, Jx pre W')) := by
  obtain ⟨q, hq⟩ : ∃ q, rs.length = q := ⟨_, rfl⟩
  have HX : Hid (HpV w0 p m ∧ NamesAt w0 (.slice ra q rc) rs ∧ Below w0.heap.size w0 wS ∧ GoodH m ∧ WfH m ∧ (∀ x ∈ rs, wfN x) ∧ rs.length = q) := ⟨hp, by rw [← hq]; exact hr, hwS, hm, hw, hrw, hq⟩
  have HY : Hid (∀ pre x W1, J pre W1 → GdP m rs x W1 → (pre ++ [x]).map Pc.c <+: allC m rs → YieldAt Fence.wide (n - 1) Tryz.prog l (encP x) W1 fun e W' =>
      (e = .returned (.bool true) ∧ J (pre ++ [x]) W' ∧ KpR Own B W1 W') ∨ (e = .returned (.bool false) ∧ Jx (pre ++ [x]) W')) := hY
  have HJ : Hid ((∀ s A C, J s A → ItS wS.heap.size A C → J s C) ∧ J [] wS) := ⟨hJ, h0⟩
  have HO : Hid ((¬ Own rb ∧ ¬ Own hx) ∧ wS.heap[rb]? = some (.cells #[.slice ra q rc] 23 (0, 0)) ∧ wS.heap[hx]? = some (.cells #[p] 25 (0, 0))) := ⟨hO, by rw [← hq]; exact hb1, hb2⟩
  have hpf : ∃ q, p = .pointer q := by
    rcases hp with ⟨h, _⟩ | ⟨_, _, _, _, h, _⟩ <;> exact ⟨_, h⟩
  obtain ⟨hv, rfl⟩ := hpf
  rw [hq] at hu
  clear hp hr hwS hm hw hrw hb1 hb2 hO hJ hY h0 hq
  have hmm := @run_makeMap Tryz.prog
  obtain ⟨W1, hW1⟩ : ∃ W1, wS.alloc (.map #[] 0) = W1 := ⟨_, rfl⟩
  obtain ⟨b, hb⟩ : ∃ b, wS.heap.size = b := ⟨_, rfl⟩
  have HM1 : Hid (Met W1 b 0 [] ∧ Below wS.heap.size wS W1) := by
    rw [← hW1, ← hb]
    exact ⟨met_made wS, below_alloc _ _⟩
  refine callsIn_of_wp Tryz.func60 rfl trivial ?_ rfl
  simp only [Tryz.ntmps60, List.size_toArray, List.length_cons, List.length_nil, Nat.reduceAdd, Nat.reduceSub, Array.replicate_succ, Array.replicate_zero, List.push_toArray, List.append_toArray, List.nil_append, List.cons_append]
  have hc1 : W1.cell? ⟨rb, 0, none⟩ = some (.slice ra q rc) := by
    have h := (HM1.out.2.block rb (Array.getElem?_eq_some_iff.1 HO.out.2.1).1).trans HO.out.2.1
    rw [cell_of_row W1 rb 0 _ 23 (0, 0) h]; rfl
  have H48 : Calls Tryz.prog 61 #[.map (some b), .pointer none, .slice ra q rc] W1 fun e w' => ∃ a k c, e = .returned (.slice a k c) ∧ Hid (Fs W1 w' b (0 + q) (.slice a k c) (firstF [] [] rs)) := by
    obtain ⟨h1, h2, h3, h4, h5, h6, h7⟩ := HX.out
    have h := f48 [] [] rs b 0 none ra rc W1 HM1.out.1 rfl (by rw [h7]; exact (h2.below h3).below HM1.out.2) h6 (by rw [h7]; omega)
    rw [h7] at h
    exact h
  gi_wp2_with (refine ⟨trivial, ?_⟩; gi_at_call 61; refine (callsIn_wide.2 H48).mono ?_; rintro e w2 ⟨a, k, c, rfl, HF⟩)
  have HI : Hid (∃ k', PtR m rs wS B b rb hx (.slice ra q rc) (.pointer hv) J k' (.slice a k c) w2) := by
    obtain ⟨f1, f2, f3, f4⟩ := HF.out
    have hs : ItS wS.heap.size wS w2 := (itS_below HM1.out.2 (Nat.le_refl _)).trans (itS_fs HF.out (by omega) HM1.out.2.size HM1.out.1)
    refine ⟨(univ m rs).length + 1, [], (firstF [] [] rs).1, (firstF [] [] rs).2, ⟨HJ.out.1 _ _ _ HJ.out.2 hs, hs.l.bel.mono hBS, hs.l.bel.size, ?_, f1.base HM1.out.2.size, ⟨hs.l.kt.2 rb _ 23 _ (by decide) HO.out.2.1, hs.l.kt.2 hx _ 25 _ (by decide) HO.out.2.2⟩, lvl_first m rs⟩, by simp, (univ m rs).length + 1, rfl, by simp⟩
    rw [HX.out.2.2.2.2.2.2]
    exact f2.mono (by simp)
  clear HF H48 hc1 HM1 hW1 hmm
  gi_loopw [5] (fun lvv wr => ∃ (a : Option Addr) (n1 c : Nat), lvv = .slice a n1 c ∧ Hid (∃ k', PtR m rs wS B b rb hx (.slice ra q rc) (.pointer hv) J k' lvv wr)) (fun lvv wr => leastOf (fun k' => PtR m rs wS B b rb hx (.slice ra q rc) (.pointer hv) J k' lvv wr))
  case atStart => exact ⟨a, k, c, rfl, HI⟩
  case round =>
    clear HI
    obtain ⟨va, n1, vc, rfl, HR0⟩ := hrel
    obtain ⟨pre, met, lv, hI, hk0, fu, hfu1, hfu2⟩ := (leastOf_spec HR0.out).1
    have HL0 : Hid (pre.length + leastOf (fun k' => PtR m rs wS B b rb hx (.slice ra q rc) (.pointer hv) J k' (.slice va n1 vc) wr) = (univ m rs).length + 1) := hk0
    obtain ⟨ps, hps, hlp⟩ := lvP_of hI.lv
    subst hps
    have hn1 : ps.length = n1 := by
      obtain ⟨x, y, e⟩ := owns_form hlp.1
      simp only [Value.slice.injEq] at e
      omega
    have HN : Hid (ps.length = n1 ∧ pre.length + n1 ≤ (univ m rs).length) := ⟨hn1, by have := hI.lvl.len.1; simp only [List.length_map] at this; omega⟩
    have HI : Hid (PtI m rs wS B b rb hx (.slice ra q rc) (.pointer hv) J pre met (ps.map Pc.c) (.slice va n1 vc) wr) := hI
    have HP0 : Hid (PtJ m rs wS B b rb hx (.slice ra q rc) (.pointer hv) J pre met ps 0 (.slice va n1 vc) wr) := ⟨by simpa using hI.j, hI.low, hI.siz, hI.mt, hlp, hI.box, hI.lvl⟩
    have hn63 : n1 ≤ 9223372036854775807 := by have := HN.out.2; omega
    obtain ⟨fu', rfl⟩ : ∃ fu', fu = fu' + 1 := ⟨fu - 1, by have := HN.out.2; omega⟩
    have HFu : Hid ((ps ≠ [] → pre.map Pc.c ++ (ps.map Pc.c ++ bfsF m fu' (nextF m met (ps.map Pc.c)).1 (nextF m met (ps.map Pc.c)).2) = allC m rs) ∧ (ps = [] → pre.map Pc.c = allC m rs) ∧ (univ m rs).length + 1 ≤ pre.length + (fu' + 1)) := by
      unfold bfsF at hfu1
      refine ⟨fun h => ?_, fun h => ?_, hfu2⟩
      · rw [if_neg (by simpa using h)] at hfu1
        exact hfu1
      · subst h
        simpa using hfu1
    clear hI hk0 hlp hn1 hfu1 hfu2
    by_cases hpos : 0 < n1
    · have hposI : (n1 : Int) > 0 := by omega
      gi_wp2
      gi_loopw [21] (fun iv wr => ∃ j : Nat, j ≤ n1 ∧ iv = .int .i64 j ∧ Hid (PtJ m rs wS B b rb hx (.slice ra q rc) (.pointer hv) J pre met ps j (.slice va n1 vc) wr)) (fun iv _ => n1 - (intOf iv).toNat)
      case atStart => exact ⟨0, Nat.zero_le _, rfl, HP0⟩
      case round =>
        clear HP0
        obtain ⟨j, hj, rfl, HJr⟩ := hrel
        by_cases hlt : j < n1
        · have hltI : (j : Int) < (n1 : Int) := by omega
          have hj0 : (0 : Int) ≤ (j : Int) := by omega
          have hjp : j < ps.length := by rw [HN.out.1]; exact hlt
          obtain ⟨⟨xv, xc⟩, hx'⟩ : ∃ x, ps[j] = x := ⟨_, rfl⟩
          obtain ⟨g, rfl, cu⟩ : ∃ g, va = some ⟨g, 0, none⟩ ∧ wr.cell? ⟨g, j, none⟩ = some (.pointer xv) := by
            rcases HJr.out.lv.1.2 with ⟨_, e⟩ | ⟨g, c, cur, f1, f2, f3, f4, f5, f6, f7⟩
            · omega
            · simp only [Value.slice.injEq] at f1
              have hr := range_of_owns f3 f7 j (.pointer xv) (by rw [List.getElem?_map, List.getElem?_eq_getElem hjp, hx']; rfl)
              exact ⟨g, f1.1, by simpa using hr⟩
          have HGd : Hid (GdP m rs ⟨xv, xc⟩ wr) := by
            have h1 := HJr.out.lv.2 ps[j] (List.getElem_mem hjp)
            rw [hx'] at h1
            have h2 : Chn m rs xc := HJr.out.lvl.chn xc (List.mem_append_right _ (List.mem_map.2 ⟨ps[j], List.getElem_mem hjp, by rw [hx']⟩))
            exact ⟨h1, h2, chn_wf h2 HX.out.2.2.2.2.1 HX.out.2.2.2.2.2.1⟩
          have HSN : Hid (pre ++ ps.take (j + 1) = (pre ++ ps.take j) ++ [⟨xv, xc⟩]) := by
            show pre ++ ps.take (j + 1) = _
            rw [List.take_succ_eq_append_getElem hjp, hx', List.append_assoc]
          obtain ⟨fn, tmps, assign, body, hy, hR⟩ := HY.out (pre ++ ps.take j) ⟨xv, xc⟩ wr HJr.out.j HGd.out (by
            have h1 := HFu.out.1 (List.ne_nil_of_length_pos (by omega))
            rw [← h1, ← HSN.out, List.map_append]
            refine (List.prefix_append_right_inj _).2 ?_
            rw [List.map_take]
            exact (List.take_prefix _ _).trans (List.prefix_append _ _))
          dsimp only [encP] at hy
          clear hx' hjp
          gi_wp2
          refine hR.mono ?_
          rintro e W3 (⟨rfl, hJ3, hk3⟩ | ⟨rfl, hJx3⟩)
          · have HN3 : Hid (PtJ m rs wS B b rb hx (.slice ra q rc) (.pointer hv) J pre met ps (j + 1) (.slice (some ⟨g, 0, none⟩) n1 vc) W3) := HJr.out.kp hk3 (by rw [HSN.out]; exact hJ3) HO.out.1
            clear hJ3 hk3 hR hy cu
            gi_wp2
            go_roundw
            case rel => exact ⟨j + 1, by omega, by go_num, HN3⟩
            case measure => simp [intOf]; omega
          · gi_wp2
            refine bodyPost_ret (results_none rfl _ _ _) rfl ?_
            exact ⟨⟨_, rfl⟩, .inr ⟨_, hJx3⟩⟩
        · have hltI : ¬ (j : Int) < (n1 : Int) := by omega
          obtain rfl : j = n1 := by omega
          have htk : ps.take j = ps := List.take_of_length_le (by rw [HN.out.1]; exact Nat.le_refl _)
          have c0 : wr.cell? ⟨hx, 0, none⟩ = some (.pointer hv) := by rw [cell_of_row wr hx 0 _ 25 (0, 0) HJr.out.box.2]; rfl
          have H49 : Calls Tryz.prog 62 #[.map (some b), .pointer hv, .slice va j vc] wr fun e w' => ∃ a k c, e = .returned (.slice a k c) ∧ Hid (Fs wr w' b (q + 256 * pre.length + 256 * j) (.slice a k c) (nextF m met (ps.map Pc.c))) := by
            obtain ⟨h1, h2, h3, h4, h5, h6, h7⟩ := HX.out
            have hlv := HJr.out.lv.at
            have hmt := HJr.out.mt
            rw [h7] at hmt
            have h := f49 m (.pointer hv) met (ps.map Pc.c) b (q + 256 * pre.length) wS.heap.size va vc w0 wr h1 (h3.trans (HJr.out.low.mono hw0)) (by have := h3.size; omega) h4 h5 hmt (by rw [List.length_map, HN.out.1]; exact hlv) (fun c hc => by
              have hch := HJr.out.lvl.chn c (List.mem_append_right _ hc)
              obtain ⟨x, r, e⟩ := chn_cons hch
              exact ⟨x, r, e, chn_wf hch h5 h6 x (by rw [e]; simp)⟩) (by have := HN.out.2; rw [List.length_map, HN.out.1]; omega)
            rw [List.length_map, HN.out.1] at h
            exact h
          gi_wp2_with (refine ⟨trivial, ?_⟩; gi_at_call 62; refine (callsIn_wide.2 H49).mono ?_; rintro e w3 ⟨a3, k3, c3, rfl, HF3⟩)
          have HE : Hid (PtR m rs wS B b rb hx (.slice ra q rc) (.pointer hv) J ((univ m rs).length + 1 - (pre.length + j)) (.slice a3 k3 c3) w3) := by
            obtain ⟨f1, f2, f3, f4⟩ := HF3.out
            have hs : ItS wS.heap.size wr w3 := itS_fs HF3.out (by omega) HJr.out.siz HJr.out.mt
            have hj2 := HJr.out.j
            rw [htk] at hj2
            refine ⟨pre ++ ps, (nextF m met (ps.map Pc.c)).1, (nextF m met (ps.map Pc.c)).2, ⟨HJ.out.1 _ _ _ hj2 hs, HJr.out.low.trans (hs.l.bel.mono hBS), Nat.le_trans HJr.out.siz f3.size, ?_, f1.base HJr.out.siz, ⟨hs.l.kt.2 rb _ 23 _ (by decide) HJr.out.box.1, hs.l.kt.2 hx _ 25 _ (by decide) HJr.out.box.2⟩, by rw [List.map_append]; exact lvl_next HJr.out.lvl⟩, ?_⟩
            · rw [HX.out.2.2.2.2.2.2, List.length_append, HN.out.1]
              exact f2.mono (by omega)
            · have := HN.out
              have h3 := HFu.out
              refine ⟨by rw [List.length_append, HN.out.1]; omega, fu', ?_, by rw [List.length_append, HN.out.1]; omega⟩
              rw [List.map_append, List.append_assoc]
              exact h3.1 (List.ne_nil_of_length_pos (by rw [HN.out.1]; omega))
          clear HF3 H49 c0 htk
          gi_wp2
          go_roundw
          case rel => exact ⟨a3, k3, c3, rfl, _, HE⟩
          case measure =>
            have h1 := (leastOf_spec (p := fun k' => PtR m rs wS B b rb hx (.slice ra q rc) (.pointer hv) J k' (.slice a3 k3 c3) w3) ⟨_, HE.out⟩).2 _ HE.out
            have h2 := HL0.out
            have h3 := HN.out.2
            omega
    · have hposI : ¬ (n1 : Int) > 0 := by omega
      obtain rfl : n1 = 0 := by omega
      have HE : Hid (pre.map Pc.c = allC m rs ∧ J pre wr) := ⟨HFu.out.2.1 (List.eq_nil_of_length_eq_zero HN.out.1), HI.out.j⟩
      clear HP0 HI
      gi_wp2
      go_end0
      exact ⟨⟨_, rfl⟩, .inl ⟨pre, HE.out.1, HE.out.2⟩⟩
end Go.Proofs.YtojobiefambkoaaGreatDoor
