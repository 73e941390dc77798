/- A book of rows of numbers: how it stands while its rows are written over, grown, looked at. -/
import Derived.Test.YthomdgafaffphaaBkTBB
import Derived.WalkArith
namespace Go.Proofs.Ythomdgafaffphaa.Bk
open Go.RowKit
abbrev nilV : Value := .slice none 0 0
abbrev BookAt (w : World) (b : Nat) (bk : Array Value) : Prop := w.heap[b]? = some (.cells bk 41 (0, 0))
/-- What lies below B stays, and every block that is no row of the type e. -/
structure KB (e : TypeId) (B : Nat) (w w' : World) : Prop where
  below : Below B w w'
  keep : ∀ k, k < w.heap.size → (∀ cu fr, w.heap[k]? ≠ some (.cells cu e fr)) → w'.heap[k]? = w.heap[k]?
theorem KB.refl (e : TypeId) (B : Nat) (w : World) : KB e B w w := ⟨Below.refl _ _, fun _ _ _ => rfl⟩
theorem KB.alloc {e : TypeId} {B : Nat} {w w' : World} (h : KB e B w w') (hB : B ≤ w'.heap.size) (o : Obj) : KB e B w (w'.alloc o) :=
  ⟨h.below.alloc hB o, fun k h1 h2 => (heap_alloc_old w' o (Nat.lt_of_lt_of_le h1 h.below.size)).trans (h.keep k h1 h2)⟩
theorem KB.set {e : TypeId} {B : Nat} {w w' : World} (h : KB e B w w') {g k : Nat} (v : Value) (hg : B ≤ g) (ht : ∀ u, w'.heap[g]? = some u → ∃ cu fr, u = .cells cu e fr) : KB e B w (w'.setCell ⟨g, k, none⟩ v) := by
  refine ⟨h.below.setCell (p := ⟨g, k, none⟩) hg v, fun j h1 h2 => ?_⟩
  have h3 := h.keep j h1 h2
  refine (heap_setCell_other w' ⟨g, k, none⟩ j v (fun e1 => ?_)).trans h3
  subst e1
  obtain ⟨cu, fr, e2⟩ := ht _ (h3.trans (Array.getElem?_eq_getElem h1))
  exact h2 cu fr ((Array.getElem?_eq_getElem h1).trans (congrArg some e2))
theorem KB.grown {e : TypeId} {B : Nat} {w w' w2 : World} {row : Option Nat} (h : KB e B w w') (hg : w'.grownBy w2 row) (hB : B ≤ w'.heap.size) (hr : ∀ g, row = some g → B ≤ g) (ht : ∀ g, row = some g → w.heap.size ≤ g ∨ ∃ cu fr, w'.heap[g]? = some (.cells cu e fr)) : KB e B w w2 := by
  refine ⟨h.below.grown hg hB hr, fun k h1 h2 => ?_⟩
  have h3 := h.keep k h1 h2
  refine (hg.block k (Nat.lt_of_lt_of_le h1 h.below.size) (fun e1 => ?_)).trans h3
  rcases ht k e1.symm with h4 | ⟨cu, fr, h4⟩
  · omega
  · exact h2 cu fr (h3.symm.trans h4)
theorem KB.then {e : TypeId} {B : Nat} {w w' w2 : World} (h : KB e B w w') (hB : B ≤ w'.heap.size) (hb : Below w'.heap.size w' w2) : KB e B w w2 :=
  ⟨h.below.trans (hb.mono hB), fun k h1 h2 => (hb.block k (Nat.lt_of_lt_of_le h1 h.below.size)).trans (h.keep k h1 h2)⟩
theorem owns_typed {w : World} {B : Nat} {e : TypeId} {s n : Nat} {v : Value} {xs : List Value} (h : w.ownsRow B e s v n xs) (g : Nat) (hg : v.ownBlock = some g) : ∃ cu fr, w.heap[g]? = some (.cells cu e fr) := by
  rcases h.2 with ⟨rfl, _⟩ | ⟨g', cap, cur, rfl, h2, h3, h4⟩
  · simp [Value.ownBlock] at hg
  · simp only [Value.ownBlock, Option.some.injEq] at hg
    subst hg
    exact ⟨cur, _, h3⟩
/-- The rows up to i are written over, of row i the first k numbers. -/
structure P1 (e se : TypeId) (ik : IntKind) (mk : Nat → Int) (bk : Array Value) (w : World) (B b : Nat) (iv : Value) (vs : List Value) (ns : List Nat) (i k : Nat) : Prop where
  ne : e ≠ se ∧ e ≠ 41 ∧ se ≠ 41
  book : BookAt w b bk
  hb : B ≤ b
  row : w.ownsRow B se 1 iv ns.length vs
  done : ∀ (j : Nat) (v : Value) (n : Nat), j < i → vs[j]? = some v → ns[j]? = some n → OwnZ w B e ik v (List.replicate n (mk j))
  mid : ∀ (v : Value) (n : Nat), vs[i]? = some v → ns[i]? = some n → ∃ ys : List Int, k + ys.length = n ∧ OwnZ w B e ik v (List.replicate k (mk i) ++ ys)
  rest : ∀ (j : Nat) (v : Value) (n : Nat), i < j → vs[j]? = some v → ns[j]? = some n → ∃ zs : List Int, zs.length = n ∧ OwnZ w B e ik v zs
  apart : ∀ (j j' : Nat) (v v' : Value) (g : Nat), j ≠ j' → vs[j]? = some v → vs[j']? = some v' → v.ownBlock = some g → v'.ownBlock ≠ some g
theorem book_apart {e : TypeId} {ik : IntKind} {bk : Array Value} (hd : e ≠ 41) {w : World} {b base : Nat} {v : Value} {zs : List Int} (hb : BookAt w b bk) (h : OwnZ w base e ik v zs) (g : Nat) (hg : v.ownBlock = some g) : g ≠ b := by
  rintro rfl
  rcases h.1.2 with ⟨h1, _⟩ | ⟨g', c, cur, h1, _, h3, _⟩
  · rw [h1] at hg; cases hg
  · rw [h1] at hg
    simp only [Value.ownBlock, Option.some.injEq] at hg
    subst hg
    rw [hb] at h3
    simp only [Option.some.injEq, Obj.cells.injEq] at h3
    exact hd h3.2.1.symm
theorem book_apartR {se : TypeId} {bk : Array Value} (hd : se ≠ 41) {w : World} {b base n : Nat} {v : Value} {xs : List Value} (hb : BookAt w b bk) (h : w.ownsRow base se 1 v n xs) (g : Nat) (hg : v.ownBlock = some g) : g ≠ b := by
  rintro rfl
  rcases h.2 with ⟨h1, _⟩ | ⟨g', c, cur, h1, _, h3, _⟩
  · rw [h1] at hg; cases hg
  · rw [h1] at hg
    simp only [Value.ownBlock, Option.some.injEq] at hg
    subst hg
    rw [hb] at h3
    simp only [Option.some.injEq, Obj.cells.injEq] at h3
    exact hd h3.2.1.symm
theorem P1.at {e se : TypeId} {ik : IntKind} {mk : Nat → Int} {bk : Array Value} {w : World} {B b : Nat} {iv : Value} {vs : List Value} {ns : List Nat} {i k : Nat} (h : P1 e se ik mk bk w B b iv vs ns i k) (j : Nat) (hj : j < ns.length) : ∃ g cap v, iv = .slice (some ⟨g, 0, none⟩) ns.length cap ∧ vs[j]? = some v ∧ w.cell? ⟨g, j, none⟩ = some v := by
  have hl : vs.length = ns.length := by have := h.row.1; omega
  rcases h.row.2 with ⟨_, h2⟩ | ⟨g, c, cur, h1, h2, h3, h4, h5, h6, h7⟩
  · omega
  · have hv : j < vs.length := by omega
    refine ⟨g, c, vs[j], h1, List.getElem?_eq_getElem hv, ?_⟩
    rw [cell_of_row w g j cur se (0, 0) h3]
    have : (cur.toList.take (ns.length * 1))[j]? = some vs[j] := by rw [h7]; exact List.getElem?_eq_getElem hv
    rw [List.getElem?_take_of_lt (by omega)] at this
    simpa using this
theorem P1.write {e se : TypeId} {ik : IntKind} {mk : Nat → Int} {bk : Array Value} {w : World} {B b : Nat} {iv : Value} {vs : List Value} {ns : List Nat} {i k n : Nat} {v : Value} (h : P1 e se ik mk bk w B b iv vs ns i k) (hv : vs[i]? = some v) (hn : ns[i]? = some n) (hk : k < n) (hw : WfZ ik (mk i) = true) :
    ∃ g cap y, v = .slice (some ⟨g, 0, none⟩) n cap ∧ B ≤ g ∧ w.cell? ⟨g, k, none⟩ = some (.int ik y) ∧ w.frozen? ⟨g, k, none⟩ = false ∧ (∃ cu fr, w.heap[g]? = some (.cells cu e fr)) ∧ P1 e se ik mk bk (w.setCell ⟨g, k, none⟩ (.int ik (mk i))) B b iv vs ns i (k + 1) := by
  obtain ⟨ys, h1, h2⟩ := h.mid v n hv hn
  match ys, h1, h2 with
  | [], h1, _ => simp at h1; omega
  | y :: ys, h1, h2 =>
    obtain ⟨g, cap, e1, e2, e3, e4, e5, e6⟩ := ints_write h2 hw
    simp only [List.length_cons] at h1
    rw [h1] at e1
    have hvg : v.ownBlock = some g := by rw [e1]; rfl
    have hoth : ∀ {base e' s m : Nat} {r : Value} {xs : List Value}, w.ownsRow base e' s r m xs → r.ownBlock ≠ some g → (w.setCell ⟨g, k, none⟩ (.int ik (mk i))).ownsRow base e' s r m xs := fun ho hne =>
      owns_eq ho fun g' hg' => heap_setCell_other w ⟨g, k, none⟩ g' _ (fun e => hne (by rw [hg']; exact congrArg some e))
    refine ⟨g, cap, y, e1, e2, e4, e5, owns_typed h2.1 g hvg, ?_⟩
    refine ⟨h.ne, ?_, h.hb, ?_, ?_, ?_, ?_, h.apart⟩
    · exact (heap_setCell_other w ⟨g, k, none⟩ b _ (fun e => book_apart h.ne.2.1 h.book h2 g hvg e.symm)).trans h.book
    · exact hoth h.row (types_apart h2.1 h.row h.ne.1 g hvg)
    · intro j v' n' hj hv' hn'
      have h5 := h.done j v' n' hj hv' hn'
      exact ⟨hoth h5.1 (h.apart i j v v' g (by omega) hv hv' hvg), h5.2⟩
    · intro v' n' hv' hn'
      rw [hv] at hv'; cases hv'
      rw [hn] at hn'; cases hn'
      exact ⟨ys, by omega, e6⟩
    · intro j v' n' hj hv' hn'
      obtain ⟨zs, h5, h6⟩ := h.rest j v' n' hj hv' hn'
      exact ⟨zs, h5, hoth h6.1 (h.apart i j v v' g (by omega) hv hv' hvg), h6.2⟩
theorem P1.next {e se : TypeId} {ik : IntKind} {mk : Nat → Int} {bk : Array Value} {w : World} {B b : Nat} {iv : Value} {vs : List Value} {ns : List Nat} {i n : Nat} (h : P1 e se ik mk bk w B b iv vs ns i n) (hn : ns[i]? = some n) : P1 e se ik mk bk w B b iv vs ns (i + 1) 0 := by
  refine ⟨h.ne, h.book, h.hb, h.row, ?_, ?_, ?_, h.apart⟩
  · intro j v m hj hv hm
    by_cases e : j = i
    · subst e
      rw [hn] at hm; cases hm
      obtain ⟨ys, h1, h2⟩ := h.mid v n hv hn
      have : ys = [] := List.eq_nil_of_length_eq_zero (by omega)
      subst this
      simpa using h2
    · exact h.done j v m (by omega) hv hm
  · intro v m hv hm
    obtain ⟨zs, h1, h2⟩ := h.rest (i + 1) v m (by omega) hv hm
    exact ⟨zs, by omega, by simpa using h2⟩
  · intro j v m hj hv hm
    exact h.rest j v m (by omega) hv hm
/-- The rows up to i are grown. -/
structure P2 (e se : TypeId) (ik : IntKind) (mk : Nat → Int) (bk : Array Value) (w0 w : World) (B b : Nat) (iv allv : Value) (vs us : List Value) (ns : List Nat) (i : Nat) : Prop where
  ne : e ≠ se ∧ e ≠ 41 ∧ se ≠ 41
  book : BookAt w b bk
  hb : B ≤ b
  row : w.ownsRow B se 1 iv ns.length vs
  size : w0.heap.size ≤ w.heap.size
  all : w.ownsRow w0.heap.size se 1 allv i us
  grown : ∀ (j : Nat) (u : Value) (n : Nat), us[j]? = some u → ns[j]? = some n → OwnZ w B e ik u (List.replicate (n + 20) (mk j))
  upart : ∀ (j j' : Nat) (u u' : Value) (g : Nat), j ≠ j' → us[j]? = some u → us[j']? = some u' → u.ownBlock = some g → u'.ownBlock ≠ some g
  loc : ∀ (j : Nat) (u v : Value) (g : Nat), us[j]? = some u → vs[j]? = some v → u.ownBlock = some g → v.ownBlock = some g ∨ w0.heap.size ≤ g
  read : ∀ (j : Nat) (v : Value) (n : Nat), j < i → vs[j]? = some v → ns[j]? = some n → RdI ik w v n (mk j)
  rest : ∀ (j : Nat) (v : Value) (n : Nat), i ≤ j → vs[j]? = some v → ns[j]? = some n → OwnZ w B e ik v (List.replicate n (mk j))
  apart : ∀ (j j' : Nat) (v v' : Value) (g : Nat), j ≠ j' → vs[j]? = some v → vs[j']? = some v' → v.ownBlock = some g → v'.ownBlock ≠ some g
  low : ∀ (j : Nat) (v : Value) (g : Nat), vs[j]? = some v → v.ownBlock = some g → g < w0.heap.size
  ilow : ∀ g, iv.ownBlock = some g → g < w0.heap.size
/-- .. and row i by k places: gv. -/
structure P3 (e se : TypeId) (ik : IntKind) (mk : Nat → Int) (bk : Array Value) (w0 w : World) (B b : Nat) (iv allv gv v : Value) (vs us : List Value) (ns : List Nat) (i n k : Nat) : Prop where
  ne : e ≠ se ∧ e ≠ 41 ∧ se ≠ 41
  book : BookAt w b bk
  hb : B ≤ b
  row : w.ownsRow B se 1 iv ns.length vs
  size : w0.heap.size ≤ w.heap.size
  all : w.ownsRow w0.heap.size se 1 allv i us
  grown : ∀ (j : Nat) (u : Value) (n : Nat), us[j]? = some u → ns[j]? = some n → OwnZ w B e ik u (List.replicate (n + 20) (mk j))
  upart : ∀ (j j' : Nat) (u u' : Value) (g : Nat), j ≠ j' → us[j]? = some u → us[j']? = some u' → u.ownBlock = some g → u'.ownBlock ≠ some g
  loc : ∀ (j : Nat) (u v : Value) (g : Nat), us[j]? = some u → vs[j]? = some v → u.ownBlock = some g → v.ownBlock = some g ∨ w0.heap.size ≤ g
  read : ∀ (j : Nat) (v : Value) (n : Nat), j < i → vs[j]? = some v → ns[j]? = some n → RdI ik w v n (mk j)
  rest : ∀ (j : Nat) (v : Value) (n : Nat), i < j → vs[j]? = some v → ns[j]? = some n → OwnZ w B e ik v (List.replicate n (mk j))
  apart : ∀ (j j' : Nat) (v v' : Value) (g : Nat), j ≠ j' → vs[j]? = some v → vs[j']? = some v' → v.ownBlock = some g → v'.ownBlock ≠ some g
  low : ∀ (j : Nat) (v : Value) (g : Nat), vs[j]? = some v → v.ownBlock = some g → g < w0.heap.size
  ilow : ∀ g, iv.ownBlock = some g → g < w0.heap.size
  hv : vs[i]? = some v
  hn : ns[i]? = some n
  own : OwnZ w B e ik gv (List.replicate (n + k) (mk i))
  gloc : ∀ g, gv.ownBlock = some g → v.ownBlock = some g ∨ w0.heap.size ≤ g
  gpart : ∀ (j : Nat) (u : Value) (g : Nat), us[j]? = some u → gv.ownBlock = some g → u.ownBlock ≠ some g
  mid : RdI ik w v n (mk i)
theorem P1.to2 {e se : TypeId} {ik : IntKind} {mk : Nat → Int} {bk : Array Value} {w : World} {B b : Nat} {iv : Value} {vs : List Value} {ns : List Nat} (h : P1 e se ik mk bk w B b iv vs ns ns.length 0) : P2 e se ik mk bk w w B b iv nilV vs [] ns 0 := by
  have hl : vs.length = ns.length := by have := h.row.1; omega
  have hall : ∀ (j : Nat) (v : Value) (n : Nat), vs[j]? = some v → ns[j]? = some n → OwnZ w B e ik v (List.replicate n (mk j)) := fun j v n hv hn => h.done j v n (List.getElem?_eq_some_iff.1 hn).1 hv hn
  refine ⟨h.ne, h.book, h.hb, h.row, Nat.le_refl _, World.ownsRow_nil _ _ _ _, by simp, by simp, by simp, fun j v n hj => by omega, fun j v n _ hv hn => hall j v n hv hn, h.apart, ?_, fun g hg => (h.row.lt g hg).2⟩
  intro j v g hv hg
  have hj : j < ns.length := by rw [← hl]; exact (List.getElem?_eq_some_iff.1 hv).1
  exact ((hall j v _ hv (List.getElem?_eq_getElem hj)).1.lt g hg).2
theorem P2.start {e se : TypeId} {ik : IntKind} {mk : Nat → Int} {bk : Array Value} {w0 w : World} {B b : Nat} {iv allv : Value} {vs us : List Value} {ns : List Nat} {i n : Nat} {v : Value} (h : P2 e se ik mk bk w0 w B b iv allv vs us ns i) (hv : vs[i]? = some v) (hn : ns[i]? = some n) : P3 e se ik mk bk w0 w B b iv allv v v vs us ns i n 0 := by
  have hu : us.length = i := by have := h.all.1; omega
  refine ⟨h.ne, h.book, h.hb, h.row, h.size, h.all, h.grown, h.upart, h.loc, h.read, fun j v n hj => h.rest j v n (by omega), h.apart, h.low, h.ilow, hv, hn, h.rest i v n (Nat.le_refl _) hv hn, fun g hg => .inl hg, ?_, ?_⟩
  · intro j u g hu' hg hug
    have hj : j < i := by rw [← hu]; exact (List.getElem?_eq_some_iff.1 hu').1
    have hl : vs.length = ns.length := by have := h.row.1; omega
    have hi : i < vs.length := (List.getElem?_eq_some_iff.1 hv).1
    have hvj : vs[j]? = some vs[j] := List.getElem?_eq_getElem (by omega)
    rcases h.loc j u vs[j] g hu' hvj hug with e | e
    · exact h.apart i j v vs[j] g (by omega) hv hvj hg e
    · have := h.low i v g hv hg
      omega
  · have ho := h.rest i v n (Nat.le_refl _) hv hn
    obtain ⟨ad, cap, e⟩ := ints_form ho
    rw [List.length_replicate] at e
    refine rd_of ho (Nat.le_refl _) ad cap e ?_
    rcases ho.1.2 with ⟨h1, h2⟩ | ⟨g, c, cur, h1, _⟩
    · left; simpa using h2
    · right
      rw [h1] at e
      simp only [Value.slice.injEq] at e
      exact ⟨g, e.1.symm, by rw [h1]; rfl⟩
/-- All blocks stay. -/
theorem P3.eq {e se : TypeId} {ik : IntKind} {mk : Nat → Int} {bk : Array Value} {w0 w w' : World} {B b : Nat} {iv allv gv v : Value} {vs us : List Value} {ns : List Nat} {i n k : Nat} (h : P3 e se ik mk bk w0 w B b iv allv gv v vs us ns i n k) (hb : Below w.heap.size w w') : P3 e se ik mk bk w0 w' B b iv allv gv v vs us ns i n k := by
  have ho : ∀ {base e' s m : Nat} {r : Value} {xs : List Value}, w.ownsRow base e' s r m xs → w'.ownsRow base e' s r m xs := fun ho => owns_eq ho fun g hg => hb.block g (ho.lt g hg).2
  have hi : ∀ {base : Nat} {r : Value} {zs : List Int}, OwnZ w base e ik r zs → OwnZ w' base e ik r zs := fun h => ⟨ho h.1, h.2⟩
  have hr : ∀ {r : Value} {m : Nat} {x : Int}, RdI ik w r m x → RdI ik w' r m x := fun {r m x} h => by
    obtain ⟨ad, cap, rfl, h | ⟨g, rfl, h1, h2⟩⟩ := h
    · exact ⟨ad, cap, rfl, .inl h⟩
    · exact RdI.eq ⟨_, cap, rfl, .inr ⟨g, rfl, h1, h2⟩⟩ hb.size (fun g' hg' => by cases hg'; exact hb.block g h1)
  exact ⟨h.ne, (hb.block b (Array.getElem?_eq_some_iff.1 h.book).1).trans h.book, h.hb, ho h.row, Nat.le_trans h.size hb.size, ho h.all, fun j u n h1 h2 => hi (h.grown j u n h1 h2), h.upart, h.loc, fun j v n h1 h2 h3 => hr (h.read j v n h1 h2 h3), fun j v n h1 h2 h3 => hi (h.rest j v n h1 h2 h3), h.apart, h.low, h.ilow, h.hv, h.hn, hi h.own, h.gloc, h.gpart, hr h.mid⟩
theorem P2.eq {e se : TypeId} {ik : IntKind} {mk : Nat → Int} {bk : Array Value} {w0 w w' : World} {B b : Nat} {iv allv : Value} {vs us : List Value} {ns : List Nat} {i : Nat} (h : P2 e se ik mk bk w0 w B b iv allv vs us ns i) (hb : Below w.heap.size w w') : P2 e se ik mk bk w0 w' B b iv allv vs us ns i := by
  have ho : ∀ {base e' s m : Nat} {r : Value} {xs : List Value}, w.ownsRow base e' s r m xs → w'.ownsRow base e' s r m xs := fun ho => owns_eq ho fun g hg => hb.block g (ho.lt g hg).2
  have hi : ∀ {base : Nat} {r : Value} {zs : List Int}, OwnZ w base e ik r zs → OwnZ w' base e ik r zs := fun h => ⟨ho h.1, h.2⟩
  have hr : ∀ {r : Value} {m : Nat} {x : Int}, RdI ik w r m x → RdI ik w' r m x := fun {r m x} h => by
    obtain ⟨ad, cap, rfl, h | ⟨g, rfl, h1, h2⟩⟩ := h
    · exact ⟨ad, cap, rfl, .inl h⟩
    · exact RdI.eq ⟨_, cap, rfl, .inr ⟨g, rfl, h1, h2⟩⟩ hb.size (fun g' hg' => by cases hg'; exact hb.block g h1)
  exact ⟨h.ne, (hb.block b (Array.getElem?_eq_some_iff.1 h.book).1).trans h.book, h.hb, ho h.row, Nat.le_trans h.size hb.size, ho h.all, fun j u n h1 h2 => hi (h.grown j u n h1 h2), h.upart, h.loc, fun j v n h1 h2 h3 => hr (h.read j v n h1 h2 h3), fun j v n h1 h2 h3 => hi (h.rest j v n h1 h2 h3), h.apart, h.low, h.ilow⟩
/-- One number more. -/
theorem P3.step {e se : TypeId} {ik : IntKind} {mk : Nat → Int} {bk : Array Value} {w0 w w' : World} {B b : Nat} {iv allv gv gv' v : Value} {vs us : List Value} {ns : List Nat} {i n k : Nat} (h : P3 e se ik mk bk w0 w B b iv allv gv v vs us ns i n k) (hown : OwnZ w' B e ik gv' (List.replicate (n + (k + 1)) (mk i))) (hgr : w.grownBy w' gv.ownBlock) (hloc : gv'.ownBlock = gv.ownBlock ∨ (gv'.ownBlock = some w.heap.size ∧ w.grownBy w' none)) : P3 e se ik mk bk w0 w' B b iv allv gv' v vs us ns i n (k + 1) := by
  have hblk : ∀ g, g < w.heap.size → gv.ownBlock ≠ some g → w'.heap[g]? = w.heap[g]? := fun g h1 h2 => hgr.block g h1 (fun e => h2 e.symm)
  have ho : ∀ {base e' s m : Nat} {r : Value} {xs : List Value}, w.ownsRow base e' s r m xs → (∀ g, gv.ownBlock = some g → r.ownBlock ≠ some g) → w'.ownsRow base e' s r m xs := fun {base e' s m r xs} ho hne => owns_eq ho fun g hg => hblk g (ho.lt g hg).2 (fun e => hne g e hg)
  have hvj : ∀ (j : Nat) (x : Value), j ≠ i → vs[j]? = some x → ∀ g, gv.ownBlock = some g → x.ownBlock ≠ some g := by
    intro j x hj hx g hg hxg
    rcases h.gloc g hg with e | e
    · exact h.apart i j v x g (fun e => hj e.symm) h.hv hx e hxg
    · have := h.low j x g hx hxg
      omega
  refine ⟨h.ne, ?_, h.hb, ?_, Nat.le_trans h.size hgr.size, ?_, ?_, h.upart, h.loc, ?_, ?_, h.apart, h.low, h.ilow, h.hv, h.hn, hown, ?_, ?_, ?_⟩
  · exact (hblk b (Array.getElem?_eq_some_iff.1 h.book).1 (fun e => book_apart h.ne.2.1 h.book h.own b e rfl)).trans h.book
  · exact ho h.row (fun g hg => types_apart h.own.1 h.row h.ne.1 g hg)
  · exact ho h.all (fun g hg => types_apart h.own.1 h.all h.ne.1 g hg)
  · intro j u m hu hm
    have h5 := h.grown j u m hu hm
    exact ⟨ho h5.1 (fun g hg => h.gpart j u g hu hg), h5.2⟩
  · intro j x m hj hx hm
    refine (h.read j x m hj hx hm).eq hgr.size fun g hg => ?_
    have hlt := h.low j x g hx hg
    exact hblk g (Nat.lt_of_lt_of_le hlt h.size) (fun e => hvj j x (by omega) hx g e hg)
  · intro j x m hj hx hm
    have h5 := h.rest j x m hj hx hm
    exact ⟨ho h5.1 (fun g hg => hvj j x (by omega) hx g hg), h5.2⟩
  · intro g hg
    rcases hloc with e | ⟨e, _⟩
    · exact h.gloc g (by rw [← e]; exact hg)
    · rw [e] at hg
      cases hg
      exact .inr h.size
  · intro j u g hu hg
    rcases hloc with e | ⟨e, _⟩
    · exact h.gpart j u g hu (by rw [← e]; exact hg)
    · rw [e] at hg
      cases hg
      intro hug
      have hj : j < ns.length := by
        have h1 := h.all.1
        have h2 := (List.getElem?_eq_some_iff.1 hu).1
        have h3 := (List.getElem?_eq_some_iff.1 h.hn).1
        omega
      have := ((h.grown j u _ hu (List.getElem?_eq_getElem hj)).1.lt _ hug).2
      omega
  · obtain ⟨ad, cap, hvf, hm⟩ := h.mid
    rcases hm with hm | ⟨g, e1, e2, e3⟩
    · exact ⟨ad, cap, hvf, .inl hm⟩
    · have hvg : v.ownBlock = some g := by rw [hvf, e1]; rfl
      have hsame : w'.heap[g]? = w.heap[g]? → RdI ik w' v n (mk i) := fun hh =>
        RdI.eq ⟨ad, cap, hvf, .inr ⟨g, e1, e2, e3⟩⟩ hgr.size (fun g' hg' => by rw [hvg] at hg'; cases hg'; exact hh)
      by_cases hg : gv.ownBlock = some g
      · rcases hloc with e | ⟨_, hn⟩
        · exact rd_of hown (by omega) ad cap hvf (.inr ⟨g, e1, by rw [e]; exact hg⟩)
        · exact hsame (hn.block g e2 (by simp))
      · exact hsame (hblk g e2 hg)
/-- The row is put behind the others. -/
theorem P3.put {e se : TypeId} {ik : IntKind} {mk : Nat → Int} {bk : Array Value} {w0 w w' : World} {B b : Nat} {iv allv allv' gv v : Value} {vs us : List Value} {ns : List Nat} {i n : Nat} (h : P3 e se ik mk bk w0 w B b iv allv gv v vs us ns i n 20) (hown : w'.ownsRow w0.heap.size se 1 allv' (i + 1) (us ++ [gv])) (hgr : w.grownBy w' allv.ownBlock) : P2 e se ik mk bk w0 w' B b iv allv' vs (us ++ [gv]) ns (i + 1) := by
  have hul : us.length = i := by have := h.all.1; omega
  have hblk : ∀ g, g < w.heap.size → allv.ownBlock ≠ some g → w'.heap[g]? = w.heap[g]? := fun g h1 h2 => hgr.block g h1 (fun e => h2 e.symm)
  have hi : ∀ {r : Value} {zs : List Int}, OwnZ w B e ik r zs → OwnZ w' B e ik r zs := fun {r zs} hh => ints_eq hh fun g hg => hblk g (hh.1.lt g hg).2 (types_apart hh.1 h.all h.ne.1 g hg)
  have hlow : ∀ g, g < w0.heap.size → w'.heap[g]? = w.heap[g]? := fun g hg => hblk g (Nat.lt_of_lt_of_le hg h.size) (fun e => by have := (h.all.lt g e).1; omega)
  have hget : ∀ (j : Nat) (u : Value), (us ++ [gv])[j]? = some u → (j < i ∧ us[j]? = some u) ∨ (j = i ∧ u = gv) := by
    intro j u hu
    by_cases hj : j < i
    · rw [List.getElem?_append_left (by omega)] at hu
      exact .inl ⟨hj, hu⟩
    · rw [List.getElem?_append_right (by omega)] at hu
      have h0 : j - us.length = 0 := by
        have := (List.getElem?_eq_some_iff.1 hu).1
        simp at this; omega
      rw [h0] at hu
      simp at hu
      exact .inr ⟨by omega, hu.symm⟩
  refine ⟨h.ne, ?_, h.hb, ?_, Nat.le_trans h.size hgr.size, hown, ?_, ?_, ?_, ?_, ?_, h.apart, h.low, h.ilow⟩
  · exact (hblk b (Array.getElem?_eq_some_iff.1 h.book).1 (fun e => book_apartR h.ne.2.2 h.book h.all b e rfl)).trans h.book
  · exact owns_eq h.row fun g hg => hlow g (h.ilow g hg)
  · intro j u m hu hm
    rcases hget j u hu with ⟨_, hu⟩ | ⟨rfl, rfl⟩
    · exact hi (h.grown j u m hu hm)
    · rw [h.hn] at hm; cases hm
      exact hi h.own
  · intro j j' u u' g hne hu hu' hg
    rcases hget j u hu with ⟨_, hu1⟩ | ⟨hj, e1⟩
    · rcases hget j' u' hu' with ⟨_, hu2⟩ | ⟨_, e2⟩
      · exact h.upart j j' u u' g hne hu1 hu2 hg
      · rw [e2]
        exact fun e => h.gpart j u g hu1 e hg
    · rcases hget j' u' hu' with ⟨_, hu2⟩ | ⟨hj', _⟩
      · exact h.gpart j' u' g hu2 (by rw [← e1]; exact hg)
      · exact absurd (hj.trans hj'.symm) hne
  · intro j u x g hu hx hg
    rcases hget j u hu with ⟨_, hu⟩ | ⟨rfl, rfl⟩
    · exact h.loc j u x g hu hx hg
    · rw [h.hv] at hx; cases hx
      exact h.gloc g hg
  · intro j x m hj hx hm
    have hr : RdI ik w x m (mk j) := by
      by_cases e : j = i
      · subst e
        rw [h.hv] at hx; cases hx
        rw [h.hn] at hm; cases hm
        exact h.mid
      · exact h.read j x m (by omega) hx hm
    exact hr.eq hgr.size fun g hg => hlow g (h.low j x g hx hg)
  · intro j x m hj hx hm
    exact hi (h.rest j x m (by omega) hx hm)
end Go.Proofs.Ythomdgafaffphaa.Bk
