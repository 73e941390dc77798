/- Contract of the reference Equal: for every two terms it says whether they have the same cells. Contracts of the reference Right, one, OfInt, OfAtom, OfVar. Contract of the reference SameTerms. Contracts of lent and rows: a term, a row of terms in memory of their own. Contract of Put: for every term and row of locals it returns the term with them put in, or its error. Rows of names in memory; the reference HasName, SameNames. The reference Vars, VarsOf, Global. -/
import Derived.Test.YteikdgjlhdgapaaDoorQ10
import Derived.Deep.RegionHeld3
import Derived.Deep.DrawnRows
import Derived.Test.YteikdgjlhdgapaaDoorQ12
import Derived.Test.YteikdgjlhdgapaaDoorQ13
namespace Go.Proofs.YteikdgjlhdgapaaDoor
open Go.RowKit
attribute [local go_sem ↓] Go.wp_at_zero Go.wp_at_succ
set_option maxHeartbeats 1000000 in
theorem neq60 (k : Int) (t : ByteArray) (n vn vk : Int) (k' : Int) (t' : ByteArray) (n' vn' vk' : Int) (w : World) :
    (binOp .neq 54 (.agg #[.int .u8 k, .string t, .int .i64 n, .int .i64 vn, .int .i64 vk]) (.agg #[.int .u8 k', .string t', .int .i64 n', .int .i64 vn', .int .i64 vk'])).run Tryd.prog w = .ok (.bool (!eqCells k t n vn vk k' t' n' vn' vk')) w := by
  unfold eqCells
  cases h1 : (k == k') <;> cases h2 : (t.toList == t'.toList) <;> cases h3 : (n == n') <;> cases h4 : (vn == vn') <;> cases h5 : (vk == vk') <;> go_simp
def eqC (c d : C) : Bool := eqCells c.k c.t c.n c.vn c.vk d.k d.t d.n d.vn d.vk
def eqUpto (l m : List C) (k : Nat) : Prop := ∀ j, j < k → ∀ (h1 : j < l.length) (h2 : j < m.length), eqC l[j] m[j] = true
def eqT (l m : List C) : Bool := decide (l.length = m.length) && (l.zip m).all (fun p => eqC p.1 p.2)
theorem eqT_len {l m : List C} (h : ¬ l.length = m.length) : eqT l m = false := by simp [eqT, h]
theorem eqT_true {l m : List C} (h : l.length = m.length) (hu : eqUpto l m l.length) : eqT l m = true := by
  simp only [eqT, h, decide_true, Bool.true_and, List.all_eq_true]
  intro p hp
  obtain ⟨j, hj, rfl⟩ := List.getElem_of_mem hp
  simp at hj
  simpa using hu j (by omega) (by omega) (by omega)
theorem eqT_false {l m : List C} (j : Nat) (h1 : j < l.length) (h2 : j < m.length) (h : eqC l[j] m[j] = false) : eqT l m = false := by
  unfold eqT
  have : (l.zip m).all (fun p => eqC p.1 p.2) = false := by
    rw [List.all_eq_false]
    exact ⟨(l.zip m)[j]'(by simp; omega), List.getElem_mem _, by simp [h]⟩
  rw [this]; simp
theorem eqC_refl (c : C) : eqC c c = true := by simp [eqC, eqCells]
theorem eqT_refl (l : List C) : eqT l l = true := eqT_true rfl (fun j _ h1 _ => eqC_refl l[j])
end Go.Proofs.YteikdgjlhdgapaaDoor
namespace Go.Proofs.YteikdgjlhdgapaaDoor
open Go.RowKit
theorem right_one (c : C) (hk : c.k ≠ 3) : rightB [c] = c.ok := by
  have ha : argsOf c.k c.n = 0 := by unfold argsOf; rw [if_neg hk]
  have h : endS [c] 0 = 1 := by simp [endS, endF, ha]
  unfold rightB cellsB
  rw [h]
  simp
end Go.Proofs.YteikdgjlhdgapaaDoor
namespace Go.Proofs.YteikdgjlhdgapaaDoor
open Go.RowKit
attribute [local go_sem ↓] Go.wp_at_zero Go.wp_at_succ
def sameUpto (l m : List (List C)) (k : Nat) : Prop := ∀ j, j < k → ∀ (h1 : j < l.length) (h2 : j < m.length), eqT l[j] m[j] = true
def sameR (l m : List (List C)) : Bool := decide (l.length = m.length) && (l.zip m).all (fun p => eqT p.1 p.2)
theorem sameR_len {l m : List (List C)} (h : ¬ l.length = m.length) : sameR l m = false := by simp [sameR, h]
theorem sameR_true {l m : List (List C)} (h : l.length = m.length) (hu : sameUpto l m l.length) : sameR l m = true := by
  simp only [sameR, h, decide_true, Bool.true_and, List.all_eq_true]
  intro p hp
  obtain ⟨j, hj, rfl⟩ := List.getElem_of_mem hp
  simp at hj
  simpa using hu j (by omega) (by omega) (by omega)
theorem sameR_false {l m : List (List C)} (j : Nat) (h1 : j < l.length) (h2 : j < m.length) (h : eqT l[j] m[j] = false) : sameR l m = false := by
  unfold sameR
  have : (l.zip m).all (fun p => eqT p.1 p.2) = false := by
    rw [List.all_eq_false]
    exact ⟨(l.zip m)[j]'(by simp; omega), List.getElem_mem _, by simp [h]⟩
  rw [this]; simp
theorem sameR_refl (l : List (List C)) : sameR l l = true := sameR_true rfl (fun j _ h1 _ => eqT_refl l[j])
abbrev TwS (w : World) (b1 o1 b2 o2 : Nat) (u1 u2 : Value) (w' : World) : Prop :=
  w'.cell? ⟨b1, o1, none⟩ = some u1 ∧ w'.cell? ⟨b2, o2, none⟩ = some u2 ∧ Hid (Below w.heap.size w w' ∧ b1 < w.heap.size ∧ b2 < w.heap.size)
theorem twS_drew {w : World} {b1 o1 b2 o2 : Nat} {u1 u2 : Value} {w' : World} (h : TwS w b1 o1 b2 o2 u1 u2 w') : TwS w b1 o1 b2 o2 u1 u2 w'.drew :=
  ⟨by simpa using h.1, by simpa using h.2.1, h.2.2.out.1.drew, h.2.2.out.2⟩
theorem twS_below {w : World} {b1 o1 b2 o2 : Nat} {u1 u2 : Value} {w' w'' : World} (h : TwS w b1 o1 b2 o2 u1 u2 w') (hb : Below w'.heap.size w' w'') : TwS w b1 o1 b2 o2 u1 u2 w'' := by
  have h9 := h.2.2.out
  have hz := h9.1.size
  exact ⟨(hb.cell (p := ⟨_, _, none⟩) (Nat.lt_of_lt_of_le h9.2.1 hz)).trans h.1, (hb.cell (p := ⟨_, _, none⟩) (Nat.lt_of_lt_of_le h9.2.2 hz)).trans h.2.1, h9.1.trans (hb.mono hz), h9.2⟩
theorem twS_hb {w : World} {b1 o1 b2 o2 : Nat} {u1 u2 : Value} {w' : World} (h : TwS w b1 o1 b2 o2 u1 u2 w') : Below w.heap.size w w' := h.2.2.out.1
end Go.Proofs.YteikdgjlhdgapaaDoor
namespace Go.Proofs.YteikdgjlhdgapaaDoor
open Go.RowKit
def OwnT (w : World) (base : Nat) (u : Value) (l : List C) : Prop := w.ownsRow base 54 5 u l.length (flat l)
theorem ownT_term {w : World} {base : Nat} {u : Value} {l : List C} (h : OwnT w base u l) (hl : l.length ≤ maxLen) (ht : ∀ c ∈ l, c.t.size ≤ maxLen) : TermAt w u l := termAt_of_owns h hl ht
theorem ownT_below {w w' : World} {base : Nat} {u : Value} {l : List C} (h : OwnT w base u l) (hb : Below w.heap.size w w') : OwnT w' base u l := by
  refine ⟨h.1, ?_⟩
  rcases h.2 with hn | ⟨g, cap, cur, h1, h2, h3, h4⟩
  · exact Or.inl hn
  · exact Or.inr ⟨g, cap, cur, h1, h2, (hb.block g (Array.getElem?_eq_some_iff.1 h3).1).trans h3, h4⟩
/-- A term of its own lies in another block than a row of terms. -/
theorem ownT_far {w : World} {base base' : Nat} {u v : Value} {l : List C} {n : Nat} {xs : List Value} (h : OwnT w base u l) (h' : w.ownsRow base' 25 1 v n xs) : u.ownBlock = none ∨ u.ownBlock ≠ v.ownBlock := by
  rcases h.2 with ⟨rfl, _⟩ | ⟨g, cap, cur, rfl, _, h3, _⟩
  · exact Or.inl rfl
  · right
    rcases h'.2 with ⟨rfl, _⟩ | ⟨g', cap', cur', rfl, _, h3', _⟩
    · simp [Value.ownBlock]
    · intro e
      simp [Value.ownBlock] at e
      subst e
      rw [h3] at h3'
      simp at h3'
end Go.Proofs.YteikdgjlhdgapaaDoor
namespace Go.Proofs.YteikdgjlhdgapaaDoor
open Go.RowKit Go.Shelf
def isLoc (c : C) : Bool := c.k == 4 && c.vn == -1
def putC (ls : List (List C)) (c : C) : List C := if isLoc c then ls[c.vk.toNat]?.getD [] else [c]
def putL (ls : List (List C)) (l : List C) : List C := l.flatMap (putC ls)
def putE (l : List C) (ls : List (List C)) : Int := if rightB l && localsB ls then (if lacksB l ls then 4 else if (256 : Int) < ((putL ls l).length : Int) then 5 else 0) else 6
def putT (l : List C) (ls : List (List C)) : List C := if putE l ls = 0 then putL ls l else []
theorem put_snoc (ls : List (List C)) (l : List C) (k : Nat) (hk : k < l.length) : putL ls (l.take (k + 1)) = putL ls (l.take k) ++ putC ls l[k] := by
  unfold putL
  rw [List.take_succ_eq_append_getElem hk, List.flatMap_append]; simp
theorem locals_len {ls : List (List C)} (h : localsB ls = true) : ∀ x ∈ ls, x.length ≤ 256 := by
  intro x hx
  unfold localsB at h
  have h1 := List.all_eq_true.1 h x hx
  unfold emptyOrRight at h1
  simp only [Bool.or_eq_true, decide_eq_true_eq] at h1
  rcases h1 with h1 | h1
  · omega
  · exact (right_len h1).2
theorem putC_len {ls : List (List C)} (h : localsB ls = true) (c : C) : (putC ls c).length ≤ 256 := by
  unfold putC
  split
  · cases hq : ls[c.vk.toNat]? with
    | none => simp
    | some x => simp; exact locals_len h x (List.mem_of_getElem? hq)
  · simp
theorem put_len {ls : List (List C)} (h : localsB ls = true) (l : List C) : (putL ls l).length ≤ 256 * l.length := by
  induction l with
  | nil => simp [putL]
  | cons a r ih =>
    have := putC_len h a
    simp [putL] at *; omega
/-- Nothing is lacking: each place has a term. -/
theorem not_lack {l : List C} {ls : List (List C)} (hr : rightB l = true) (h : lacksB l ls = false) (k : Nat) (hk : k < l.length) (h4 : (l[k].k == 4) = true) (h1 : (l[k].vn == -1) = true) : ∃ m : Nat, l[k].vk = m ∧ ∃ hm : m < ls.length, 1 ≤ ls[m].length := by
  have hx : (l[k].vn, l[k].vk) ∈ varsOf l := by
    unfold varsOf
    exact List.mem_map.2 ⟨l[k], List.mem_filter.2 ⟨List.getElem_mem _, h4⟩, rfl⟩
  have h0 := (right_vars hr _ hx).1
  unfold lacksB at h
  rw [List.any_eq_false] at h
  have h2 := h _ hx
  simp only [h1, Bool.true_and, lackB, Bool.or_eq_true, decide_eq_true_eq, beq_iff_eq, not_or] at h2
  refine ⟨l[k].vk.toNat, by simp at h0; omega, by omega, ?_⟩
  have h3 := h2.2
  rw [List.getElem?_eq_getElem (by omega)] at h3
  simp at h3
  cases hq : ls[l[k].vk.toNat] with
  | nil => exact absurd hq h3
  | cons a r => simp
theorem owns_form {w : World} {base : Nat} {e : TypeId} {s : Nat} {v : Value} {n : Nat} {xs : List Value} (h : w.ownsRow base e s v n xs) : ∃ ad cap, v = .slice ad n cap := by
  rcases h.2 with ⟨h1, h2⟩ | ⟨g, cap, cur, h1, _⟩
  · exact ⟨none, 0, by rw [h1, h2]⟩
  · exact ⟨_, _, h1⟩
theorem news_new (W : World) (c : C) : ∀ j u, (flat [c])[j]? = some u → (W.alloc (.cells #[.int .u8 c.k, .string c.t, .int .i64 c.n, .int .i64 c.vn, .int .i64 c.vk] 54)).cell? ((⟨W.heap.size, 0, none⟩ : Addr).add j) = some u := by
  intro j u hu
  rw [Addr.add_mid]
  exact range_new W (flat [c]) 54 j u hu
end Go.Proofs.YteikdgjlhdgapaaDoor
namespace Go.Proofs.YteikdgjlhdgapaaDoor
open Go.RowKit
attribute [local go_sem ↓] Go.wp_at_zero Go.wp_at_succ
abbrev Nm := Int × Int
def nmV (x : Nm) : List Value := [.int .i64 x.1, .int .i64 x.2]
def flatN (l : List Nm) : List Value := l.flatMap nmV
theorem flatN_append (a b : List Nm) : flatN (a ++ b) = flatN a ++ flatN b := by simp [flatN]
theorem flatN_length (l : List Nm) : (flatN l).length = l.length * 2 := by
  induction l with
  | nil => rfl
  | cons a r ih => simp [flatN, nmV] at *; omega
theorem flatN_get (l : List Nm) (i j : Nat) (hi : i < l.length) (hj : j < 2) : (flatN l)[2 * i + j]? = (nmV l[i])[j]? := by
  induction l generalizing i with
  | nil => simp at hi
  | cons a r ih =>
    cases i with
    | zero =>
      simp only [flatN, List.flatMap_cons]
      rw [List.getElem?_append_left (by simp [nmV]; omega)]
      simp
    | succ i =>
      simp only [flatN, List.flatMap_cons]
      rw [List.getElem?_append_right (by simp [nmV]; omega)]
      have e : 2 * (i + 1) + j - (nmV a).length = 2 * i + j := by simp [nmV]; omega
      rw [e]
      exact ih i (by simpa using hi)
theorem flatN_one (l : List Nm) : ∀ u ∈ flatN l, u.oneCell' = true := by
  intro u hu
  simp only [flatN, List.mem_flatMap] at hu
  obtain ⟨c, _, hc⟩ := hu
  simp only [nmV, List.mem_cons, List.not_mem_nil, or_false] at hc
  rcases hc with rfl | rfl <;> rfl
theorem name_cells {w : World} {b o : Nat} {l : List Nm} (h : w.rangeAt b o (flatN l)) (i : Nat) (hi : i < l.length) :
    w.cell? ⟨b, o + i * 2, none⟩ = some (.int .i64 l[i].1) ∧ w.cell? ⟨b, o + i * 2 + 1, none⟩ = some (.int .i64 l[i].2) := by
  have g : ∀ j v, j < 2 → (nmV l[i])[j]? = some v → w.cell? ⟨b, o + i * 2 + j, none⟩ = some v := by
    intro j v hj hv
    have := h (2 * i + j) v (by rw [flatN_get l i j hi hj]; exact hv)
    rw [show o + (2 * i + j) = o + i * 2 + j by omega] at this
    exact this
  exact ⟨g 0 _ (by omega) rfl, g 1 _ (by omega) rfl⟩
/-- A row of names in memory. -/
def NamesAt (w : World) (v : Value) (l : List Nm) : Prop :=
  l.length ≤ maxLen ∧ ((l = [] ∧ ∃ ad : Option Addr, v = .slice ad 0 0) ∨ ∃ b o cap : Nat, v = .slice (some ⟨b, o, none⟩) l.length cap ∧ w.rangeAt b o (flatN l) ∧ b < w.heap.size)
theorem NamesAt.below {w w' : World} {v : Value} {l : List Nm} (h : NamesAt w v l) (hb : Below w.heap.size w w') : NamesAt w' v l := by
  obtain ⟨h0, h⟩ := h
  refine ⟨h0, ?_⟩
  rcases h with h | ⟨b, o, cap, h1, h3, h4⟩
  · exact Or.inl h
  · exact Or.inr ⟨b, o, cap, h1, range_below h3 h4 hb, Nat.lt_of_lt_of_le h4 hb.size⟩
theorem NamesAt.form {w : World} {v : Value} {l : List Nm} (h : NamesAt w v l) : ∃ (ad : Option Addr) (cap : Nat), v = .slice ad l.length cap := by
  rcases h.2 with ⟨rfl, ad, rfl⟩ | ⟨b, o, cap, rfl, _⟩
  · exact ⟨ad, 0, rfl⟩
  · exact ⟨_, _, rfl⟩
def OwnN (w : World) (base : Nat) (u : Value) (l : List Nm) : Prop := w.ownsRow base 23 2 u l.length (flatN l)
theorem range_of_owns {w : World} {g : Nat} {cur : Array Value} {e : TypeId} {m : Nat} {xs : List Value} (h3 : w.heap[g]? = some (.cells cur e (0, 0))) (h7 : cur.toList.take m = xs) : w.rangeAt g 0 xs := by
  intro j u hu
  rw [cell_of_row _ _ _ _ _ _ h3]
  rw [← h7] at hu
  rw [List.getElem?_take] at hu
  split at hu
  · simpa using hu
  · cases hu
theorem namesAt_of_owns {w : World} {base : Nat} {v : Value} {l : List Nm} (h : OwnN w base v l) (hl : l.length ≤ maxLen) : NamesAt w v l := by
  refine ⟨hl, ?_⟩
  rcases h.2 with ⟨h1, h2⟩ | ⟨g, cap, cur, h1, h2, h3, h4, h5, h6, h7⟩
  · exact Or.inl ⟨List.eq_nil_of_length_eq_zero h2, none, h1⟩
  · exact Or.inr ⟨g, 0, cap, h1, range_of_owns h3 h7, (Array.getElem?_eq_some_iff.1 h3).1⟩
theorem owns_below {w w' : World} {base : Nat} {e : TypeId} {s n : Nat} {u : Value} {xs : List Value} (h : w.ownsRow base e s u n xs) (hb : Below w.heap.size w w') : w'.ownsRow base e s u n xs := by
  refine ⟨h.1, ?_⟩
  rcases h.2 with hn | ⟨g, cap, cur, h1, h2, h3, h4⟩
  · exact Or.inl hn
  · exact Or.inr ⟨g, cap, cur, h1, h2, (hb.block g (Array.getElem?_eq_some_iff.1 h3).1).trans h3, h4⟩
theorem eql23b (a b c d : Int) (w : World) :
    (binOp .eql 23 (.agg #[.int .i64 a, .int .i64 b]) (.agg #[.int .i64 c, .int .i64 d])).run Tryd.prog w = .ok (.bool (a == c && b == d)) w := by
  cases h1 : (a == c) <;> cases h2 : (b == d) <;> go_simp
theorem neq23 (a b c d : Int) (w : World) :
    (binOp .neq 23 (.agg #[.int .i64 a, .int .i64 b]) (.agg #[.int .i64 c, .int .i64 d])).run Tryd.prog w = .ok (.bool (!(a == c && b == d))) w := by
  cases h1 : (a == c) <;> cases h2 : (b == d) <;> go_simp
def eqN (x y : Nm) : Bool := x.1 == y.1 && x.2 == y.2
theorem eqN_iff (x y : Nm) : eqN x y = true ↔ x = y := by
  unfold eqN
  simp [Prod.ext_iff]
def hasN (l : List Nm) (x : Nm) : Bool := l.any fun y => eqN y x
theorem hasN_iff (l : List Nm) (x : Nm) : hasN l x = true ↔ x ∈ l := by
  unfold hasN
  simp only [List.any_eq_true, eqN_iff]
  exact ⟨fun ⟨y, h1, h2⟩ => h2 ▸ h1, fun h => ⟨x, h, rfl⟩⟩
def eqNUpto (l m : List Nm) (k : Nat) : Prop := ∀ j, j < k → ∀ (h1 : j < l.length) (h2 : j < m.length), eqN l[j] m[j] = true
def eqNs (l m : List Nm) : Bool := decide (l = m)
theorem eqNs_true {l m : List Nm} (h : l.length = m.length) (hu : eqNUpto l m l.length) : eqNs l m = true := by
  unfold eqNs
  rw [decide_eq_true_eq]
  refine List.ext_getElem h fun j h1 h2 => ?_
  exact (eqN_iff _ _).1 (hu j h1 h1 h2)
theorem eqNs_false {l m : List Nm} (j : Nat) (h1 : j < l.length) (h2 : j < m.length) (h : eqN l[j] m[j] = false) : eqNs l m = false := by
  unfold eqNs
  rw [decide_eq_false_iff_not]
  intro e
  subst e
  have := (eqN_iff l[j] l[j]).2 rfl
  rw [h] at this; cases this
end Go.Proofs.YteikdgjlhdgapaaDoor
namespace Go.Proofs.YteikdgjlhdgapaaDoor
open Go.RowKit
def addN (acc : List Nm) (x : Nm) : List Nm := if hasN acc x then acc else acc ++ [x]
/-- Each once, in the order in which they first come. -/
def nubN (xs : List Nm) : List Nm := xs.foldl addN []
theorem nubN_snoc (xs : List Nm) (x : Nm) : nubN (xs ++ [x]) = addN (nubN xs) x := by simp [nubN]
theorem addN_len (acc : List Nm) (x : Nm) : (addN acc x).length ≤ acc.length + 1 := by unfold addN; split <;> simp
theorem foldN_len (xs acc : List Nm) : (xs.foldl addN acc).length ≤ acc.length + xs.length := by
  induction xs generalizing acc with
  | nil => simp
  | cons a r ih =>
    have h1 := ih (addN acc a)
    have h2 := addN_len acc a
    simp; omega
theorem nubN_len (xs : List Nm) : (nubN xs).length ≤ xs.length := by
  have := foldN_len xs []; simp at this; exact this
theorem info23 : ∃ i, Tryd.prog.info? 23 = some i ∧ i.zero = some (.agg #[.int .i64 0, .int .i64 0]) ∧ i.size = 2 ∧ i.bytes = 16 := by
  have h : (Tryd.prog.info? 23).map (fun i => (i.zero, i.size, i.bytes)) = some (some (.agg #[.int .i64 0, .int .i64 0]), 2, 16) := by kernel_rfl
  cases hq : Tryd.prog.info? 23 with
  | none => rw [hq] at h; cases h
  | some i =>
    rw [hq] at h
    simp only [Option.map_some, Option.some.injEq, Prod.mk.injEq] at h
    exact ⟨i, rfl, h.1, h.2.1, h.2.2⟩
theorem newsN_new (W : World) (x : Nm) : ∀ j u, (flatN [x])[j]? = some u → (W.alloc (.cells #[.int .i64 x.1, .int .i64 x.2] 23)).cell? ((⟨W.heap.size, 0, none⟩ : Addr).add j) = some u := by
  intro j u hu
  rw [Addr.add_mid]
  exact range_new W (flatN [x]) 23 j u hu
/-- What has come of the first k terms and j cells of the next. -/
def metN (ls : List (List C)) (k j : Nat) : List Nm := nubN (varsAll (ls.take k) ++ varsOf ((ls[k]?.getD []).take j))
theorem metN_len (ls : List (List C)) (k j : Nat) (hk : k < ls.length) : (metN ls k j).length ≤ (varsAll ls).length := by
  unfold metN
  have h := (vars_at_prefix ls k j hk).length_le
  have h2 := nubN_len (varsAll (ls.take k) ++ varsOf (ls[k].take j))
  simp only [List.getElem?_eq_getElem hk, Option.getD_some]
  omega
theorem metN_zero (ls : List (List C)) (k : Nat) : metN ls k 0 = nubN (varsAll (ls.take k)) := by simp [metN, varsOf]
theorem metN_end (ls : List (List C)) (k j : Nat) (hk : k < ls.length) (hj : ls[k].length ≤ j) : metN ls k j = nubN (varsAll (ls.take (k + 1))) := by
  unfold metN
  rw [varsAll_snoc ls k hk]
  simp [List.getElem?_eq_getElem hk, List.take_of_length_le hj]
theorem metN_no (ls : List (List C)) (k j : Nat) (hk : k < ls.length) (hj : j < ls[k].length) (h : (ls[k][j].k == 4) = false) : metN ls k (j + 1) = metN ls k j := by
  unfold metN
  simp only [List.getElem?_eq_getElem hk, Option.getD_some]
  rw [varsOf_snoc_no ls[k] j hj h]
theorem metN_yes (ls : List (List C)) (k j : Nat) (hk : k < ls.length) (hj : j < ls[k].length) (h : (ls[k][j].k == 4) = true) : metN ls k (j + 1) = addN (metN ls k j) (ls[k][j].vn, ls[k][j].vk) := by
  unfold metN
  simp only [List.getElem?_eq_getElem hk, Option.getD_some]
  rw [varsOf_snoc_yes ls[k] j hj h, ← List.append_assoc, nubN_snoc]
theorem row_one (w : World) (v : Value) (l : List C) (h : TermAt w v l) : RowAt (w.alloc (.cells #[v] 25)) (.slice (some ⟨w.heap.size, 0, none⟩) 1 1) [l] := by
  refine ⟨by simp [maxLen], .inr ⟨w.heap.size, 0, 1, [v], rfl, by simp, by simp [maxLen], by simp, rfl, range_new w [v] 25, ?_⟩⟩
  intro i u x hu hx
  match i, hu, hx with
  | 0, hu, hx => simp at hu hx; subst hu hx; exact h.below (below_alloc _ _)
def refGlobalB (l : List C) : Bool := rightB l && (varsOf l).all (fun x => !decide (x.1 < 0))
end Go.Proofs.YteikdgjlhdgapaaDoor
