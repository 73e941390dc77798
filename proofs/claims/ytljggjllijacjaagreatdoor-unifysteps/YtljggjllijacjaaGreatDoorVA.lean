/- rightLocals and lacks. Contract of Put: for every term and row of locals it returns the term with them put in, or its error. Rows of names in memory; the reference HasName, SameNames. The reference Vars, VarsOf, Global. Contract of Vars: each name once, in the order in which they first come. Values of variables: the plain side. -/
import Derived.Test.YtljggjllijacjaaGreatDoorV2
import Derived.Test.YtljggjllijacjaaGreatDoorRA
import Derived.Maps.OwnIn
import Derived.Maps.Views
import Derived.DeepKeys4
namespace Go.Proofs.YtljggjllijacjaaGreatDoor
open Go.RowKit Go.Shelf
attribute [local go_sem] Oper.semAt_some
/-- A term may lie in the place of a local: it is empty, or right. -/
def emptyOrRight (l : List C) : Bool := decide ((l.length : Int) ≤ 0) || rightB l
def localsB (ls : List (List C)) : Bool := ls.all emptyOrRight
theorem locals_snoc (l : List (List C)) (k : Nat) (hk : k < l.length) (h : (l.take k).all emptyOrRight = true) (hi : emptyOrRight l[k] = true) : (l.take (k + 1)).all emptyOrRight = true := by
  rw [List.take_succ_eq_append_getElem hk, List.all_append, h]; simp [hi]
theorem locals_false (l : List (List C)) (k : Nat) (hk : k < l.length) (hi : emptyOrRight l[k] = false) : localsB l = false := by
  unfold localsB; rw [List.all_eq_false]; exact ⟨l[k], List.getElem_mem _, by simp [hi]⟩
/-- The variables of a right term. -/
theorem right_vars {l : List C} (h : rightB l = true) : ∀ x ∈ varsOf l, 0 ≤ x.2 ∧ -1 ≤ x.1 := by
  intro x hx
  unfold varsOf at hx
  obtain ⟨c, hc, rfl⟩ := List.mem_map.1 hx
  rw [List.mem_filter] at hc
  unfold rightB at h
  simp only [Bool.and_eq_true] at h
  have h1 := h.1.2
  unfold cellsB at h1
  have h2 := List.all_eq_true.1 h1 c hc.1
  have h3 : c.k = 4 := by simpa using hc.2
  unfold C.ok cellB at h2
  rw [h3] at h2
  simp [between] at h2
  simp; omega
/-- Is there no term in a place? -/
def lackB (ls : List (List C)) (n : Int) : Bool := decide ((ls.length : Int) ≤ n) || ((ls[n.toNat]?.getD []).length == 0)
def lacksB (l : List C) (ls : List (List C)) : Bool := (varsOf l).any fun x => x.1 == -1 && lackB ls x.2
end Go.Proofs.YtljggjllijacjaaGreatDoor

namespace Go.Proofs.YtljggjllijacjaaGreatDoor
open Go.RowKit Go.Shelf
def isLoc (c : C) : Bool := c.k == 4 && c.vn == -1
def putC (ls : List (List C)) (c : C) : List C := if isLoc c then ls[c.vk.toNat]?.getD [] else [c]
def putL (ls : List (List C)) (l : List C) : List C := l.flatMap (putC ls)
def putE (l : List C) (ls : List (List C)) : Int := if rightB l && localsB ls then (if lacksB l ls then 4 else if (256 : Int) < ((putL ls l).length : Int) then 5 else 0) else 6
def putT (l : List C) (ls : List (List C)) : List C := if putE l ls = 0 then putL ls l else []
theorem put_snoc (ls : List (List C)) (l : List C) (k : Nat) (hk : k < l.length) : putL ls (l.take (k + 1)) = putL ls (l.take k) ++ putC ls l[k] := by
  unfold putL
  rw [List.take_succ_eq_append_getElem hk, List.flatMap_append]; simp
theorem locals_len {ls : List (List C)} (h : localsB ls = true) : ∀ x ∈ ls, x.length ≤ 256 := by
  intro x hx
  unfold localsB at h
  have h1 := List.all_eq_true.1 h x hx
  unfold emptyOrRight at h1
  simp only [Bool.or_eq_true, decide_eq_true_eq] at h1
  rcases h1 with h1 | h1
  · omega
  · exact (right_len h1).2
theorem putC_len {ls : List (List C)} (h : localsB ls = true) (c : C) : (putC ls c).length ≤ 256 := by
  unfold putC
  split
  · cases hq : ls[c.vk.toNat]? with
    | none => simp
    | some x => simp; exact locals_len h x (List.mem_of_getElem? hq)
  · simp
theorem put_len {ls : List (List C)} (h : localsB ls = true) (l : List C) : (putL ls l).length ≤ 256 * l.length := by
  induction l with
  | nil => simp [putL]
  | cons a r ih =>
    have := putC_len h a
    simp [putL] at *; omega
/-- Nothing is lacking: each place has a term. -/
theorem not_lack {l : List C} {ls : List (List C)} (hr : rightB l = true) (h : lacksB l ls = false) (k : Nat) (hk : k < l.length) (h4 : (l[k].k == 4) = true) (h1 : (l[k].vn == -1) = true) : ∃ m : Nat, l[k].vk = m ∧ ∃ hm : m < ls.length, 1 ≤ ls[m].length := by
  have hx : (l[k].vn, l[k].vk) ∈ varsOf l := by
    unfold varsOf
    exact List.mem_map.2 ⟨l[k], List.mem_filter.2 ⟨List.getElem_mem _, h4⟩, rfl⟩
  have h0 := (right_vars hr _ hx).1
  unfold lacksB at h
  rw [List.any_eq_false] at h
  have h2 := h _ hx
  simp only [h1, Bool.true_and, lackB, Bool.or_eq_true, decide_eq_true_eq, beq_iff_eq, not_or] at h2
  refine ⟨l[k].vk.toNat, by simp at h0; omega, by omega, ?_⟩
  have h3 := h2.2
  rw [List.getElem?_eq_getElem (by omega)] at h3
  simp at h3
  cases hq : ls[l[k].vk.toNat] with
  | nil => exact absurd hq h3
  | cons a r => simp
theorem owns_form {w : World} {base : Nat} {e : TypeId} {s : Nat} {v : Value} {n : Nat} {xs : List Value} (h : w.ownsRow base e s v n xs) : ∃ ad cap, v = .slice ad n cap := by
  rcases h.2 with ⟨h1, h2⟩ | ⟨g, cap, cur, h1, _⟩
  · exact ⟨none, 0, by rw [h1, h2]⟩
  · exact ⟨_, _, h1⟩
theorem c56 (a b : Int) (w : World) : Calls Tryz.prog 75 #[.agg #[.int .i64 a, .int .i64 b]] w fun e w' => e = .returned (.bool (a == -1)) ∧ w' = w.alloc (.cells #[.int .i64 a, .int .i64 b] 32) :=
  (callsIn_wide (n := 6)).1 (isLocal_in Fence.wide 6 trivial rfl a b w)
theorem news_new (W : World) (c : C) : ∀ j u, (flat [c])[j]? = some u → (W.alloc (.cells #[.int .u8 c.k, .string c.t, .int .i64 c.n, .int .i64 c.vn, .int .i64 c.vk] 78)).cell? ((⟨W.heap.size, 0, none⟩ : Addr).add j) = some u := by
  intro j u hu
  rw [Addr.add_mid]
  exact range_new W (flat [c]) 78 j u hu
end Go.Proofs.YtljggjllijacjaaGreatDoor

namespace Go.Proofs.YtljggjllijacjaaGreatDoor
open Go.RowKit
attribute [local go_sem ↓] Go.wp_at_zero Go.wp_at_succ
abbrev Nm := Int × Int
def nmV (x : Nm) : List Value := [.int .i64 x.1, .int .i64 x.2]
def flatN (l : List Nm) : List Value := l.flatMap nmV
theorem flatN_append (a b : List Nm) : flatN (a ++ b) = flatN a ++ flatN b := by simp [flatN]
theorem flatN_length (l : List Nm) : (flatN l).length = l.length * 2 := by
  induction l with
  | nil => rfl
  | cons a r ih => simp [flatN, nmV] at *; omega
theorem flatN_get (l : List Nm) (i j : Nat) (hi : i < l.length) (hj : j < 2) : (flatN l)[2 * i + j]? = (nmV l[i])[j]? := by
  induction l generalizing i with
  | nil => simp at hi
  | cons a r ih =>
    cases i with
    | zero =>
      simp only [flatN, List.flatMap_cons]
      rw [List.getElem?_append_left (by simp [nmV]; omega)]
      simp
    | succ i =>
      simp only [flatN, List.flatMap_cons]
      rw [List.getElem?_append_right (by simp [nmV]; omega)]
      have e : 2 * (i + 1) + j - (nmV a).length = 2 * i + j := by simp [nmV]; omega
      rw [e]
      exact ih i (by simpa using hi)
theorem flatN_one (l : List Nm) : ∀ u ∈ flatN l, u.oneCell' = true := by
  intro u hu
  simp only [flatN, List.mem_flatMap] at hu
  obtain ⟨c, _, hc⟩ := hu
  simp only [nmV, List.mem_cons, List.not_mem_nil, or_false] at hc
  rcases hc with rfl | rfl <;> rfl
theorem name_cells {w : World} {b o : Nat} {l : List Nm} (h : w.rangeAt b o (flatN l)) (i : Nat) (hi : i < l.length) :
    w.cell? ⟨b, o + i * 2, none⟩ = some (.int .i64 l[i].1) ∧ w.cell? ⟨b, o + i * 2 + 1, none⟩ = some (.int .i64 l[i].2) := by
  have g : ∀ j v, j < 2 → (nmV l[i])[j]? = some v → w.cell? ⟨b, o + i * 2 + j, none⟩ = some v := by
    intro j v hj hv
    have := h (2 * i + j) v (by rw [flatN_get l i j hi hj]; exact hv)
    rw [show o + (2 * i + j) = o + i * 2 + j by omega] at this
    exact this
  exact ⟨g 0 _ (by omega) rfl, g 1 _ (by omega) rfl⟩
/-- A row of names in memory. -/
def NamesAt (w : World) (v : Value) (l : List Nm) : Prop :=
  l.length ≤ maxLen ∧ ((l = [] ∧ ∃ ad : Option Addr, v = .slice ad 0 0) ∨ ∃ b o cap : Nat, v = .slice (some ⟨b, o, none⟩) l.length cap ∧ w.rangeAt b o (flatN l) ∧ b < w.heap.size)
theorem NamesAt.below {w w' : World} {v : Value} {l : List Nm} (h : NamesAt w v l) (hb : Below w.heap.size w w') : NamesAt w' v l := by
  obtain ⟨h0, h⟩ := h
  refine ⟨h0, ?_⟩
  rcases h with h | ⟨b, o, cap, h1, h3, h4⟩
  · exact Or.inl h
  · exact Or.inr ⟨b, o, cap, h1, range_below h3 h4 hb, Nat.lt_of_lt_of_le h4 hb.size⟩
theorem NamesAt.form {w : World} {v : Value} {l : List Nm} (h : NamesAt w v l) : ∃ (ad : Option Addr) (cap : Nat), v = .slice ad l.length cap := by
  rcases h.2 with ⟨rfl, ad, rfl⟩ | ⟨b, o, cap, rfl, _⟩
  · exact ⟨ad, 0, rfl⟩
  · exact ⟨_, _, rfl⟩
def OwnN (w : World) (base : Nat) (u : Value) (l : List Nm) : Prop := w.ownsRow base 32 2 u l.length (flatN l)
theorem range_of_owns {w : World} {g : Nat} {cur : Array Value} {e : TypeId} {m : Nat} {xs : List Value} (h3 : w.heap[g]? = some (.cells cur e (0, 0))) (h7 : cur.toList.take m = xs) : w.rangeAt g 0 xs := by
  intro j u hu
  rw [cell_of_row _ _ _ _ _ _ h3]
  rw [← h7] at hu
  rw [List.getElem?_take] at hu
  split at hu
  · simpa using hu
  · cases hu
theorem namesAt_of_owns {w : World} {base : Nat} {v : Value} {l : List Nm} (h : OwnN w base v l) (hl : l.length ≤ maxLen) : NamesAt w v l := by
  refine ⟨hl, ?_⟩
  rcases h.2 with ⟨h1, h2⟩ | ⟨g, cap, cur, h1, h2, h3, h4, h5, h6, h7⟩
  · exact Or.inl ⟨List.eq_nil_of_length_eq_zero h2, none, h1⟩
  · exact Or.inr ⟨g, 0, cap, h1, range_of_owns h3 h7, (Array.getElem?_eq_some_iff.1 h3).1⟩
theorem owns_below {w w' : World} {base : Nat} {e : TypeId} {s n : Nat} {u : Value} {xs : List Value} (h : w.ownsRow base e s u n xs) (hb : Below w.heap.size w w') : w'.ownsRow base e s u n xs := by
  refine ⟨h.1, ?_⟩
  rcases h.2 with hn | ⟨g, cap, cur, h1, h2, h3, h4⟩
  · exact Or.inl hn
  · exact Or.inr ⟨g, cap, cur, h1, h2, (hb.block g (Array.getElem?_eq_some_iff.1 h3).1).trans h3, h4⟩
theorem eql23b (a b c d : Int) (w : World) :
    (binOp .eql 32 (.agg #[.int .i64 a, .int .i64 b]) (.agg #[.int .i64 c, .int .i64 d])).run Tryz.prog w = .ok (.bool (a == c && b == d)) w := by
  cases h1 : (a == c) <;> cases h2 : (b == d) <;> go_simp
theorem neq23 (a b c d : Int) (w : World) :
    (binOp .neq 32 (.agg #[.int .i64 a, .int .i64 b]) (.agg #[.int .i64 c, .int .i64 d])).run Tryz.prog w = .ok (.bool (!(a == c && b == d))) w := by
  cases h1 : (a == c) <;> cases h2 : (b == d) <;> go_simp
def eqN (x y : Nm) : Bool := x.1 == y.1 && x.2 == y.2
theorem eqN_iff (x y : Nm) : eqN x y = true ↔ x = y := by
  unfold eqN
  simp [Prod.ext_iff]
def hasN (l : List Nm) (x : Nm) : Bool := l.any fun y => eqN y x
theorem hasN_iff (l : List Nm) (x : Nm) : hasN l x = true ↔ x ∈ l := by
  unfold hasN
  simp only [List.any_eq_true, eqN_iff]
  exact ⟨fun ⟨y, h1, h2⟩ => h2 ▸ h1, fun h => ⟨x, h, rfl⟩⟩
def eqNUpto (l m : List Nm) (k : Nat) : Prop := ∀ j, j < k → ∀ (h1 : j < l.length) (h2 : j < m.length), eqN l[j] m[j] = true
def eqNs (l m : List Nm) : Bool := decide (l = m)
theorem eqNs_true {l m : List Nm} (h : l.length = m.length) (hu : eqNUpto l m l.length) : eqNs l m = true := by
  unfold eqNs
  rw [decide_eq_true_eq]
  refine List.ext_getElem h fun j h1 h2 => ?_
  exact (eqN_iff _ _).1 (hu j h1 h1 h2)
theorem eqNs_false {l m : List Nm} (j : Nat) (h1 : j < l.length) (h2 : j < m.length) (h : eqN l[j] m[j] = false) : eqNs l m = false := by
  unfold eqNs
  rw [decide_eq_false_iff_not]
  intro e
  subst e
  have := (eqN_iff l[j] l[j]).2 rfl
  rw [h] at this; cases this
end Go.Proofs.YtljggjllijacjaaGreatDoor

namespace Go.Proofs.YtljggjllijacjaaGreatDoor
open Go.RowKit
def addN (acc : List Nm) (x : Nm) : List Nm := if hasN acc x then acc else acc ++ [x]
/-- Each once, in the order in which they first come. -/
def nubN (xs : List Nm) : List Nm := xs.foldl addN []
theorem nubN_snoc (xs : List Nm) (x : Nm) : nubN (xs ++ [x]) = addN (nubN xs) x := by simp [nubN]
theorem addN_len (acc : List Nm) (x : Nm) : (addN acc x).length ≤ acc.length + 1 := by unfold addN; split <;> simp
theorem foldN_len (xs acc : List Nm) : (xs.foldl addN acc).length ≤ acc.length + xs.length := by
  induction xs generalizing acc with
  | nil => simp
  | cons a r ih =>
    have h1 := ih (addN acc a)
    have h2 := addN_len acc a
    simp; omega
theorem nubN_len (xs : List Nm) : (nubN xs).length ≤ xs.length := by
  have := foldN_len xs []; simp at this; exact this
theorem info23 : ∃ i, Tryz.prog.info? 32 = some i ∧ i.zero = some (.agg #[.int .i64 0, .int .i64 0]) ∧ i.size = 2 ∧ i.bytes = 16 := by
  have h : (Tryz.prog.info? 32).map (fun i => (i.zero, i.size, i.bytes)) = some (some (.agg #[.int .i64 0, .int .i64 0]), 2, 16) := by kernel_rfl
  cases hq : Tryz.prog.info? 32 with
  | none => rw [hq] at h; cases h
  | some i =>
    rw [hq] at h
    simp only [Option.map_some, Option.some.injEq, Prod.mk.injEq] at h
    exact ⟨i, rfl, h.1, h.2.1, h.2.2⟩
theorem newsN_new (W : World) (x : Nm) : ∀ j u, (flatN [x])[j]? = some u → (W.alloc (.cells #[.int .i64 x.1, .int .i64 x.2] 32)).cell? ((⟨W.heap.size, 0, none⟩ : Addr).add j) = some u := by
  intro j u hu
  rw [Addr.add_mid]
  exact range_new W (flatN [x]) 32 j u hu
/-- What has come of the first k terms and j cells of the next. -/
def metN (ls : List (List C)) (k j : Nat) : List Nm := nubN (varsAll (ls.take k) ++ varsOf ((ls[k]?.getD []).take j))
theorem metN_len (ls : List (List C)) (k j : Nat) (hk : k < ls.length) : (metN ls k j).length ≤ (varsAll ls).length := by
  unfold metN
  have h := (vars_at_prefix ls k j hk).length_le
  have h2 := nubN_len (varsAll (ls.take k) ++ varsOf (ls[k].take j))
  simp only [List.getElem?_eq_getElem hk, Option.getD_some]
  omega
theorem metN_zero (ls : List (List C)) (k : Nat) : metN ls k 0 = nubN (varsAll (ls.take k)) := by simp [metN, varsOf]
theorem metN_end (ls : List (List C)) (k j : Nat) (hk : k < ls.length) (hj : ls[k].length ≤ j) : metN ls k j = nubN (varsAll (ls.take (k + 1))) := by
  unfold metN
  rw [varsAll_snoc ls k hk]
  simp [List.getElem?_eq_getElem hk, List.take_of_length_le hj]
theorem metN_no (ls : List (List C)) (k j : Nat) (hk : k < ls.length) (hj : j < ls[k].length) (h : (ls[k][j].k == 4) = false) : metN ls k (j + 1) = metN ls k j := by
  unfold metN
  simp only [List.getElem?_eq_getElem hk, Option.getD_some]
  rw [varsOf_snoc_no ls[k] j hj h]
theorem metN_yes (ls : List (List C)) (k j : Nat) (hk : k < ls.length) (hj : j < ls[k].length) (h : (ls[k][j].k == 4) = true) : metN ls k (j + 1) = addN (metN ls k j) (ls[k][j].vn, ls[k][j].vk) := by
  unfold metN
  simp only [List.getElem?_eq_getElem hk, Option.getD_some]
  rw [varsOf_snoc_yes ls[k] j hj h, ← List.append_assoc, nubN_snoc]
theorem row_one (w : World) (v : Value) (l : List C) (h : TermAt w v l) : RowAt (w.alloc (.cells #[v] 24)) (.slice (some ⟨w.heap.size, 0, none⟩) 1 1) [l] := by
  refine ⟨by simp [maxLen], .inr ⟨w.heap.size, 0, 1, [v], rfl, by simp, by simp [maxLen], by simp, rfl, range_new w [v] 24, ?_⟩⟩
  intro i u x hu hx
  match i, hu, hx with
  | 0, hu, hx => simp at hu hx; subst hu hx; exact h.below (below_alloc _ _)
def refGlobalB (l : List C) : Bool := rightB l && (varsOf l).all (fun x => !decide (x.1 < 0))
set_option maxHeartbeats 1000000 in
theorem c37_no (l : List C) (v : Value) (w : World) (_h : TermAt w v l) (hr : rightB l = false) (H23 : Calls Tryz.prog 79 #[v] w fun e w' => e = .returned (.bool (rightB l)) ∧ Below w.heap.size w w') :
    Calls Tryz.prog 44 #[v] w fun e w' => e = .returned (.bool (refGlobalB l)) ∧ Below w.heap.size w w' := by
  have e1 : refGlobalB l = false := by unfold refGlobalB; rw [hr]; rfl
  rw [e1]
  rw [hr] at H23
  clear e1 hr _h
  go_enter Tryz.func44, Tryz.ntmps44
  go_wp2_with fail
  refine H23.mono ?_
  rintro e w1 ⟨rfl, hb1⟩
  go_wp2_with fail
  go_ret
  exact ⟨rfl, hb1⟩
set_option maxHeartbeats 1000000 in
theorem c37_yes (l : List C) (v : Value) (w : World) (h : TermAt w v l) (hr : rightB l = true) (H23 : Calls Tryz.prog 79 #[v] w fun e w' => e = .returned (.bool (rightB l)) ∧ Below w.heap.size w w') :
    Calls Tryz.prog 44 #[v] w fun e w' => e = .returned (.bool (refGlobalB l)) ∧ Below w.heap.size w w' := by
  have hrl := right_len hr
  have e1 : refGlobalB l = (varsOf l).all (fun x => !decide (x.1 < 0)) := by unfold refGlobalB; rw [hr]; rfl
  rw [e1]
  rw [hr] at H23
  clear e1 hr
  obtain ⟨_, h⟩ := h
  rcases h with ⟨rfl, ad, rfl⟩ | ⟨b, o, cap, rfl, h2, h5, h3, h4⟩
  · simp at hrl
  have HR : Hid (w.rangeAt b o (flat l)) := h3
  clear h3 h2 h5
  go_enter Tryz.func44, Tryz.ntmps44
  go_wp2_with fail
  refine H23.mono ?_
  rintro e w1 ⟨rfl, hb1⟩
  go_wp2_with fail
  go_loopw [3] (fun i wr => ∃ k : Nat, k ≤ l.length ∧ i = .int .i64 k ∧ Hid ((varsOf (l.take k)).all (fun x => !decide (x.1 < 0)) = true) ∧ Below w.heap.size w wr) (fun i _ => l.length - (intOf i).toNat)
  case atStart => exact ⟨0, Nat.zero_le _, rfl, rfl, hb1⟩
  case round =>
    obtain ⟨k, hk, rfl, hall, hbr⟩ := hrel
    by_cases hlt : k < l.length
    · have hlt' : (k : Int) < (l.length : Int) := by omega
      obtain ⟨q0, q1, q2, q3, q4⟩ := term_cells (range_below HR.out h4 hbr) k hlt
      cases hk4 : (l[k].k == 4)
      · have hE : Hid ((varsOf (l.take (k + 1))).all (fun x => !decide (x.1 < 0)) = true) := by
          show (varsOf (l.take (k + 1))).all _ = true
          rw [varsOf_snoc_no l k hlt hk4]; exact hall.out
        go_wp2_with fail
        go_roundw
        case rel => exact ⟨k + 1, by omega, by go_num, hE, hbr⟩
        case measure => simp [intOf]; omega
      · by_cases hneg : l[k].vn < 0
        · have hF : Hid ((varsOf l).all (fun x => !decide (x.1 < 0)) = false) := by
            show (varsOf l).all _ = false
            rw [List.all_eq_false]
            refine ⟨(l[k].vn, l[k].vk), ?_, by simp [hneg]⟩
            unfold varsOf
            exact List.mem_map.2 ⟨l[k], List.mem_filter.2 ⟨List.getElem_mem _, hk4⟩, rfl⟩
          go_wp2_with fail
          go_ret
          exact ⟨by rw [hF.out]; rfl, hbr⟩
        · have hE : Hid ((varsOf (l.take (k + 1))).all (fun x => !decide (x.1 < 0)) = true) := by
            show (varsOf (l.take (k + 1))).all _ = true
            rw [varsOf_snoc_yes l k hlt hk4, List.all_append, hall.out]; simp; omega
          go_wp2_with fail
          go_roundw
          case rel => exact ⟨k + 1, by omega, by go_num, hE, hbr⟩
          case measure => simp [intOf]; omega
    · have hlt' : ¬ ((k : Int) < (l.length : Int)) := by omega
      have hF : Hid ((varsOf l).all (fun x => !decide (x.1 < 0)) = true) := by
        have h := hall.out; rw [List.take_of_length_le (by omega)] at h; exact h
      go_wp2_with fail
      go_ret
      exact ⟨by rw [hF.out]; rfl, hbr⟩
end Go.Proofs.YtljggjllijacjaaGreatDoor

namespace Go.Proofs.YtljggjllijacjaaGreatDoor
open Go.RowKit Go.Shelf
attribute [local go_sem] Oper.semAt_some
def wfN (x : Nm) : Prop := (Lit.int .i64 x.1).wf = true ∧ (Lit.int .i64 x.2).wf = true
def kLit (x : Nm) : Lit := .string (keyBytes [.int .i64 x.1, .int .i64 x.2])
theorem law23 : WideMaps.KeyLaw Tryz.prog 32 := deep_law_laid (by kernel_rfl) (m := 2) (by omega) (of_decide_eq_true (by kernel_rfl)) (by kernel_rfl) (by rw [Tryz.underlying32])
theorem keyed23 : Maps.Keyed Tryz.prog 32 := Maps.Keyed.of_law law23
theorem key23 (x : Nm) (h : wfN x) : keyOf Tryz.prog 32 (.agg #[.int .i64 x.1, .int .i64 x.2]) = some (kLit x) := by
  obtain ⟨h1, h2⟩ := h
  have hk : Tryz.prog.keyType 32 = true := by kernel_rfl
  have hc : Tryz.prog.cellsOf 32 = 2 := by kernel_rfl
  have hc3 : Tryz.prog.cellsOf 3 = 1 := by kernel_rfl
  have hs : ∃ n, Tryz.prog.types.size = n + 1 := ⟨Tryz.prog.types.size - 1, by have : 0 < Tryz.prog.types.size := of_decide_eq_true (by kernel_rfl); omega⟩
  obtain ⟨n, hs⟩ := hs
  have hf : (Value.agg #[.int .i64 x.1, .int .i64 x.2]).formed Tryz.prog 32 = true := by simp [Value.formed, Tryz.underlying32, hc]
  unfold keyOf
  rw [Tryz.underlying32]
  simp only [hk, hf, Bool.and_self, if_true, hs]
  simp [Program.keyLits, Tryz.underlying32, Tryz.underlying3, hc, hc3, Value.cells, h1, h2, kLit]
theorem kLit_inj {x y : Nm} (hx : wfN x) (hy : wfN y) (h : kLit x = kLit y) : x = y := by
  have h1 := key23 x hx
  have h2 := key23 y hy
  rw [← h] at h2
  have h3 := law23.inj h1 h2
  simp at h3
  exact Prod.ext h3.1 h3.2
def setD (l : List Nm) : DataW Unit := Maps.setOf (.agg []) (l.map kLit)
theorem has_setD (l : List Nm) (x : Nm) (hl : ∀ y ∈ l, wfN y) (hx : wfN x) : Maps.has (setD l) (kLit x) = hasN l x := by
  unfold setD
  rw [Maps.has_setOf _ _ _ (fun y hy => by obtain ⟨z, hz, rfl⟩ := List.mem_map.1 hy; exact keyed23.key (key23 z (hl z hz)))]
  rw [Bool.eq_iff_iff, hasN_iff, List.any_eq_true]
  constructor
  · rintro ⟨y, hy, h⟩
    obtain ⟨z, hz, rfl⟩ := List.mem_map.1 hy
    have := kLit_inj (hl z hz) hx (WideAt.sameKey_eq h)
    subst this; exact hz
  · intro h
    exact ⟨kLit x, List.mem_map.2 ⟨x, h, rfl⟩, WideAt.sameKey_self (keyed23.key (key23 x hx))⟩
theorem setD_snoc (l : List Nm) (x : Nm) : setD (l ++ [x]) = (setD l).put (kLit x) (.agg []) := by
  unfold setD; rw [List.map_append, List.map_singleton, Maps.setOf_snoc]
theorem addN_mem (acc : List Nm) (x y : Nm) (h : y ∈ addN acc x) : y ∈ acc ∨ y = x := by
  unfold addN at h
  split at h
  · exact .inl h
  · rcases List.mem_append.1 h with h | h
    · exact .inl h
    · exact .inr (by simpa using h)
theorem foldN_mem (xs acc : List Nm) (y : Nm) (h : y ∈ xs.foldl addN acc) : y ∈ acc ∨ y ∈ xs := by
  induction xs generalizing acc with
  | nil => exact .inl h
  | cons a r ih =>
    rcases ih (addN acc a) h with h | h
    · rcases addN_mem _ _ _ h with h | h
      · exact .inl h
      · exact .inr (by simp [h])
    · exact .inr (by simp [h])
theorem nubN_mem (xs : List Nm) (y : Nm) (h : y ∈ nubN xs) : y ∈ xs := by
  rcases foldN_mem xs [] y h with h | h
  · simp at h
  · exact h
abbrev WN := { x : Nm // wfN x }
def nubP (pre : List WN) : List Nm := nubN (pre.map (·.1))
theorem nubP_snoc (pre : List WN) (x : WN) : nubP (pre ++ [x]) = addN (nubP pre) x.1 := by
  unfold nubP; rw [List.map_append, List.map_singleton, nubN_snoc]
theorem nubP_wf (pre : List WN) : ∀ y ∈ nubP pre, wfN y := by
  intro y hy
  obtain ⟨z, hz, rfl⟩ := List.mem_map.1 (nubN_mem _ _ hy)
  exact z.2
theorem row_not_map {w : World} {base : Nat} {e : TypeId} {s n m b : Nat} {v : Value} {xs : List Value} {P : Program} {k : TypeId} {D : DataW Unit} (h : w.ownsRow base e s v n xs) (hm : w.ownsMap P k unitElem b m D) : v.ownBlock ≠ some b := by
  obtain ⟨es, ck, hh, _⟩ := hm
  rcases h.2 with ⟨rfl, _⟩ | ⟨g, cap, cur, rfl, _, hg, _⟩
  · simp [Value.ownBlock]
  · intro e1
    simp [Value.ownBlock] at e1
    subst e1
    rw [hh] at hg; cases hg
theorem map_keeps {w w' : World} {m b : Nat} {P : Program} {k : TypeId} {D : DataW Unit} (hm : w.ownsMap P k unitElem b m D) (hk : KeepsOthers w w') : w'.ownsMap P k unitElem b m D := by
  obtain ⟨es, ck, hh, h⟩ := hm
  exact ⟨es, ck, hk.same _ _ hh rfl, h⟩
end Go.Proofs.YtljggjllijacjaaGreatDoor

namespace Go.Proofs.YtljggjllijacjaaGreatDoor
open Go.RowKit
/-- The order of names. -/
def lessN (a b : Nm) : Bool := decide (a.1 < b.1) || (a.1 == b.1 && decide (a.2 < b.2))
theorem lessN_irrefl (a : Nm) : lessN a a = false := by simp [lessN]
theorem lessN_trans {a b c : Nm} (h : lessN a b = true) (k : lessN b c = true) : lessN a c = true := by
  simp [lessN] at *
  omega
theorem lessN_total (a b : Nm) : lessN a b = true ∨ a = b ∨ lessN b a = true := by
  rcases Int.lt_trichotomy a.1 b.1 with h | h | h
  · left; simp [lessN, h]
  · rcases Int.lt_trichotomy a.2 b.2 with k | k | k
    · left; simp [lessN, h, k]
    · right; left; exact Prod.ext h k
    · right; right; simp [lessN, h, k]
  · right; right; simp [lessN, h]
/-- Variables with their values. -/
abbrev Hp := List (Nm × List C)
def lookH (m : Hp) (x : Nm) : Option (List C) := (m.find? fun p => p.1 == x).map (·.2)
/-- Is a term one variable? -/
def isVarL : List C → Bool
  | [c] => c.k == 4
  | _ => false
def varL : List C → Nm
  | c :: _ => (c.vn, c.vk)
  | [] => (0, 0)
def nextH (m : Hp) (l : List C) : Option (List C) := if isVarL l then lookH m (varL l) else none
/-- Links descend. -/
def DescH (m : Hp) : Prop := ∀ x l, lookH m x = some l → isVarL l = true → lessN (varL l) x = true
/-- What a term leads to by values. -/
inductive Fol (m : Hp) : List C → List C → Prop
  | here (l : List C) : Fol m l l
  | step {l l' l'' : List C} (h : nextH m l = some l') (r : Fol m l' l'') : Fol m l l''
theorem Fol.trans {m : Hp} {a b c : List C} (h : Fol m a b) (k : Fol m b c) : Fol m a c := by
  induction h with
  | here => exact k
  | step h _ ih => exact .step h (ih k)
theorem Fol.snoc {m : Hp} {a b c : List C} (h : Fol m a b) (k : nextH m b = some c) : Fol m a c := h.trans (.step k (.here _))
def IsFol (m : Hp) (l l' : List C) : Prop := Fol m l l' ∧ nextH m l' = none
theorem IsFol.uniq {m : Hp} {l a b : List C} (h : IsFol m l a) (k : IsFol m l b) : a = b := by
  obtain ⟨h1, h2⟩ := h
  obtain ⟨k1, k2⟩ := k
  induction h1 with
  | here l =>
    cases k1 with
    | here => rfl
    | step e _ => rw [h2] at e; cases e
  | step e _ ih =>
    cases k1 with
    | here => rw [k2] at e; cases e
    | step e' r' =>
      rw [e] at e'
      cases e'
      exact ih h2 r'
/-- How many values a variable may still lead through. -/
def rankH (m : Hp) (l : List C) : Nat := if isVarL l then (m.filter fun p => !lessN (varL l) p.1).length else 0
theorem look_mem {m : Hp} {x : Nm} {l : List C} (h : lookH m x = some l) : (x, l) ∈ m := by
  unfold lookH at h
  obtain ⟨p, hp, rfl⟩ := Option.map_eq_some_iff.1 h
  have h1 := List.find?_some hp
  have h2 := List.mem_of_find?_eq_some hp
  simp at h1
  subst h1
  exact h2
theorem filter_lt {α : Type} (p q : α → Bool) : ∀ (l : List α) (a : α), a ∈ l → q a = true → p a = false → (∀ x ∈ l, p x = true → q x = true) → (l.filter p).length < (l.filter q).length
  | [], a, h, _, _, _ => by simp at h
  | b :: r, a, h, hq, hp, hs => by
    have hle : ∀ r' : List α, (∀ x ∈ r', p x = true → q x = true) → (r'.filter p).length ≤ (r'.filter q).length := by
      intro r'
      induction r' with
      | nil => intro _; simp
      | cons x r' ih =>
        intro h'
        have i := ih (fun y hy => h' y (by simp [hy]))
        have j := h' x (by simp)
        simp only [List.filter_cons]
        cases hpx : p x
        · cases q x <;> simp <;> omega
        · simp [j hpx]; omega
    have hr := hle r (fun x hx => hs x (by simp [hx]))
    simp only [List.filter_cons]
    rcases List.mem_cons.1 h with rfl | h
    · simp [hq, hp]; omega
    · have := filter_lt p q r a h hq hp (fun x hx => hs x (by simp [hx]))
      have j := hs b (by simp)
      cases hpb : p b
      · cases q b <;> simp <;> omega
      · simp [j hpb]; omega
theorem rank_falls {m : Hp} (hD : DescH m) {l l' : List C} (h : nextH m l = some l') : rankH m l' < rankH m l := by
  unfold nextH at h
  split at h
  · next hv =>
    have hm := look_mem h
    have h0 : (!lessN (varL l) (varL l)) = true := by rw [lessN_irrefl]; rfl
    unfold rankH
    rw [if_pos hv]
    split
    · next hv' =>
      have hl := hD _ _ h hv'
      refine filter_lt _ _ m (varL l, l') hm h0 (by simp [hl]) (fun x _ hx => ?_)
      cases hc : lessN (varL l) x.1
      · rfl
      · rw [lessN_trans hl hc] at hx; cases hx
    · exact List.length_pos_of_mem (List.mem_filter.2 ⟨hm, h0⟩)
  · cases h
theorem rank_le (m : Hp) (l : List C) : rankH m l ≤ m.length := by
  unfold rankH
  split
  · exact List.length_filter_le _ _
  · omega
theorem fol_end {m : Hp} (hD : DescH m) : ∀ (n : Nat) (l : List C), rankH m l ≤ n → ∃ l', IsFol m l l'
  | 0, l, h => by
    cases hn : nextH m l with
    | none => exact ⟨l, .here l, hn⟩
    | some l' => have := rank_falls hD hn; omega
  | n + 1, l, h => by
    cases hn : nextH m l with
    | none => exact ⟨l, .here l, hn⟩
    | some l' =>
      have hr := rank_falls hD hn
      obtain ⟨l'', h1, h2⟩ := fol_end hD n l' (by omega)
      exact ⟨l'', .step hn h1, h2⟩
/-- Names rise. -/
def RisesH (m : Hp) : Prop := m.Pairwise fun p q => lessN p.1 q.1 = true
def insH (x : Nm) (l : List C) : Hp → Hp
  | [] => [(x, l)]
  | p :: r => if lessN x p.1 then (x, l) :: p :: r else p :: insH x l r
theorem look_ins (m : Hp) (x y : Nm) (l : List C) (h : lookH m x = none) : lookH (insH x l m) y = if x = y then some l else lookH m y := by
  induction m with
  | nil =>
    by_cases e : x = y
    · subst e; simp [insH, lookH]
    · have : (x == y) = false := by simpa using e
      simp [insH, lookH, e, this]
  | cons p r ih =>
    have hp : (p.1 == x) = false := by
      cases hc : (p.1 == x)
      · rfl
      · simp [lookH, hc] at h
    have hr : lookH r x = none := by
      unfold lookH at h ⊢
      rwa [List.find?_cons, hp] at h
    unfold insH
    split
    · by_cases e : x = y
      · subst e; simp [lookH]
      · have : (x == y) = false := by simpa using e
        simp [lookH, e, this]
    · have i := ih hr
      by_cases e : x = y
      · subst e
        rw [if_pos rfl] at i ⊢
        unfold lookH at i ⊢
        rw [List.find?_cons, hp]
        exact i
      · rw [if_neg e] at i ⊢
        unfold lookH at i ⊢
        rw [List.find?_cons, List.find?_cons]
        cases hc : (p.1 == y)
        · exact i
        · rfl
theorem desc_ins {m : Hp} {x : Nm} {l : List C} (hD : DescH m) (h : lookH m x = none) (hl : isVarL l = true → lessN (varL l) x = true) : DescH (insH x l m) := by
  intro y l' hy hv
  rw [look_ins m x y l h] at hy
  split at hy
  · next e =>
    cases hy
    rw [← e]
    exact hl hv
  · exact hD y l' hy hv
end Go.Proofs.YtljggjllijacjaaGreatDoor
