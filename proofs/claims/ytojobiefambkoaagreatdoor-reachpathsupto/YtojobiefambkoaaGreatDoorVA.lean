/- rightLocals and lacks. Contract of Put: for every term and row of locals it returns the term with them put in, or its error. Rows of names in memory; the reference HasName, SameNames. The reference Vars, VarsOf, Global. Contract of Vars: each name once, in the order in which they first come. Values of variables: the plain side. -/
import Derived.Test.YtojobiefambkoaaGreatDoorV2
import Derived.Test.YtojobiefambkoaaGreatDoorRA
import Derived.Maps.OwnIn
import Derived.Maps.Views
import Derived.DeepKeys4
namespace Go.Proofs.YtojobiefambkoaaGreatDoor
open Go.RowKit Go.Shelf
attribute [local go_sem] Oper.semAt_some
/-- A term may lie in the place of a local: it is empty, or right. -/
def emptyOrRight (l : List C) : Bool := decide ((l.length : Int) ≤ 0) || rightB l
def localsB (ls : List (List C)) : Bool := ls.all emptyOrRight
theorem locals_snoc (l : List (List C)) (k : Nat) (hk : k < l.length) (h : (l.take k).all emptyOrRight = true) (hi : emptyOrRight l[k] = true) : (l.take (k + 1)).all emptyOrRight = true := by
  rw [List.take_succ_eq_append_getElem hk, List.all_append, h]; simp [hi]
theorem locals_false (l : List (List C)) (k : Nat) (hk : k < l.length) (hi : emptyOrRight l[k] = false) : localsB l = false := by
  unfold localsB; rw [List.all_eq_false]; exact ⟨l[k], List.getElem_mem _, by simp [hi]⟩
/-- The variables of a right term. -/
theorem right_vars {l : List C} (h : rightB l = true) : ∀ x ∈ varsOf l, 0 ≤ x.2 ∧ -1 ≤ x.1 := by
  intro x hx
  unfold varsOf at hx
  obtain ⟨c, hc, rfl⟩ := List.mem_map.1 hx
  rw [List.mem_filter] at hc
  unfold rightB at h
  simp only [Bool.and_eq_true] at h
  have h1 := h.1.2
  unfold cellsB at h1
  have h2 := List.all_eq_true.1 h1 c hc.1
  have h3 : c.k = 4 := by simpa using hc.2
  unfold C.ok cellB at h2
  rw [h3] at h2
  simp [between] at h2
  simp; omega
/-- Is there no term in a place? -/
def lackB (ls : List (List C)) (n : Int) : Bool := decide ((ls.length : Int) ≤ n) || ((ls[n.toNat]?.getD []).length == 0)
def lacksB (l : List C) (ls : List (List C)) : Bool := (varsOf l).any fun x => x.1 == -1 && lackB ls x.2
end Go.Proofs.YtojobiefambkoaaGreatDoor

namespace Go.Proofs.YtojobiefambkoaaGreatDoor
open Go.RowKit Go.Shelf
def isLoc (c : C) : Bool := c.k == 4 && c.vn == -1
def putC (ls : List (List C)) (c : C) : List C := if isLoc c then ls[c.vk.toNat]?.getD [] else [c]
def putL (ls : List (List C)) (l : List C) : List C := l.flatMap (putC ls)
def putE (l : List C) (ls : List (List C)) : Int := if rightB l && localsB ls then (if lacksB l ls then 4 else if (256 : Int) < ((putL ls l).length : Int) then 5 else 0) else 6
def putT (l : List C) (ls : List (List C)) : List C := if putE l ls = 0 then putL ls l else []
theorem put_snoc (ls : List (List C)) (l : List C) (k : Nat) (hk : k < l.length) : putL ls (l.take (k + 1)) = putL ls (l.take k) ++ putC ls l[k] := by
  unfold putL
  rw [List.take_succ_eq_append_getElem hk, List.flatMap_append]; simp
theorem locals_len {ls : List (List C)} (h : localsB ls = true) : ∀ x ∈ ls, x.length ≤ 256 := by
  intro x hx
  unfold localsB at h
  have h1 := List.all_eq_true.1 h x hx
  unfold emptyOrRight at h1
  simp only [Bool.or_eq_true, decide_eq_true_eq] at h1
  rcases h1 with h1 | h1
  · omega
  · exact (right_len h1).2
theorem putC_len {ls : List (List C)} (h : localsB ls = true) (c : C) : (putC ls c).length ≤ 256 := by
  unfold putC
  split
  · cases hq : ls[c.vk.toNat]? with
    | none => simp
    | some x => simp; exact locals_len h x (List.mem_of_getElem? hq)
  · simp
theorem put_len {ls : List (List C)} (h : localsB ls = true) (l : List C) : (putL ls l).length ≤ 256 * l.length := by
  induction l with
  | nil => simp [putL]
  | cons a r ih =>
    have := putC_len h a
    simp [putL] at *; omega
/-- Nothing is lacking: each place has a term. -/
theorem not_lack {l : List C} {ls : List (List C)} (hr : rightB l = true) (h : lacksB l ls = false) (k : Nat) (hk : k < l.length) (h4 : (l[k].k == 4) = true) (h1 : (l[k].vn == -1) = true) : ∃ m : Nat, l[k].vk = m ∧ ∃ hm : m < ls.length, 1 ≤ ls[m].length := by
  have hx : (l[k].vn, l[k].vk) ∈ varsOf l := by
    unfold varsOf
    exact List.mem_map.2 ⟨l[k], List.mem_filter.2 ⟨List.getElem_mem _, h4⟩, rfl⟩
  have h0 := (right_vars hr _ hx).1
  unfold lacksB at h
  rw [List.any_eq_false] at h
  have h2 := h _ hx
  simp only [h1, Bool.true_and, lackB, Bool.or_eq_true, decide_eq_true_eq, beq_iff_eq, not_or] at h2
  refine ⟨l[k].vk.toNat, by simp at h0; omega, by omega, ?_⟩
  have h3 := h2.2
  rw [List.getElem?_eq_getElem (by omega)] at h3
  simp at h3
  cases hq : ls[l[k].vk.toNat] with
  | nil => exact absurd hq h3
  | cons a r => simp
theorem owns_form {w : World} {base : Nat} {e : TypeId} {s : Nat} {v : Value} {n : Nat} {xs : List Value} (h : w.ownsRow base e s v n xs) : ∃ ad cap, v = .slice ad n cap := by
  rcases h.2 with ⟨h1, h2⟩ | ⟨g, cap, cur, h1, _⟩
  · exact ⟨none, 0, by rw [h1, h2]⟩
  · exact ⟨_, _, h1⟩
theorem c56 (a b : Int) (w : World) : Calls Tryz.prog 76 #[.agg #[.int .i64 a, .int .i64 b]] w fun e w' => e = .returned (.bool (a == -1)) ∧ w' = w.alloc (.cells #[.int .i64 a, .int .i64 b] 49) :=
  (callsIn_wide (n := 6)).1 (isLocal_in Fence.wide 6 trivial rfl a b w)
theorem news_new (W : World) (c : C) : ∀ j u, (flat [c])[j]? = some u → (W.alloc (.cells #[.int .u8 c.k, .string c.t, .int .i64 c.n, .int .i64 c.vn, .int .i64 c.vk] 82)).cell? ((⟨W.heap.size, 0, none⟩ : Addr).add j) = some u := by
  intro j u hu
  rw [Addr.add_mid]
  exact range_new W (flat [c]) 82 j u hu
end Go.Proofs.YtojobiefambkoaaGreatDoor

namespace Go.Proofs.YtojobiefambkoaaGreatDoor
open Go.RowKit
attribute [local go_sem ↓] Go.wp_at_zero Go.wp_at_succ
abbrev Nm := Int × Int
def nmV (x : Nm) : List Value := [.int .i64 x.1, .int .i64 x.2]
def flatN (l : List Nm) : List Value := l.flatMap nmV
theorem flatN_append (a b : List Nm) : flatN (a ++ b) = flatN a ++ flatN b := by simp [flatN]
theorem flatN_length (l : List Nm) : (flatN l).length = l.length * 2 := by
  induction l with
  | nil => rfl
  | cons a r ih => simp [flatN, nmV] at *; omega
theorem flatN_get (l : List Nm) (i j : Nat) (hi : i < l.length) (hj : j < 2) : (flatN l)[2 * i + j]? = (nmV l[i])[j]? := by
  induction l generalizing i with
  | nil => simp at hi
  | cons a r ih =>
    cases i with
    | zero =>
      simp only [flatN, List.flatMap_cons]
      rw [List.getElem?_append_left (by simp [nmV]; omega)]
      simp
    | succ i =>
      simp only [flatN, List.flatMap_cons]
      rw [List.getElem?_append_right (by simp [nmV]; omega)]
      have e : 2 * (i + 1) + j - (nmV a).length = 2 * i + j := by simp [nmV]; omega
      rw [e]
      exact ih i (by simpa using hi)
theorem flatN_one (l : List Nm) : ∀ u ∈ flatN l, u.oneCell' = true := by
  intro u hu
  simp only [flatN, List.mem_flatMap] at hu
  obtain ⟨c, _, hc⟩ := hu
  simp only [nmV, List.mem_cons, List.not_mem_nil, or_false] at hc
  rcases hc with rfl | rfl <;> rfl
theorem name_cells {w : World} {b o : Nat} {l : List Nm} (h : w.rangeAt b o (flatN l)) (i : Nat) (hi : i < l.length) :
    w.cell? ⟨b, o + i * 2, none⟩ = some (.int .i64 l[i].1) ∧ w.cell? ⟨b, o + i * 2 + 1, none⟩ = some (.int .i64 l[i].2) := by
  have g : ∀ j v, j < 2 → (nmV l[i])[j]? = some v → w.cell? ⟨b, o + i * 2 + j, none⟩ = some v := by
    intro j v hj hv
    have := h (2 * i + j) v (by rw [flatN_get l i j hi hj]; exact hv)
    rw [show o + (2 * i + j) = o + i * 2 + j by omega] at this
    exact this
  exact ⟨g 0 _ (by omega) rfl, g 1 _ (by omega) rfl⟩
/-- A row of names in memory. -/
def NamesAt (w : World) (v : Value) (l : List Nm) : Prop :=
  l.length ≤ maxLen ∧ ((l = [] ∧ ∃ ad : Option Addr, v = .slice ad 0 0) ∨ ∃ b o cap : Nat, v = .slice (some ⟨b, o, none⟩) l.length cap ∧ w.rangeAt b o (flatN l) ∧ b < w.heap.size)
theorem NamesAt.below {w w' : World} {v : Value} {l : List Nm} (h : NamesAt w v l) (hb : Below w.heap.size w w') : NamesAt w' v l := by
  obtain ⟨h0, h⟩ := h
  refine ⟨h0, ?_⟩
  rcases h with h | ⟨b, o, cap, h1, h3, h4⟩
  · exact Or.inl h
  · exact Or.inr ⟨b, o, cap, h1, range_below h3 h4 hb, Nat.lt_of_lt_of_le h4 hb.size⟩
theorem NamesAt.form {w : World} {v : Value} {l : List Nm} (h : NamesAt w v l) : ∃ (ad : Option Addr) (cap : Nat), v = .slice ad l.length cap := by
  rcases h.2 with ⟨rfl, ad, rfl⟩ | ⟨b, o, cap, rfl, _⟩
  · exact ⟨ad, 0, rfl⟩
  · exact ⟨_, _, rfl⟩
def OwnN (w : World) (base : Nat) (u : Value) (l : List Nm) : Prop := w.ownsRow base 49 2 u l.length (flatN l)
theorem range_of_owns {w : World} {g : Nat} {cur : Array Value} {e : TypeId} {m : Nat} {xs : List Value} (h3 : w.heap[g]? = some (.cells cur e (0, 0))) (h7 : cur.toList.take m = xs) : w.rangeAt g 0 xs := by
  intro j u hu
  rw [cell_of_row _ _ _ _ _ _ h3]
  rw [← h7] at hu
  rw [List.getElem?_take] at hu
  split at hu
  · simpa using hu
  · cases hu
theorem namesAt_of_owns {w : World} {base : Nat} {v : Value} {l : List Nm} (h : OwnN w base v l) (hl : l.length ≤ maxLen) : NamesAt w v l := by
  refine ⟨hl, ?_⟩
  rcases h.2 with ⟨h1, h2⟩ | ⟨g, cap, cur, h1, h2, h3, h4, h5, h6, h7⟩
  · exact Or.inl ⟨List.eq_nil_of_length_eq_zero h2, none, h1⟩
  · exact Or.inr ⟨g, 0, cap, h1, range_of_owns h3 h7, (Array.getElem?_eq_some_iff.1 h3).1⟩
theorem owns_below {w w' : World} {base : Nat} {e : TypeId} {s n : Nat} {u : Value} {xs : List Value} (h : w.ownsRow base e s u n xs) (hb : Below w.heap.size w w') : w'.ownsRow base e s u n xs := by
  refine ⟨h.1, ?_⟩
  rcases h.2 with hn | ⟨g, cap, cur, h1, h2, h3, h4⟩
  · exact Or.inl hn
  · exact Or.inr ⟨g, cap, cur, h1, h2, (hb.block g (Array.getElem?_eq_some_iff.1 h3).1).trans h3, h4⟩
theorem eql23b (a b c d : Int) (w : World) :
    (binOp .eql 49 (.agg #[.int .i64 a, .int .i64 b]) (.agg #[.int .i64 c, .int .i64 d])).run Tryz.prog w = .ok (.bool (a == c && b == d)) w := by
  cases h1 : (a == c) <;> cases h2 : (b == d) <;> go_simp
theorem neq23 (a b c d : Int) (w : World) :
    (binOp .neq 49 (.agg #[.int .i64 a, .int .i64 b]) (.agg #[.int .i64 c, .int .i64 d])).run Tryz.prog w = .ok (.bool (!(a == c && b == d))) w := by
  cases h1 : (a == c) <;> cases h2 : (b == d) <;> go_simp
def eqN (x y : Nm) : Bool := x.1 == y.1 && x.2 == y.2
theorem eqN_iff (x y : Nm) : eqN x y = true ↔ x = y := by
  unfold eqN
  simp [Prod.ext_iff]
def hasN (l : List Nm) (x : Nm) : Bool := l.any fun y => eqN y x
theorem hasN_iff (l : List Nm) (x : Nm) : hasN l x = true ↔ x ∈ l := by
  unfold hasN
  simp only [List.any_eq_true, eqN_iff]
  exact ⟨fun ⟨y, h1, h2⟩ => h2 ▸ h1, fun h => ⟨x, h, rfl⟩⟩
set_option maxHeartbeats 1000000 in
theorem c43_nil (ad : Option Addr) (a b : Int) (w : World) :
    Calls Tryz.prog 37 #[.slice ad 0 0, .agg #[.int .i64 a, .int .i64 b]] w fun e w' => e = .returned (.bool false) ∧ Below w.heap.size w w' := by
  go_enter Tryz.func37, Tryz.ntmps37
  go_wp2_with fail
  refine wp_loop_rounds 1 ?_
  rw [rounds_succ]
  go_wp2_with fail
  go_ret
  exact ⟨rfl, below_alloc _ _⟩
set_option maxHeartbeats 2000000 in
theorem c43_in (l : List Nm) (b1 o1 c1 : Nat) (x : Nm) (w : World) (hr1 : w.rangeAt b1 o1 (flatN l)) (hc : l.length ≤ maxLen) (hb1 : b1 < w.heap.size) :
    Calls Tryz.prog 37 #[.slice (some ⟨b1, o1, none⟩) l.length c1, .agg #[.int .i64 x.1, .int .i64 x.2]] w fun e w' => e = .returned (.bool (hasN l x)) ∧ Below w.heap.size w w' := by
  unfold maxLen at hc
  have HR1 : Hid (w.rangeAt b1 o1 (flatN l)) := hr1
  have hB0 : ∀ o : Obj, Hid (Below w.heap.size w (w.alloc o)) := fun o => below_alloc w o
  have hP := Pair.new w 49 x.1 x.2
  clear hr1
  go_enter Tryz.func37, Tryz.ntmps37
  go_wp2_with fail
  go_loopw [5] (fun i wr => ∃ k : Nat, k ≤ l.length ∧ i = .int .i64 k ∧ Hid (hasN (l.take k) x = false) ∧ Hid (Pair wr w.heap.size 49 x.1 x.2) ∧ Below w.heap.size w wr) (fun i _ => l.length - (intOf i).toNat)
  case atStart => exact ⟨0, by omega, rfl, rfl, hP, (hB0 _).out⟩
  case round =>
    obtain ⟨k, hk, rfl, HU, HP, hbr⟩ := hrel
    by_cases hlt : k < l.length
    · have hlt' : (k : Int) < (l.length : Int) := by omega
      have hk0 : (0 : Int) ≤ (k : Int) := by omega
      obtain ⟨p0, p1⟩ := name_cells (range_below HR1.out hb1 hbr) k hlt
      have q0 := HP.out.cell0
      have q1 := HP.out.cell1
      have hN := eql23b l[k].1 l[k].2 x.1 x.2
      have e1 : (l[k].1 == x.1 && l[k].2 == x.2) = eqN l[k] x := rfl
      rw [e1] at hN
      clear e1
      have hPd : ∀ n, Hid (Pair (wr.drewN n) w.heap.size 49 x.1 x.2) := fun n => HP.out
      cases hq : eqN l[k] x
      · have hU : Hid (hasN (l.take (k + 1)) x = false) := by
          show hasN (l.take (k + 1)) x = false
          unfold hasN at *
          rw [List.take_succ_eq_append_getElem hlt, List.any_append, HU.out]; simp [hq]
        rw [hq] at hN
        clear hq
        go_wp2_with fail
        go_quiet (fail)
        go_wp2_with fail
        go_roundw
        case rel => exact ⟨k + 1, by omega, by go_num, hU, hPd _, below_drewN hbr _⟩
        case measure => simp [intOf]; omega
      · have hF : Hid (hasN l x = true) := by
          show hasN l x = true
          unfold hasN
          rw [List.any_eq_true]
          exact ⟨l[k], List.getElem_mem _, hq⟩
        rw [hq] at hN
        clear hq
        go_wp2_with fail
        go_quiet (fail)
        go_wp2_with fail
        go_ret
        exact ⟨by rw [hF.out]; rfl, below_drewN hbr _⟩
    · have hF : Hid (hasN l x = false) := by
        have h := HU.out; rw [List.take_of_length_le (by omega)] at h; exact h
      have hlt' : ¬ ((k : Int) < (l.length : Int)) := by omega
      go_wp2_with fail
      go_ret
      exact ⟨by rw [hF.out]; rfl, hbr⟩
theorem c43 (l : List Nm) (v : Value) (x : Nm) (w : World) (h : NamesAt w v l) :
    Calls Tryz.prog 37 #[v, .agg #[.int .i64 x.1, .int .i64 x.2]] w fun e w' => e = .returned (.bool (hasN l x)) ∧ Below w.heap.size w w' := by
  obtain ⟨hc, h⟩ := h
  rcases h with ⟨rfl, ad, rfl⟩ | ⟨b, o, cap, rfl, h3, h4⟩
  · exact c43_nil ad x.1 x.2 w
  · exact c43_in l b o cap x w h3 hc h4
def eqNUpto (l m : List Nm) (k : Nat) : Prop := ∀ j, j < k → ∀ (h1 : j < l.length) (h2 : j < m.length), eqN l[j] m[j] = true
def eqNs (l m : List Nm) : Bool := decide (l = m)
theorem eqNs_true {l m : List Nm} (h : l.length = m.length) (hu : eqNUpto l m l.length) : eqNs l m = true := by
  unfold eqNs
  rw [decide_eq_true_eq]
  refine List.ext_getElem h fun j h1 h2 => ?_
  exact (eqN_iff _ _).1 (hu j h1 h1 h2)
theorem eqNs_false {l m : List Nm} (j : Nat) (h1 : j < l.length) (h2 : j < m.length) (h : eqN l[j] m[j] = false) : eqNs l m = false := by
  unfold eqNs
  rw [decide_eq_false_iff_not]
  intro e
  subst e
  have := (eqN_iff l[j] l[j]).2 rfl
  rw [h] at this; cases this
end Go.Proofs.YtojobiefambkoaaGreatDoor

namespace Go.Proofs.YtojobiefambkoaaGreatDoor
open Go.RowKit
def addN (acc : List Nm) (x : Nm) : List Nm := if hasN acc x then acc else acc ++ [x]
/-- Each once, in the order in which they first come. -/
def nubN (xs : List Nm) : List Nm := xs.foldl addN []
theorem nubN_snoc (xs : List Nm) (x : Nm) : nubN (xs ++ [x]) = addN (nubN xs) x := by simp [nubN]
theorem addN_len (acc : List Nm) (x : Nm) : (addN acc x).length ≤ acc.length + 1 := by unfold addN; split <;> simp
theorem foldN_len (xs acc : List Nm) : (xs.foldl addN acc).length ≤ acc.length + xs.length := by
  induction xs generalizing acc with
  | nil => simp
  | cons a r ih =>
    have h1 := ih (addN acc a)
    have h2 := addN_len acc a
    simp; omega
theorem nubN_len (xs : List Nm) : (nubN xs).length ≤ xs.length := by
  have := foldN_len xs []; simp at this; exact this
theorem info23 : ∃ i, Tryz.prog.info? 49 = some i ∧ i.zero = some (.agg #[.int .i64 0, .int .i64 0]) ∧ i.size = 2 ∧ i.bytes = 16 := by
  have h : (Tryz.prog.info? 49).map (fun i => (i.zero, i.size, i.bytes)) = some (some (.agg #[.int .i64 0, .int .i64 0]), 2, 16) := by kernel_rfl
  cases hq : Tryz.prog.info? 49 with
  | none => rw [hq] at h; cases h
  | some i =>
    rw [hq] at h
    simp only [Option.map_some, Option.some.injEq, Prod.mk.injEq] at h
    exact ⟨i, rfl, h.1, h.2.1, h.2.2⟩
theorem newsN_new (W : World) (x : Nm) : ∀ j u, (flatN [x])[j]? = some u → (W.alloc (.cells #[.int .i64 x.1, .int .i64 x.2] 49)).cell? ((⟨W.heap.size, 0, none⟩ : Addr).add j) = some u := by
  intro j u hu
  rw [Addr.add_mid]
  exact range_new W (flatN [x]) 49 j u hu
/-- What has come of the first k terms and j cells of the next. -/
def metN (ls : List (List C)) (k j : Nat) : List Nm := nubN (varsAll (ls.take k) ++ varsOf ((ls[k]?.getD []).take j))
theorem metN_len (ls : List (List C)) (k j : Nat) (hk : k < ls.length) : (metN ls k j).length ≤ (varsAll ls).length := by
  unfold metN
  have h := (vars_at_prefix ls k j hk).length_le
  have h2 := nubN_len (varsAll (ls.take k) ++ varsOf (ls[k].take j))
  simp only [List.getElem?_eq_getElem hk, Option.getD_some]
  omega
theorem metN_zero (ls : List (List C)) (k : Nat) : metN ls k 0 = nubN (varsAll (ls.take k)) := by simp [metN, varsOf]
theorem metN_end (ls : List (List C)) (k j : Nat) (hk : k < ls.length) (hj : ls[k].length ≤ j) : metN ls k j = nubN (varsAll (ls.take (k + 1))) := by
  unfold metN
  rw [varsAll_snoc ls k hk]
  simp [List.getElem?_eq_getElem hk, List.take_of_length_le hj]
theorem metN_no (ls : List (List C)) (k j : Nat) (hk : k < ls.length) (hj : j < ls[k].length) (h : (ls[k][j].k == 4) = false) : metN ls k (j + 1) = metN ls k j := by
  unfold metN
  simp only [List.getElem?_eq_getElem hk, Option.getD_some]
  rw [varsOf_snoc_no ls[k] j hj h]
theorem metN_yes (ls : List (List C)) (k j : Nat) (hk : k < ls.length) (hj : j < ls[k].length) (h : (ls[k][j].k == 4) = true) : metN ls k (j + 1) = addN (metN ls k j) (ls[k][j].vn, ls[k][j].vk) := by
  unfold metN
  simp only [List.getElem?_eq_getElem hk, Option.getD_some]
  rw [varsOf_snoc_yes ls[k] j hj h, ← List.append_assoc, nubN_snoc]
set_option maxHeartbeats 1000000 in
theorem c35_nil (ad : Option Addr) (w : World) :
    Calls Tryz.prog 40 #[.slice ad 0 0] w fun e w' => e = .returned (.slice none 0 0) ∧ Below w.heap.size w w' := by
  go_enter Tryz.func40, Tryz.ntmps40
  go_wp2_with fail
  refine wp_loop_rounds 1 ?_
  rw [rounds_succ]
  go_wp2_with fail
  go_ret
  exact ⟨rfl, Below.refl _ _⟩
set_option maxRecDepth 100000 in
set_option maxHeartbeats 4000000 in
theorem c35_in (ls : List (List C)) (b o cap : Nat) (vs : List Value) (w : World) (hb : b < w.heap.size) (hc : ls.length ≤ maxLen) (hvl : vs.length = ls.length) (hr : w.rangeAt b o vs) (ht : ∀ (i : Nat) (u : Value) (x : List C), vs[i]? = some u → ls[i]? = some x → TermAt w u x) (hT : (varsAll ls).length ≤ 1000000000000) :
    Calls Tryz.prog 40 #[.slice (some ⟨b, o, none⟩) ls.length cap] w fun e w' => ∃ u, e = .returned u ∧ OwnN w' w.heap.size u (nubN (varsAll ls)) ∧ Below w.heap.size w w' := by
  unfold maxLen at hc
  have HR : Hid (w.rangeAt b o vs) := hr
  have HT : Hid (∀ (i : Nat) (u : Value) (x : List C), vs[i]? = some u → ls[i]? = some x → TermAt w u x) := ht
  have HV : Hid (vs.length = ls.length) := hvl
  obtain ⟨i0, hi, hz, hs, hby⟩ := info23
  clear hr ht hvl
  go_enter Tryz.func40, Tryz.ntmps40
  go_wp2_with fail
  go_loopw [3, 4] (fun out i wr => ∃ k : Nat, k ≤ ls.length ∧ i = .int .i64 k ∧ Hid (OwnN wr w.heap.size out (nubN (varsAll (ls.take k)))) ∧ Below w.heap.size w wr) (fun _ i _ => ls.length - (intOf i).toNat)
  case atStart => exact ⟨0, Nat.zero_le _, rfl, World.ownsRow_nil _ _ _ _, Below.refl _ _⟩
  case round =>
    obtain ⟨k, hk, rfl, hown, hbr⟩ := hrel
    by_cases hlt : k < ls.length
    · have hlt' : (k : Int) < (ls.length : Int) := by omega
      have hkv : k < vs.length := by rw [HV.out]; exact hlt
      have htm := HT.out k _ _ (List.getElem?_eq_getElem hkv) (List.getElem?_eq_getElem hlt)
      obtain ⟨ak, ck, hfk⟩ := htm.form
      have hl63 : ls[k].length ≤ 2 ^ 63 - 1 := htm.1.1
      have HTA : Hid (TermAt w vs[k] ls[k]) := htm
      have HP : Hid (∀ wr, Below w.heap.size w wr → wr.cell? ⟨b, o + k, none⟩ = some (.slice ak ls[k].length ck)) := fun wr h => by
        have := row_cell (range_below HR.out hb h) k hkv
        rw [this, hfk]
      rw [hfk] at HTA
      clear htm hfk
      go_wp2_with fail
      go_loopw [3, 5] (fun out i wr => ∃ j : Nat, j ≤ ls[k].length ∧ i = .int .i64 j ∧ Hid (OwnN wr w.heap.size out (metN ls k j)) ∧ Below w.heap.size w wr) (fun _ i _ => ls[k].length - (intOf i).toNat)
      case atStart => exact ⟨0, Nat.zero_le _, rfl, by show OwnN _ _ _ _; rw [metN_zero]; exact hown.out, hbr⟩
      case round =>
        obtain ⟨j, hj, rfl, hown2, hbr2⟩ := hrel
        have p0 := HP.out wr hbr2
        have hsz := hbr2.size
        by_cases hltj : j < ls[k].length
        · have hltj' : (j : Int) < (ls[k].length : Int) := by omega
          obtain ⟨_, hta2⟩ := HTA.out
          rcases hta2 with ⟨hnil, _⟩ | ⟨bk, ok, ck2, hf, _, _, hrk, hbk⟩
          · rw [hnil] at hltj; simp at hltj
          simp only [Value.slice.injEq, true_and] at hf
          obtain ⟨hf1, hf2⟩ := hf
          subst hf1 hf2
          obtain ⟨q0, q1, q2, q3, q4⟩ := term_cells (range_below hrk hbk hbr2) j hltj
          have hml := metN_len ls k j hlt
          clear hrk
          cases h4 : (ls[k][j].k == 4)
          · have hE : Hid (metN ls k (j + 1) = metN ls k j) := metN_no ls k j hlt hltj h4
            go_wp2_with fail
            go_roundw
            case rel => exact ⟨j + 1, by omega, by go_num, by show OwnN _ _ _ _; rw [hE.out]; exact hown2.out.alloc _, hbr2.alloc hsz _⟩
            case measure => simp [intOf]; omega
          · have hE0 := metN_yes ls k j hlt hltj h4
            have H43 := fun ob => c43 (metN ls k j) _ (ls[k][j].vn, ls[k][j].vk) (wr.alloc ob) ((namesAt_of_owns hown2.out (by unfold maxLen; omega)).below (below_alloc _ ob))
            dsimp only at H43
            cases hh : hasN (metN ls k j) (ls[k][j].vn, ls[k][j].vk)
            · have hE : Hid (metN ls k (j + 1) = metN ls k j ++ [(ls[k][j].vn, ls[k][j].vk)]) := by
                show metN ls k (j + 1) = _
                rw [hE0]; unfold addN; rw [hh]; rfl
              rw [hh] at H43
              have H43 : Hid (∀ ob, _) := H43
              clear hE0 hh
              go_wp2_with fail
              refine (H43.out _).mono ?_
              rintro e w2 ⟨rfl, hb2⟩
              obtain ⟨hcc, hff⟩ := bcell hb2
              have hz2 : wr.heap.size < w2.heap.size := by have := hb2.size; simp at this; omega
              have hw2 : Hid (Below w.heap.size w w2) := (hbr2.alloc hsz _).trans (hb2.mono (by simp; omega))
              have hown3 : Hid (OwnN w2 w.heap.size _ (metN ls k j)) := owns_below (hown2.out.alloc _) hb2
              have hnews := newsN_new w2 (ls[k][j].vn, ls[k][j].vk)
              have hnews : Hid (∀ j' u, (flatN [(ls[k][j].vn, ls[k][j].vk)])[j']? = some u → (w2.alloc (.cells #[.int .i64 ls[k][j].vn, .int .i64 ls[k][j].vk] 49)).cell? ((⟨w2.heap.size, 0, none⟩ : Addr).add j') = some u) := hnews
              have hlen : Hid ((flatN [(ls[k][j].vn, ls[k][j].vk)]).length = 1 * 2) := rfl
              go_wp2_with (at_builtin; refine wpList_append_own _ rfl _ _ 23 rfl w.heap.size 49 i0 (.agg #[.int .i64 0, .int .i64 0]) 2 16 Tryz.underlying23 hi hz hs hby rfl (by decide) _ _ _ rfl (hown3.out.alloc _) ⟨w2.heap.size, 0, none⟩ 1 1 (flatN [(ls[k][j].vn, ls[k][j].vk)]) rfl hlen.out hnews.out (flatN_one _) (by unfold maxLen; omega) (by omega) (by simp; omega) ?_)
              intro v' w3 hown' hgrow hnil
              have hown4 : Hid (OwnN w3 w.heap.size v' (metN ls k (j + 1))) := by
                show w3.ownsRow w.heap.size 49 2 v' _ _
                rw [hE.out, flatN_append, List.length_append]; exact hown'
              have hbr3 : Hid (Below w.heap.size w w3) := (hw2.out.alloc (by omega) _).grown hgrow (by simp; omega) (fun g hg => (hown3.out.lt g hg).1)
              clear hgrow hnil
              go_wp2_with fail
              go_roundw
              case rel => exact ⟨j + 1, by omega, by go_num, hown4, hbr3.out⟩
              case measure => simp [intOf]; omega
            · have hE : Hid (metN ls k (j + 1) = metN ls k j) := by
                show metN ls k (j + 1) = _
                rw [hE0]; unfold addN; rw [hh]; rfl
              rw [hh] at H43
              have H43 : Hid (∀ ob, _) := H43
              clear hE0 hh
              go_wp2_with fail
              refine (H43.out _).mono ?_
              rintro e w2 ⟨rfl, hb2⟩
              have hw2 : Hid (Below w.heap.size w w2) := (hbr2.alloc hsz _).trans (hb2.mono (by simp; omega))
              have hown3 : Hid (OwnN w2 w.heap.size _ (metN ls k j)) := owns_below (hown2.out.alloc _) hb2
              go_wp2_with fail
              go_roundw
              case rel => exact ⟨j + 1, by omega, by go_num, by show OwnN _ _ _ _; rw [hE.out]; exact hown3.out, hw2.out⟩
              case measure => simp [intOf]; omega
        · have hlt2 : ¬ ((j : Int) < (ls[k].length : Int)) := by omega
          have hE : Hid (metN ls k j = nubN (varsAll (ls.take (k + 1)))) := metN_end ls k j hlt (by omega)
          go_wp2_with fail
          go_roundw
          case rel => exact ⟨k + 1, by omega, by go_num, by show OwnN _ _ _ _; rw [← hE.out]; exact hown2.out, hbr2⟩
          case measure => simp [intOf]; omega
    · have hlt' : ¬ ((k : Int) < (ls.length : Int)) := by omega
      rw [List.take_of_length_le (by omega)] at hown
      go_wp2_with fail
      go_ret
      exact ⟨_, rfl, hown.out, hbr⟩
theorem c35 (ls : List (List C)) (v : Value) (w : World) (h : RowAt w v ls) (hT : (varsAll ls).length ≤ 1000000000000) :
    Calls Tryz.prog 40 #[v] w fun e w' => ∃ u, e = .returned u ∧ OwnN w' w.heap.size u (nubN (varsAll ls)) ∧ Below w.heap.size w w' := by
  obtain ⟨hc, h⟩ := h
  rcases h with ⟨rfl, ad, rfl⟩ | ⟨b, o, cap, vs, rfl, h2, h3, h4, h5, h6, h7⟩
  · exact (c35_nil ad w).mono fun e w' ⟨h1, h2⟩ => ⟨_, h1, World.ownsRow_nil _ _ _ _, h2⟩
  · exact c35_in ls b o cap vs w h4 hc h5 h6 h7 hT
theorem row_one (w : World) (v : Value) (l : List C) (h : TermAt w v l) : RowAt (w.alloc (.cells #[v] 64)) (.slice (some ⟨w.heap.size, 0, none⟩) 1 1) [l] := by
  refine ⟨by simp [maxLen], .inr ⟨w.heap.size, 0, 1, [v], rfl, by simp, by simp [maxLen], by simp, rfl, range_new w [v] 64, ?_⟩⟩
  intro i u x hu hx
  match i, hu, hx with
  | 0, hu, hx => simp at hu hx; subst hu hx; exact h.below (below_alloc _ _)
set_option maxHeartbeats 1000000 in
theorem c42 (l : List C) (v : Value) (w : World) (h : TermAt w v l) (hT : l.length ≤ 1000000000000) :
    Calls Tryz.prog 70 #[v] w fun e w' => ∃ u, e = .returned u ∧ OwnN w' w.heap.size u (nubN (varsOf l)) ∧ Below w.heap.size w w' := by
  have hvl : (varsAll [l]).length ≤ 1000000000000 := by
    have : (varsOf l).length ≤ l.length := by unfold varsOf; rw [List.length_map]; exact List.length_filter_le _ _
    simp [varsAll]; omega
  have hva : varsAll [l] = varsOf l := by simp [varsAll]
  have H35 := c35 [l] _ _ (row_one w v l h) hvl
  rw [hva] at H35
  obtain ⟨ad, cap, hf⟩ := h.form
  have hl63 : l.length ≤ 2 ^ 63 - 1 := h.1.1
  rw [hf] at H35
  rw [hf]
  clear h hf hva hvl
  go_enter Tryz.func70, Tryz.ntmps70
  go_wp2_with fail
  refine H35.mono ?_
  rintro e w' ⟨u, rfl, hO, hb⟩
  obtain ⟨g, c2, rfl⟩ := owns_form hO
  have HO : Hid _ := hO
  clear hO
  go_wp2_with fail
  go_ret
  refine ⟨_, rfl, ⟨HO.out.1, ?_⟩, (below_alloc w _).trans (hb.mono (by simp))⟩
  rcases HO.out.2 with h | ⟨g', cap', cur, h1, h2, h3⟩
  · exact .inl h
  · exact .inr ⟨g', cap', cur, h1, by simp at h2; omega, h3⟩
def refGlobalB (l : List C) : Bool := rightB l && (varsOf l).all (fun x => !decide (x.1 < 0))
set_option maxHeartbeats 1000000 in
theorem c37_no (l : List C) (v : Value) (w : World) (_h : TermAt w v l) (hr : rightB l = false) (H23 : Calls Tryz.prog 79 #[v] w fun e w' => e = .returned (.bool (rightB l)) ∧ Below w.heap.size w w') :
    Calls Tryz.prog 57 #[v] w fun e w' => e = .returned (.bool (refGlobalB l)) ∧ Below w.heap.size w w' := by
  have e1 : refGlobalB l = false := by unfold refGlobalB; rw [hr]; rfl
  rw [e1]
  rw [hr] at H23
  clear e1 hr _h
  go_enter Tryz.func57, Tryz.ntmps57
  go_wp2_with fail
  refine H23.mono ?_
  rintro e w1 ⟨rfl, hb1⟩
  go_wp2_with fail
  go_ret
  exact ⟨rfl, hb1⟩
set_option maxHeartbeats 1000000 in
theorem c37_yes (l : List C) (v : Value) (w : World) (h : TermAt w v l) (hr : rightB l = true) (H23 : Calls Tryz.prog 79 #[v] w fun e w' => e = .returned (.bool (rightB l)) ∧ Below w.heap.size w w') :
    Calls Tryz.prog 57 #[v] w fun e w' => e = .returned (.bool (refGlobalB l)) ∧ Below w.heap.size w w' := by
  have hrl := right_len hr
  have e1 : refGlobalB l = (varsOf l).all (fun x => !decide (x.1 < 0)) := by unfold refGlobalB; rw [hr]; rfl
  rw [e1]
  rw [hr] at H23
  clear e1 hr
  obtain ⟨_, h⟩ := h
  rcases h with ⟨rfl, ad, rfl⟩ | ⟨b, o, cap, rfl, h2, h5, h3, h4⟩
  · simp at hrl
  have HR : Hid (w.rangeAt b o (flat l)) := h3
  clear h3 h2 h5
  go_enter Tryz.func57, Tryz.ntmps57
  go_wp2_with fail
  refine H23.mono ?_
  rintro e w1 ⟨rfl, hb1⟩
  go_wp2_with fail
  go_loopw [3] (fun i wr => ∃ k : Nat, k ≤ l.length ∧ i = .int .i64 k ∧ Hid ((varsOf (l.take k)).all (fun x => !decide (x.1 < 0)) = true) ∧ Below w.heap.size w wr) (fun i _ => l.length - (intOf i).toNat)
  case atStart => exact ⟨0, Nat.zero_le _, rfl, rfl, hb1⟩
  case round =>
    obtain ⟨k, hk, rfl, hall, hbr⟩ := hrel
    by_cases hlt : k < l.length
    · have hlt' : (k : Int) < (l.length : Int) := by omega
      obtain ⟨q0, q1, q2, q3, q4⟩ := term_cells (range_below HR.out h4 hbr) k hlt
      cases hk4 : (l[k].k == 4)
      · have hE : Hid ((varsOf (l.take (k + 1))).all (fun x => !decide (x.1 < 0)) = true) := by
          show (varsOf (l.take (k + 1))).all _ = true
          rw [varsOf_snoc_no l k hlt hk4]; exact hall.out
        go_wp2_with fail
        go_roundw
        case rel => exact ⟨k + 1, by omega, by go_num, hE, hbr⟩
        case measure => simp [intOf]; omega
      · by_cases hneg : l[k].vn < 0
        · have hF : Hid ((varsOf l).all (fun x => !decide (x.1 < 0)) = false) := by
            show (varsOf l).all _ = false
            rw [List.all_eq_false]
            refine ⟨(l[k].vn, l[k].vk), ?_, by simp [hneg]⟩
            unfold varsOf
            exact List.mem_map.2 ⟨l[k], List.mem_filter.2 ⟨List.getElem_mem _, hk4⟩, rfl⟩
          go_wp2_with fail
          go_ret
          exact ⟨by rw [hF.out]; rfl, hbr⟩
        · have hE : Hid ((varsOf (l.take (k + 1))).all (fun x => !decide (x.1 < 0)) = true) := by
            show (varsOf (l.take (k + 1))).all _ = true
            rw [varsOf_snoc_yes l k hlt hk4, List.all_append, hall.out]; simp; omega
          go_wp2_with fail
          go_roundw
          case rel => exact ⟨k + 1, by omega, by go_num, hE, hbr⟩
          case measure => simp [intOf]; omega
    · have hlt' : ¬ ((k : Int) < (l.length : Int)) := by omega
      have hF : Hid ((varsOf l).all (fun x => !decide (x.1 < 0)) = true) := by
        have h := hall.out; rw [List.take_of_length_le (by omega)] at h; exact h
      go_wp2_with fail
      go_ret
      exact ⟨by rw [hF.out]; rfl, hbr⟩
end Go.Proofs.YtojobiefambkoaaGreatDoor

namespace Go.Proofs.YtojobiefambkoaaGreatDoor
open Go.RowKit Go.Shelf
attribute [local go_sem] Oper.semAt_some
def wfN (x : Nm) : Prop := (Lit.int .i64 x.1).wf = true ∧ (Lit.int .i64 x.2).wf = true
def kLit (x : Nm) : Lit := .string (keyBytes [.int .i64 x.1, .int .i64 x.2])
theorem law23 : WideMaps.KeyLaw Tryz.prog 49 := deep_law_laid (by kernel_rfl) (m := 2) (by omega) (of_decide_eq_true (by kernel_rfl)) (by kernel_rfl) (by rw [Tryz.underlying49])
theorem keyed23 : Maps.Keyed Tryz.prog 49 := Maps.Keyed.of_law law23
theorem key23 (x : Nm) (h : wfN x) : keyOf Tryz.prog 49 (.agg #[.int .i64 x.1, .int .i64 x.2]) = some (kLit x) := by
  obtain ⟨h1, h2⟩ := h
  have hk : Tryz.prog.keyType 49 = true := by kernel_rfl
  have hc : Tryz.prog.cellsOf 49 = 2 := by kernel_rfl
  have hc3 : Tryz.prog.cellsOf 3 = 1 := by kernel_rfl
  have hs : ∃ n, Tryz.prog.types.size = n + 1 := ⟨Tryz.prog.types.size - 1, by have : 0 < Tryz.prog.types.size := of_decide_eq_true (by kernel_rfl); omega⟩
  obtain ⟨n, hs⟩ := hs
  have hf : (Value.agg #[.int .i64 x.1, .int .i64 x.2]).formed Tryz.prog 49 = true := by simp [Value.formed, Tryz.underlying49, hc]
  unfold keyOf
  rw [Tryz.underlying49]
  simp only [hk, hf, Bool.and_self, if_true, hs]
  simp [Program.keyLits, Tryz.underlying49, Tryz.underlying3, hc, hc3, Value.cells, h1, h2, kLit]
theorem kLit_inj {x y : Nm} (hx : wfN x) (hy : wfN y) (h : kLit x = kLit y) : x = y := by
  have h1 := key23 x hx
  have h2 := key23 y hy
  rw [← h] at h2
  have h3 := law23.inj h1 h2
  simp at h3
  exact Prod.ext h3.1 h3.2
def setD (l : List Nm) : DataW Unit := Maps.setOf (.agg []) (l.map kLit)
theorem has_setD (l : List Nm) (x : Nm) (hl : ∀ y ∈ l, wfN y) (hx : wfN x) : Maps.has (setD l) (kLit x) = hasN l x := by
  unfold setD
  rw [Maps.has_setOf _ _ _ (fun y hy => by obtain ⟨z, hz, rfl⟩ := List.mem_map.1 hy; exact keyed23.key (key23 z (hl z hz)))]
  rw [Bool.eq_iff_iff, hasN_iff, List.any_eq_true]
  constructor
  · rintro ⟨y, hy, h⟩
    obtain ⟨z, hz, rfl⟩ := List.mem_map.1 hy
    have := kLit_inj (hl z hz) hx (WideAt.sameKey_eq h)
    subst this; exact hz
  · intro h
    exact ⟨kLit x, List.mem_map.2 ⟨x, h, rfl⟩, WideAt.sameKey_self (keyed23.key (key23 x hx))⟩
theorem setD_snoc (l : List Nm) (x : Nm) : setD (l ++ [x]) = (setD l).put (kLit x) (.agg []) := by
  unfold setD; rw [List.map_append, List.map_singleton, Maps.setOf_snoc]
theorem addN_mem (acc : List Nm) (x y : Nm) (h : y ∈ addN acc x) : y ∈ acc ∨ y = x := by
  unfold addN at h
  split at h
  · exact .inl h
  · rcases List.mem_append.1 h with h | h
    · exact .inl h
    · exact .inr (by simpa using h)
theorem foldN_mem (xs acc : List Nm) (y : Nm) (h : y ∈ xs.foldl addN acc) : y ∈ acc ∨ y ∈ xs := by
  induction xs generalizing acc with
  | nil => exact .inl h
  | cons a r ih =>
    rcases ih (addN acc a) h with h | h
    · rcases addN_mem _ _ _ h with h | h
      · exact .inl h
      · exact .inr (by simp [h])
    · exact .inr (by simp [h])
theorem nubN_mem (xs : List Nm) (y : Nm) (h : y ∈ nubN xs) : y ∈ xs := by
  rcases foldN_mem xs [] y h with h | h
  · simp at h
  · exact h
theorem zero74 (w : World) : (zeroValue 116).run Tryz.prog w = .ok (.agg #[]) w := by kernel_rfl
abbrev WN := { x : Nm // wfN x }
def nubP (pre : List WN) : List Nm := nubN (pre.map (·.1))
theorem nubP_snoc (pre : List WN) (x : WN) : nubP (pre ++ [x]) = addN (nubP pre) x.1 := by
  unfold nubP; rw [List.map_append, List.map_singleton, nubN_snoc]
theorem nubP_wf (pre : List WN) : ∀ y ∈ nubP pre, wfN y := by
  intro y hy
  obtain ⟨z, hz, rfl⟩ := List.mem_map.1 (nubN_mem _ _ hy)
  exact z.2
theorem row_not_map {w : World} {base : Nat} {e : TypeId} {s n m b : Nat} {v : Value} {xs : List Value} {P : Program} {k : TypeId} {D : DataW Unit} (h : w.ownsRow base e s v n xs) (hm : w.ownsMap P k unitElem b m D) : v.ownBlock ≠ some b := by
  obtain ⟨es, ck, hh, _⟩ := hm
  rcases h.2 with ⟨rfl, _⟩ | ⟨g, cap, cur, rfl, _, hg, _⟩
  · simp [Value.ownBlock]
  · intro e1
    simp [Value.ownBlock] at e1
    subst e1
    rw [hh] at hg; cases hg
theorem map_keeps {w w' : World} {m b : Nat} {P : Program} {k : TypeId} {D : DataW Unit} (hm : w.ownsMap P k unitElem b m D) (hk : KeepsOthers w w') : w'.ownsMap P k unitElem b m D := by
  obtain ⟨es, ck, hh, h⟩ := hm
  exact ⟨es, ck, hk.same _ _ hh rfl, h⟩
set_option maxRecDepth 100000 in
set_option maxHeartbeats 4000000 in
theorem c34 (ls : List (List C)) (v : Value) (w : World) (hR : RowAt w v ls) (hT : (varsAll ls).length ≤ 1000000000000) (hW : ∀ x ∈ varsAll ls, wfN x) :
    Calls Tryz.prog 36 #[v] w fun e w' => ∃ u, e = .returned u ∧ OwnN w' w.heap.size u (nubN (varsAll ls)) ∧ Below w.heap.size w w' := by
  refine (callsIn_wide (n := 6)).1 ?_
  have HRow : Hid (RowAt w v ls) := hR
  obtain ⟨ad, cap, hv⟩ := hR.form
  subst hv
  obtain ⟨i0, hi, hz, hs, hby⟩ := info23
  have hmm := @run_makeMap Tryz.prog
  clear hR
  refine callsIn_of_wp_marks Tryz.func36 rfl trivial ?_ rfl
  simp only [Tryz.ntmps36, List.size_toArray, List.length_cons, List.length_nil, Nat.reduceAdd, Nat.reduceSub, Array.replicate_succ, Array.replicate_zero, List.push_toArray, List.append_toArray, List.nil_append, List.cons_append]
  gi_wp2_with (refine ⟨trivial, ?_⟩; gi_at_call 68; refine (variables_in Fence.wide _ trivial rfl _ _ ⟨_, _, _, rfl⟩).mono ?_; rintro e w' ⟨rfl, rfl⟩)
  have bN := (((Boxed.new w 23 (.slice none 0 0)).alloc (.map #[] 0)).alloc (.cells #[.map (some (w.heap.size + 1))] 102)).alloc (.cells #[.slice ad ls.length cap] 24)
  have mM := ((World.ownsMap_made (w.alloc (.cells #[.slice none 0 0] 23)) Tryz.prog 49 (unitElem (H := Unit))).alloc (.cells #[.map (some (w.heap.size + 1))] 102)).alloc (.cells #[.slice ad ls.length cap] 24)
  have bM := (Boxed.new ((w.alloc (.cells #[.slice none 0 0] 23)).alloc (.map #[] 0)) 102 (.map (some (w.heap.size + 1)))).alloc (.cells #[.slice ad ls.length cap] 24)
  have bL := Boxed.new (((w.alloc (.cells #[.slice none 0 0] 23)).alloc (.map #[] 0)).alloc (.cells #[.map (some (w.heap.size + 1))] 102)) 24 (.slice ad ls.length cap)
  simp only [World.size_alloc] at mM bM bL
  have hB0 : Below w.heap.size w ((((w.alloc (.cells #[.slice none 0 0] 23)).alloc (.map #[] 0)).alloc (.cells #[.map (some (w.heap.size + 1))] 102)).alloc (.cells #[.slice ad ls.length cap] 24)) := ((((Below.refl _ w).alloc (Nat.le_refl _) _).alloc (by simp) _).alloc (by simp; omega) _).alloc (by simp; omega) _
  have hsz : ((((w.alloc (.cells #[.slice none 0 0] 23)).alloc (.map #[] 0)).alloc (.cells #[.map (some (w.heap.size + 1))] 102)).alloc (.cells #[.slice ad ls.length cap] 24)).heap.size = w.heap.size + 4 := by simp
  obtain ⟨W0, hW0⟩ : ∃ W0, ((((w.alloc (.cells #[.slice none 0 0] 23)).alloc (.map #[] 0)).alloc (.cells #[.map (some (w.heap.size + 1))] 102)).alloc (.cells #[.slice ad ls.length cap] 24)) = W0 := ⟨_, rfl⟩
  rw [hW0] at bN mM bM bL hB0 hsz ⊢
  clear hW0 hmm
  refine wpIn_rangeFunc_ownH rfl (by decide) (gf := 93) (lb := #[.pointer (some ⟨w.heap.size + 1 + 1 + 1, 0, none⟩)]) rfl trivial (enters_of Tryz.func93 (by kernel_rfl) rfl)
    (vars_stops Fence.wide 5 trivial rfl (by decide) wfN (w.heap.size + 1 + 1 + 1) ls _ w W0 (by omega) hB0 bL.cell HRow.out hW) belowK_t (belowK_b (by omega)) (Below.refl _ _) (fun _ => rfl)
    (fun pre W => ((∃ v, Boxed W w.heap.size 23 v ∧ W.ownsRow w.heap.size 49 2 v (nubP pre).length (flatN (nubP pre)) ∧ True) ∧ (Boxed W (w.heap.size + 1 + 1) 102 (.map (some (w.heap.size + 1))) ∧ W.ownsMap Tryz.prog 49 (unitElem (H := Unit)) (w.heap.size + 1) pre.length (setD (nubP pre)))) ∧ Below w.heap.size w W)
    (fun _ _ _ => False)
    (OwnFrom.and (OwnFrom.and (Own.from (holdsRow_own w.heap.size w.heap.size 23 49 2 (fun pre => (nubP pre).length) (fun pre => flatN (nubP pre)) (fun _ _ => True)) _) (fun s A B row hs hg hr => ⟨boxed_own (w.heap.size + 1 + 1) 102 (fun (_ : Unit) => Value.map (some (w.heap.size + 1))) () A B row hs.1 hg (fun r e => (hr r e).2), hs.2.kept hg (fun e => by have := (hr _ e.symm).1; omega)⟩)) (ownFrom_below (Nat.le_refl _) (by omega)))
    (fun _ _ _ _ _ hs _ _ => hs)
    ⟨⟨⟨_, bN, World.ownsRow_nil _ _ _ _, trivial⟩, bM, mM⟩, hB0⟩
    (fun x a' W => ∃ Bx, Pair W Bx 49 x.1.1 x.1.2 ∧ a' = { tmps := #[.slice ad ls.length cap, undef, .slice none 0 0, .pointer (some ⟨w.heap.size, 0, none⟩), .pointer (some ⟨w.heap.size + 1 + 1, 0, none⟩), .pointer (some ⟨Bx, 0, none⟩), undef, undef, .map (some (w.heap.size + 1)), .slice ad ls.length cap, .func (.func 93) #[] #[.pointer (some ⟨w.heap.size + 1 + 1 + 1, 0, none⟩)], .agg #[.int .i64 x.1.1, .int .i64 x.1.2], undef, undef, undef, undef, undef, undef, undef, undef, undef, undef, undef, undef, undef, undef, undef, undef], defers := [] })
    (fun x a' _ X Y row hs hg hr => by obtain ⟨Bx, h2, h3⟩ := hs; exact ⟨Bx, h2.kept hg (fun r e => (hr r e).2), h3⟩)
    ?assign ?body ?done ?stop
  case assign =>
    rintro lp pre x W K ⟨⟨⟨v1, b1, r1, _⟩, b2, m2⟩, hB1⟩ hK
    gi_wp2
    exact hK _ _ ((KeepsOthers.alloc _ _).from _) ((Below.refl _ W).alloc hB1.size _) ⟨⟨⟨v1, b1.alloc _, r1.alloc _, trivial⟩, b2.alloc _, m2.alloc _⟩, hB1.alloc hB1.size _⟩ ⟨W.heap.size, Pair.new W 49 _ _, rfl⟩
  case body =>
    rintro lp pre x a' W hl ⟨r, hr⟩ ⟨⟨⟨v1, b1, r1, _⟩, b2, m2⟩, hB1⟩ ⟨Bx, bX, rfl⟩ hlt
    have hlen : (nubP pre).length ≤ pre.length := by
      have := nubN_len (pre.map (·.1)); simpa [nubP] using this
    have hhas := has_setD (nubP pre) x.1 (nubP_wf pre) x.2
    have hkey := key23 x.1 x.2
    have hsn := nubP_snoc pre x
    have bX1 : Pair (W.alloc (.cells #[] 116)) Bx 49 x.1.1 x.1.2 := bX.kept (World.grownBy_alloc W _ none) (fun r e => by cases e)
    have b1a := b1.alloc (.cells #[] 116)
    have b2a := b2.alloc (.cells #[] 116)
    have r1a := r1.alloc (.cells #[] 116)
    have m2a := m2.alloc (.cells #[] 116)
    have cM := b2.cell
    have cX0 := bX.cell0
    have cX1 := bX.cell1
    have dM := b2a.cell
    have dX0 := bX1.cell0
    have dX1 := bX1.cell1
    have hBa : Below w.heap.size W (W.alloc (.cells #[] 116)) := (Below.refl _ W).alloc hB1.size _
    have hKa : KeepsFrom W0.heap.size W (W.alloc (.cells #[] 116)) := (KeepsOthers.alloc _ _).from _
    have hp63 : pre.length ≤ 1000000000000 := by omega
    clear hr
    cases hh : hasN (nubP pre) x.1
    · rw [hh] at hhas
      have hE : nubP (pre ++ [x]) = nubP pre ++ [x.1] := by rw [hsn]; unfold addN; rw [hh]; rfl
      have HE : Hid (nubP (pre ++ [x]) = nubP pre ++ [x.1]) := hE
      clear hE hsn hh
      gi_wp2_with (first
        | (gi_at_lookup; refine wpListIn_lookup_own_unit _ rfl _ _ 102 rfl 49 116 keyed23 Tryz.underlying102 (zero74 _) (w.heap.size + 1) pre.length _ rfl m2 _ _ rfl hkey ?_; rw [hhas])
        | (gi_at_mapUpdate; refine wpListIn_mapUpdate_own _ rfl _ _ _ 102 rfl 49 116 keyed23 Tryz.underlying102 _ (w.heap.size + 1) pre.length _ rfl m2a (by unfold maxLen; omega) _ _ _ rfl rfl hkey (.agg []) [] unitElem_mk ?_; intro w1 hown1 hgrow1
           have b1b := b1a.kept hgrow1 (by simp)
           have b2b := b2a.kept hgrow1 (by simp)
           have hmb : ∃ o : Obj, (W.alloc (.cells #[] 116)).heap[w.heap.size + 1]? = some o ∧ o.isCells = false := (by obtain ⟨es, ck, hh, _⟩ := m2a; exact ⟨_, hh, rfl⟩)
           have bXb := bX1.kept hgrow1 (fun r e => by cases e; exact hmb)
           have r1b := r1a.kept hgrow1 (.inr (row_not_map r1a m2a))
           have hBb := hBa.grown hgrow1 (by have := hB1.size; simp; omega) (fun k e => by cases e; exact Nat.le_succ _)
           have hKb := hKa.trans (KeepsFrom.of_grownBy hgrow1 (fun j e => by cases e; omega))
           have eN := b1b.cell
           have eX0 := bXb.cell0
           have eX1 := bXb.cell1
           have hszb := hBb.size
           have hszc : w.heap.size ≤ w1.heap.size := Nat.le_trans hB1.size hszb)
        | (gi_at_builtin; refine wpListIn_append_own _ rfl _ _ 23 rfl w.heap.size 49 i0 (.agg #[.int .i64 0, .int .i64 0]) 2 16 Tryz.underlying23 hi hz hs hby rfl (by decide) _ _ _ rfl (r1b.alloc _) ⟨w1.heap.size, 0, none⟩ 1 1 (flatN [x.1]) rfl rfl (newsN_new w1 x.1) (flatN_one _) (by unfold maxLen; omega) (by omega) (by simp; omega) ?_; intro v' w2 hown' hgrow2 _
           obtain ⟨g', cap', rfl⟩ := ownsRow_succ hown'
           obtain ⟨hv1, hv2, hr2, hk2, hb2⟩ := b1b.appended (by decide) r1b hszc (Nat.le_refl _) hown' hgrow2
           have b2c := ((b2b.alloc _).kept hgrow2 (b2b.not_row (by decide) r1b))
           have hc1 := hv1.cell
           have hf1 := hv1.frozen))
      refine ⟨hKb.trans (hk2.from _), hBb.trans hb2, ⟨⟨_, hv2, ?_, trivial⟩, b2c.other (by omega) _, ?_⟩, hB1.trans (hBb.trans hb2)⟩
      · rw [HE.out, flatN_append, List.length_append]; exact hr2
      · rw [HE.out, setD_snoc, List.length_append]; exact map_keeps hown1 hk2
    · rw [hh] at hhas
      have hE : nubP (pre ++ [x]) = nubP pre := by rw [hsn]; unfold addN; rw [hh]; rfl
      have HE : Hid (nubP (pre ++ [x]) = nubP pre) := hE
      clear hE hsn hh
      gi_wp2_with (gi_at_lookup; refine wpListIn_lookup_own_unit _ rfl _ _ 102 rfl 49 116 keyed23 Tryz.underlying102 (zero74 _) (w.heap.size + 1) pre.length _ rfl m2 _ _ rfl hkey ?_; rw [hhas])
      refine ⟨hKa, hBa, ⟨⟨v1, b1a, ?_, trivial⟩, b2a, ?_⟩, hB1.trans hBa⟩
      · rw [HE.out]; exact r1a
      · rw [HE.out]; exact m2a.mono (by simp)
  case done =>
    rintro D zs W hD hzs ⟨⟨⟨v1, b1, r1, _⟩, b2, m2⟩, hB1⟩ hK
    have hc := b1.cell
    have hE : nubP zs = nubN (varsAll ls) := by unfold nubP; rw [hzs]
    gi_wp2
    refine ⟨by simp, .inl ⟨_, _, rfl, run_takeDeferred hK, ?_⟩⟩
    exact ⟨_, results_tmp rfl _ _ _, v1, rfl, by show World.ownsRow _ _ _ _ _ _ _; rw [← hE]; exact ownsRow_putObj r1 _ hK rfl, hB1.trans (belowK_b (w := w) (Nat.le_refl _) W D _ _ (by omega) hK rfl rfl)⟩
  case stop =>
    rintro D c pre W _ _ h _
    exact h.elim
end Go.Proofs.YtojobiefambkoaaGreatDoor

namespace Go.Proofs.YtojobiefambkoaaGreatDoor
open Go.RowKit
/-- The order of names. -/
def lessN (a b : Nm) : Bool := decide (a.1 < b.1) || (a.1 == b.1 && decide (a.2 < b.2))
theorem lessN_irrefl (a : Nm) : lessN a a = false := by simp [lessN]
theorem lessN_trans {a b c : Nm} (h : lessN a b = true) (k : lessN b c = true) : lessN a c = true := by
  simp [lessN] at *
  omega
theorem lessN_total (a b : Nm) : lessN a b = true ∨ a = b ∨ lessN b a = true := by
  rcases Int.lt_trichotomy a.1 b.1 with h | h | h
  · left; simp [lessN, h]
  · rcases Int.lt_trichotomy a.2 b.2 with k | k | k
    · left; simp [lessN, h, k]
    · right; left; exact Prod.ext h k
    · right; right; simp [lessN, h, k]
  · right; right; simp [lessN, h]
/-- Variables with their values. -/
abbrev Hp := List (Nm × List C)
def lookH (m : Hp) (x : Nm) : Option (List C) := (m.find? fun p => p.1 == x).map (·.2)
/-- Is a term one variable? -/
def isVarL : List C → Bool
  | [c] => c.k == 4
  | _ => false
def varL : List C → Nm
  | c :: _ => (c.vn, c.vk)
  | [] => (0, 0)
def nextH (m : Hp) (l : List C) : Option (List C) := if isVarL l then lookH m (varL l) else none
/-- Links descend. -/
def DescH (m : Hp) : Prop := ∀ x l, lookH m x = some l → isVarL l = true → lessN (varL l) x = true
/-- What a term leads to by values. -/
inductive Fol (m : Hp) : List C → List C → Prop
  | here (l : List C) : Fol m l l
  | step {l l' l'' : List C} (h : nextH m l = some l') (r : Fol m l' l'') : Fol m l l''
theorem Fol.trans {m : Hp} {a b c : List C} (h : Fol m a b) (k : Fol m b c) : Fol m a c := by
  induction h with
  | here => exact k
  | step h _ ih => exact .step h (ih k)
theorem Fol.snoc {m : Hp} {a b c : List C} (h : Fol m a b) (k : nextH m b = some c) : Fol m a c := h.trans (.step k (.here _))
def IsFol (m : Hp) (l l' : List C) : Prop := Fol m l l' ∧ nextH m l' = none
theorem IsFol.uniq {m : Hp} {l a b : List C} (h : IsFol m l a) (k : IsFol m l b) : a = b := by
  obtain ⟨h1, h2⟩ := h
  obtain ⟨k1, k2⟩ := k
  induction h1 with
  | here l =>
    cases k1 with
    | here => rfl
    | step e _ => rw [h2] at e; cases e
  | step e _ ih =>
    cases k1 with
    | here => rw [k2] at e; cases e
    | step e' r' =>
      rw [e] at e'
      cases e'
      exact ih h2 r'
/-- How many values a variable may still lead through. -/
def rankH (m : Hp) (l : List C) : Nat := if isVarL l then (m.filter fun p => !lessN (varL l) p.1).length else 0
theorem look_mem {m : Hp} {x : Nm} {l : List C} (h : lookH m x = some l) : (x, l) ∈ m := by
  unfold lookH at h
  obtain ⟨p, hp, rfl⟩ := Option.map_eq_some_iff.1 h
  have h1 := List.find?_some hp
  have h2 := List.mem_of_find?_eq_some hp
  simp at h1
  subst h1
  exact h2
theorem filter_lt {α : Type} (p q : α → Bool) : ∀ (l : List α) (a : α), a ∈ l → q a = true → p a = false → (∀ x ∈ l, p x = true → q x = true) → (l.filter p).length < (l.filter q).length
  | [], a, h, _, _, _ => by simp at h
  | b :: r, a, h, hq, hp, hs => by
    have hle : ∀ r' : List α, (∀ x ∈ r', p x = true → q x = true) → (r'.filter p).length ≤ (r'.filter q).length := by
      intro r'
      induction r' with
      | nil => intro _; simp
      | cons x r' ih =>
        intro h'
        have i := ih (fun y hy => h' y (by simp [hy]))
        have j := h' x (by simp)
        simp only [List.filter_cons]
        cases hpx : p x
        · cases q x <;> simp <;> omega
        · simp [j hpx]; omega
    have hr := hle r (fun x hx => hs x (by simp [hx]))
    simp only [List.filter_cons]
    rcases List.mem_cons.1 h with rfl | h
    · simp [hq, hp]; omega
    · have := filter_lt p q r a h hq hp (fun x hx => hs x (by simp [hx]))
      have j := hs b (by simp)
      cases hpb : p b
      · cases q b <;> simp <;> omega
      · simp [j hpb]; omega
theorem rank_falls {m : Hp} (hD : DescH m) {l l' : List C} (h : nextH m l = some l') : rankH m l' < rankH m l := by
  unfold nextH at h
  split at h
  · next hv =>
    have hm := look_mem h
    have h0 : (!lessN (varL l) (varL l)) = true := by rw [lessN_irrefl]; rfl
    unfold rankH
    rw [if_pos hv]
    split
    · next hv' =>
      have hl := hD _ _ h hv'
      refine filter_lt _ _ m (varL l, l') hm h0 (by simp [hl]) (fun x _ hx => ?_)
      cases hc : lessN (varL l) x.1
      · rfl
      · rw [lessN_trans hl hc] at hx; cases hx
    · exact List.length_pos_of_mem (List.mem_filter.2 ⟨hm, h0⟩)
  · cases h
theorem rank_le (m : Hp) (l : List C) : rankH m l ≤ m.length := by
  unfold rankH
  split
  · exact List.length_filter_le _ _
  · omega
theorem fol_end {m : Hp} (hD : DescH m) : ∀ (n : Nat) (l : List C), rankH m l ≤ n → ∃ l', IsFol m l l'
  | 0, l, h => by
    cases hn : nextH m l with
    | none => exact ⟨l, .here l, hn⟩
    | some l' => have := rank_falls hD hn; omega
  | n + 1, l, h => by
    cases hn : nextH m l with
    | none => exact ⟨l, .here l, hn⟩
    | some l' =>
      have hr := rank_falls hD hn
      obtain ⟨l'', h1, h2⟩ := fol_end hD n l' (by omega)
      exact ⟨l'', .step hn h1, h2⟩
/-- Names rise. -/
def RisesH (m : Hp) : Prop := m.Pairwise fun p q => lessN p.1 q.1 = true
def insH (x : Nm) (l : List C) : Hp → Hp
  | [] => [(x, l)]
  | p :: r => if lessN x p.1 then (x, l) :: p :: r else p :: insH x l r
theorem look_ins (m : Hp) (x y : Nm) (l : List C) (h : lookH m x = none) : lookH (insH x l m) y = if x = y then some l else lookH m y := by
  induction m with
  | nil =>
    by_cases e : x = y
    · subst e; simp [insH, lookH]
    · have : (x == y) = false := by simpa using e
      simp [insH, lookH, e, this]
  | cons p r ih =>
    have hp : (p.1 == x) = false := by
      cases hc : (p.1 == x)
      · rfl
      · simp [lookH, hc] at h
    have hr : lookH r x = none := by
      unfold lookH at h ⊢
      rwa [List.find?_cons, hp] at h
    unfold insH
    split
    · by_cases e : x = y
      · subst e; simp [lookH]
      · have : (x == y) = false := by simpa using e
        simp [lookH, e, this]
    · have i := ih hr
      by_cases e : x = y
      · subst e
        rw [if_pos rfl] at i ⊢
        unfold lookH at i ⊢
        rw [List.find?_cons, hp]
        exact i
      · rw [if_neg e] at i ⊢
        unfold lookH at i ⊢
        rw [List.find?_cons, List.find?_cons]
        cases hc : (p.1 == y)
        · exact i
        · rfl
theorem desc_ins {m : Hp} {x : Nm} {l : List C} (hD : DescH m) (h : lookH m x = none) (hl : isVarL l = true → lessN (varL l) x = true) : DescH (insH x l m) := by
  intro y l' hy hv
  rw [look_ins m x y l h] at hy
  split at hy
  · next e =>
    cases hy
    rw [← e]
    exact hl hv
  · exact hD y l' hy hv
end Go.Proofs.YtojobiefambkoaaGreatDoor
