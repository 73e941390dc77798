/- Contracts of Equal, Is and the reference Is. How terms lie one behind the other in a row of cells. Contracts of the library function Clone and of the reference's copied. Contract of Args: for every term it returns the arguments of a structure. Contracts of the check's looks at terms: small ones. Contracts of the check's looks at terms: both parts of a structure of a sign. Contracts of IsGoal and IsGuard. -/
import Derived.Test.YtlfccjlifjppdaaGreatDoorQ11
import Derived.Test.YtlfccjlifjppdaaGreatDoorQ9
import Derived.Lib.SliceRun
namespace Go.Proofs.YtlfccjlifjppdaaGreatDoor
open Go.RowKit
attribute [local go_sem ↓] Go.wp_at_zero Go.wp_at_succ
def isB (l : List C) (s : ByteArray) (n : Int) : Bool := match l with
  | [] => false
  | c :: _ => (c.t.toList == s.toList) && (((c.k == 3) && (c.n == n)) || ((n == 0) && (c.k == 2)))
theorem isB_get {l : List C} (h : 0 < l.length) (s : ByteArray) (n : Int) : isB l s n = ((l[0].t.toList == s.toList) && (((l[0].k == 3) && (l[0].n == n)) || ((n == 0) && (l[0].k == 2)))) := by
  match l, h with
  | c :: r, _ => rfl
set_option maxHeartbeats 1000000 in
theorem c28_nil (s : ByteArray) (n : Int) (c : Nat) (a : Option Addr) (w : World) :
    Calls Tryz.prog 104 #[.slice a 0 c, .string s, .int .i64 n] w fun e w' => e = .returned (.bool false) ∧ w' = w := by
  go_enter Tryz.func104, Tryz.ntmps104
  go_wp2_with fail
  go_ret
  exact ⟨rfl, rfl⟩
set_option maxHeartbeats 1000000 in
theorem c29_nil (s : ByteArray) (n : Int) (c : Nat) (a : Option Addr) (w : World) :
    Calls Tryz.prog 27 #[.slice a 0 c, .string s, .int .i64 n] w fun e w' => e = .returned (.bool false) ∧ w' = w := by
  go_enter Tryz.func27, Tryz.ntmps27
  go_wp2_with fail
  go_ret
  exact ⟨rfl, rfl⟩
set_option maxHeartbeats 4000000 in
theorem c28_in (l : List C) (b o cap : Nat) (s : ByteArray) (n : Int) (w : World) (hr : w.rangeAt b o (flat l)) (h1 : 0 < l.length) :
    Calls Tryz.prog 104 #[.slice (some ⟨b, o, none⟩) l.length cap, .string s, .int .i64 n] w fun e w' => e = .returned (.bool (isB l s n)) ∧ w' = w := by
  rw [isB_get h1]
  obtain ⟨p0, p1, p2, p3, p4⟩ := term_cells hr 0 h1
  simp only [Nat.zero_mul, Nat.add_zero] at p0 p1 p2 p3 p4
  have h1' : (0 : Int) < (l.length : Int) := by omega
  have h1b : ((l.length : Int) == 0) = false := by rw [beq_eq_false_iff_ne]; omega
  clear hr
  generalize l[0].t = t at *
  generalize l[0].k = k at *
  generalize l[0].n = m at *
  cases ht : (t.toList == s.toList)
  · go_enter Tryz.func104, Tryz.ntmps104
    go_wp2_with fail
    go_ret
    exact ⟨rfl, rfl⟩
  · by_cases hk2 : k = 2
    · subst hk2
      go_enter Tryz.func104, Tryz.ntmps104
      go_wp2_with fail
      go_ret
      exact ⟨by simp, rfl⟩
    · have hk2b : (k == 2) = false := by simp [hk2]
      cases hk3 : (k == 3)
      · go_enter Tryz.func104, Tryz.ntmps104
        go_wp2_with fail
        go_ret
        exact ⟨by simp [hk2], rfl⟩
      · go_enter Tryz.func104, Tryz.ntmps104
        go_wp2_with fail
        go_ret
        exact ⟨by simp [hk2], rfl⟩
set_option maxHeartbeats 4000000 in
theorem c29_in (l : List C) (b o cap : Nat) (s : ByteArray) (n : Int) (w : World) (hr : w.rangeAt b o (flat l)) (h1 : 0 < l.length) :
    Calls Tryz.prog 27 #[.slice (some ⟨b, o, none⟩) l.length cap, .string s, .int .i64 n] w fun e w' => e = .returned (.bool (isB l s n)) ∧ w' = w := by
  rw [isB_get h1]
  obtain ⟨p0, p1, p2, p3, p4⟩ := term_cells hr 0 h1
  simp only [Nat.zero_mul, Nat.add_zero] at p0 p1 p2 p3 p4
  have h1' : (0 : Int) < (l.length : Int) := by omega
  have h1b : ((l.length : Int) == 0) = false := by rw [beq_eq_false_iff_ne]; omega
  clear hr
  generalize l[0].t = t at *
  generalize l[0].k = k at *
  generalize l[0].n = m at *
  cases ht : (t.toList == s.toList)
  · go_enter Tryz.func27, Tryz.ntmps27
    go_wp2_with fail
    go_ret
    exact ⟨rfl, rfl⟩
  · cases hk3 : (k == 3) <;> cases hmn : (m == n) <;> cases hn0 : (n == 0) <;> cases hk2 : (k == 2)
    all_goals first
      | (exfalso; simp at hk3 hk2; omega)
      | (go_enter Tryz.func27, Tryz.ntmps27
         go_wp2_with fail
         go_ret
         exact ⟨by simp, rfl⟩)
theorem c28 (l : List C) (v : Value) (s : ByteArray) (n : Int) (w : World) (hT : TermAt w v l) :
    Calls Tryz.prog 104 #[v, .string s, .int .i64 n] w fun e w' => e = .returned (.bool (isB l s n)) ∧ w' = w := by
  by_cases h0 : 0 < l.length
  · obtain ⟨_, h⟩ := hT
    rcases h with ⟨e, _⟩ | ⟨b, o, cap, rfl, _, _, hr, _⟩
    · rw [e] at h0; simp at h0
    exact c28_in l b o cap s n w hr h0
  · obtain ⟨a, c, rfl⟩ := hT.form
    have e : l = [] := List.eq_nil_of_length_eq_zero (by omega)
    subst e
    exact c28_nil s n c a w
theorem c29 (l : List C) (v : Value) (s : ByteArray) (n : Int) (w : World) (hT : TermAt w v l) :
    Calls Tryz.prog 27 #[v, .string s, .int .i64 n] w fun e w' => e = .returned (.bool (isB l s n)) ∧ w' = w := by
  by_cases h0 : 0 < l.length
  · obtain ⟨_, h⟩ := hT
    rcases h with ⟨e, _⟩ | ⟨b, o, cap, rfl, _, _, hr, _⟩
    · rw [e] at h0; simp at h0
    exact c29_in l b o cap s n w hr h0
  · obtain ⟨a, c, rfl⟩ := hT.form
    have e : l = [] := List.eq_nil_of_length_eq_zero (by omega)
    subst e
    exact c29_nil s n c a w
end Go.Proofs.YtlfccjlifjppdaaGreatDoor
namespace Go.Proofs.YtlfccjlifjppdaaGreatDoor
open Go.RowKit
/-- How many cells so many terms take, from the beginning on. -/
def eat : List C → Nat → Option Nat
  | _, 0 => some 0
  | [], _ + 1 => none
  | c :: r, q + 1 => (eat r (q + (argsOf c.k c.n).toNat)).map (· + 1)
theorem eat_zero (l : List C) : eat l 0 = some 0 := by cases l <;> rfl
theorem eat_le : ∀ (l : List C) (q m : Nat), eat l q = some m → q ≤ m ∧ m ≤ l.length
  | l, 0, m, h => by rw [eat_zero] at h; cases h; simp
  | [], q + 1, m, h => by simp [eat] at h
  | c :: r, q + 1, m, h => by
    simp only [eat, Option.map_eq_some_iff] at h
    obtain ⟨m', h', rfl⟩ := h
    have := eat_le r _ _ h'
    simp; omega
theorem eat_split : ∀ (l : List C) (p q m : Nat), eat l (p + q) = some m → ∃ m1 m2, eat l p = some m1 ∧ eat (l.drop m1) q = some m2 ∧ m = m1 + m2
  | l, 0, q, m, h => ⟨0, m, eat_zero l, by simpa using h, by simp⟩
  | [], p + 1, q, m, h => by rw [show p + 1 + q = (p + q) + 1 by omega] at h; simp [eat] at h
  | c :: r, p + 1, q, m, h => by
    rw [show p + 1 + q = (p + q) + 1 by omega] at h
    simp only [eat, Option.map_eq_some_iff] at h
    obtain ⟨m', h', rfl⟩ := h
    rw [show p + q + (argsOf c.k c.n).toNat = (p + (argsOf c.k c.n).toNat) + q by omega] at h'
    obtain ⟨m1, m2, e1, e2, rfl⟩ := eat_split r _ _ _ h'
    exact ⟨m1 + 1, m2, by simp [eat, e1], by simpa using e2, by omega⟩
theorem eat_take : ∀ (l : List C) (q m : Nat), eat l q = some m → eat (l.take m) q = some m
  | l, 0, m, h => by rw [eat_zero] at h; cases h; simp [eat_zero]
  | [], q + 1, m, h => by simp [eat] at h
  | c :: r, q + 1, m, h => by
    simp only [eat, Option.map_eq_some_iff] at h
    obtain ⟨m', h', rfl⟩ := h
    simp [eat, eat_take r _ _ h']
theorem refF_eat (len : Int) : ∀ (l : List C) (i : Int) (q : Nat), (l.length : Int) ≤ len → refF len l i q = (match eat l q with | some m => i + m | none => 0)
  | [], i, 0, _ => by simp [refF, eat]
  | c :: r, i, 0, _ => by simp [refF, eat]
  | [], i, q + 1, _ => by
    have hq : (0 : Int) < ((q + 1 : Nat) : Int) := by omega
    simp only [refF, hq, if_true, eat]
  | c :: r, i, q + 1, hl => by
    have ha := argsOf_nonneg c.k c.n
    simp at hl
    have hq : (0 : Int) < ((q + 1 : Nat) : Int) := by omega
    simp only [refF, hq, if_true, eat]
    have hr := refF_eat len r (i + 1) (q + (argsOf c.k c.n).toNat) (by omega)
    rw [show ((q + (argsOf c.k c.n).toNat : Nat) : Int) = ((q + 1 : Nat) : Int) - 1 + argsOf c.k c.n by omega] at hr
    by_cases hb : len < argsOf c.k c.n
    · rw [if_pos hb]
      cases he : eat r (q + (argsOf c.k c.n).toNat) with
      | none => rfl
      | some m => have := eat_le _ _ _ he; omega
    · rw [if_neg hb, hr]
      cases he : eat r (q + (argsOf c.k c.n).toNat) with
      | none => rfl
      | some m =>
        show i + 1 + (m : Int) = i + ((m + 1 : Nat) : Int)
        omega
theorem endS_eat (l : List C) (p : Nat) (hp : p < l.length) : endS l p = (match eat (l.drop p) 1 with | some m => (p : Int) + m | none => 0) := by
  rw [← refF_eat l.length (l.drop p) p 1 (by simp)]
  rw [show ((1 : Nat) : Int) = 1 from rfl, refF_eq _ _ _ _ (by omega) (by simp)]
  unfold endS
  rw [if_neg (by omega)]; simp
theorem right_eat {l : List C} : rightB l = (decide (1 ≤ l.length) && decide (l.length ≤ 256) && cellsB l && (eat l 1 == some l.length)) := by
  unfold rightB
  by_cases h1 : 1 ≤ l.length
  · have h := endS_eat l 0 (by omega)
    rw [List.drop_zero] at h
    have h0 : endS l 0 = (match eat l 1 with | some m => ((0 : Nat) : Int) + m | none => 0) := h
    have e : (endS l 0 == (l.length : Int)) = (eat l 1 == some l.length) := by
      rw [h0]
      cases he : eat l 1 with
      | none => simp; omega
      | some m =>
        rw [Bool.eq_iff_iff]
        simp
        omega
    rw [e]
    have e1 : decide (1 ≤ (l.length : Int)) = decide (1 ≤ l.length) := by simp; omega
    have e2 : decide ((l.length : Int) ≤ 256) = decide (l.length ≤ 256) := by
      rw [Bool.eq_iff_iff]; simp; omega
    rw [e1, e2]
  · have e1 : decide (1 ≤ (l.length : Int)) = false := by simp; omega
    rw [e1, decide_eq_false h1]; simp
/-- The terms of which a row of cells is made. -/
def cutF : Nat → List C → List (List C)
  | 0, _ => []
  | _ + 1, [] => []
  | f + 1, c :: r => match eat (c :: r) 1 with
    | some m => (c :: r).take m :: cutF f ((c :: r).drop m)
    | none => []
theorem cut_step (f : Nat) (r : List C) (q : Nat) (hr : 0 < r.length) (h : eat r q = some r.length) : ∃ m q', q = q' + 1 ∧ eat r 1 = some m ∧ 1 ≤ m ∧ m ≤ r.length ∧ eat (r.drop m) q' = some (r.drop m).length ∧ cutF (f + 1) r = r.take m :: cutF f (r.drop m) := by
  cases q with
  | zero =>
    rw [eat_zero] at h
    have := Option.some.inj h
    omega
  | succ q' =>
    rw [Nat.add_comm] at h
    obtain ⟨m1, m2, e1, e2, e3⟩ := eat_split r 1 q' _ h
    have hle := eat_le _ _ _ e1
    refine ⟨m1, q', rfl, e1, hle.1, hle.2, ?_, ?_⟩
    · rw [e2]; simp; omega
    · match r, hr with
      | c :: r', _ => simp only [cutF, e1]
theorem cut_spec : ∀ (f : Nat) (r : List C) (q : Nat), r.length ≤ f → eat r q = some r.length → (cutF f r).flatten = r ∧ (cutF f r).length = q ∧ ∀ s ∈ cutF f r, eat s 1 = some s.length ∧ 1 ≤ s.length ∧ s.length ≤ r.length ∧ ∀ c ∈ s, c ∈ r
  | f, [], q, hf, h => by
    have hle := eat_le _ _ _ h
    simp at hle
    subst hle
    cases f <;> simp [cutF]
  | 0, c :: r, q, hf, h => by simp at hf
  | f + 1, c :: r, q, hf, h => by
    obtain ⟨m, q', rfl, e1, h1, hm, e2, e3⟩ := cut_step f (c :: r) q (by simp) h
    obtain ⟨i1, i2, i3⟩ := cut_spec f ((c :: r).drop m) q' (by simp at hf ⊢; omega) e2
    rw [e3]
    refine ⟨by rw [List.flatten_cons, i1, List.take_append_drop], by rw [List.length_cons, i2], ?_⟩
    intro s hs
    rcases List.mem_cons.1 hs with rfl | hs
    · have ht := eat_take _ _ _ e1
      have hl : ((c :: r).take m).length = m := by rw [List.length_take]; omega
      exact ⟨by rw [hl]; exact ht, by omega, by omega, fun d hd => List.mem_of_mem_take hd⟩
    · obtain ⟨j1, j2, j3, j4⟩ := i3 s hs
      exact ⟨j1, j2, by simp at j3; simp; omega, fun d hd => List.mem_of_mem_drop (j4 d hd)⟩
theorem cut_fuel : ∀ (f g : Nat) (r : List C), r.length ≤ f → r.length ≤ g → cutF f r = cutF g r
  | 0, g, r, hf, _ => by
    have : r = [] := List.eq_nil_of_length_eq_zero (by omega)
    subst this; cases g <;> rfl
  | f + 1, 0, r, _, hg => by
    have : r = [] := List.eq_nil_of_length_eq_zero (by omega)
    subst this; rfl
  | f + 1, g + 1, [], _, _ => rfl
  | f + 1, g + 1, c :: r, hf, hg => by
    simp only [cutF]
    cases he : eat (c :: r) 1 with
    | none => rfl
    | some m =>
      have hle := eat_le _ _ _ he
      simp only
      rw [cut_fuel f g ((c :: r).drop m) (by simp at hf ⊢; omega) (by simp at hg ⊢; omega)]
def headK (l : List C) : Int := match l with | [] => 0 | c :: _ => c.k
/-- The arguments of a structure. -/
def argsL (l : List C) : List (List C) := if rightB l && (headK l == 3) then cutF l.length l.tail else []
end Go.Proofs.YtlfccjlifjppdaaGreatDoor
namespace Go.Proofs.YtlfccjlifjppdaaGreatDoor
open Go.RowKit
theorem flat_drop (l : List C) (k : Nat) : flat (l.drop k) = (flat l).drop (5 * k) := by
  induction l generalizing k with
  | nil => simp [flat]
  | cons a r ih =>
    cases k with
    | zero => simp
    | succ k =>
      rw [List.drop_succ_cons, ih k]
      have e : flat (a :: r) = a.vals ++ flat r := by simp [flat]
      rw [e, show 5 * (k + 1) = 5 * k + 5 by omega, Nat.add_comm, ← List.drop_drop]
      rfl
theorem flat_take (l : List C) (k : Nat) : flat (l.take k) = (flat l).take (5 * k) := by
  induction l generalizing k with
  | nil => simp [flat]
  | cons a r ih =>
    cases k with
    | zero => simp [flat]
    | succ k =>
      rw [List.take_succ_cons]
      have e : ∀ x : List C, flat (a :: x) = a.vals ++ flat x := fun x => by simp [flat]
      rw [e, e, ih k, show 5 * (k + 1) = a.vals.length + 5 * k by simp [C.vals]; omega, List.take_length_add_append]
theorem range_sub {w : World} {b o : Nat} {l : List C} (h : w.rangeAt b o (flat l)) (k m : Nat) : w.rangeAt b (o + k * 5) (flat ((l.drop k).take m)) := by
  intro j v hv
  rw [flat_take, flat_drop, List.getElem?_take] at hv
  split at hv
  · rw [List.getElem?_drop] at hv
    have := h _ v hv
    rw [show o + (5 * k + j) = o + k * 5 + j by omega] at this
    exact this
  · cases hv
set_option maxHeartbeats 1000000 in
theorem c52_in (l : List C) (b o cap : Nat) (w : World) (hr : w.rangeAt b o (flat l)) (hby47 : l.length * 48 ≤ 140737488355328) :
    Calls Tryz.prog 110 #[.slice (some ⟨b, o, none⟩) l.length cap] w fun e w' => ∃ u, e = .returned u ∧ OwnT w' w.heap.size u l ∧ Below w.heap.size w w' := by
  obtain ⟨i0, hi, hz, hs, hby⟩ := info60
  have hnews : Hid (∀ j u, (flat l)[j]? = some u → w.cell? ((⟨b, o, none⟩ : Addr).add j) = some u) := fun j u hu => by rw [Addr.add_mid]; exact hr j u hu
  have hlen : Hid ((flat l).length = l.length * 5) := by
    show (flat l).length = l.length * 5
    rw [flat_length]; omega
  clear hr
  go_enter Tryz.func110, Tryz.ntmps110
  go_wp2_with (at_builtin; refine wpList_append_own _ rfl _ _ 64 rfl w.heap.size 82 i0 zero60 5 48 Tryz.underlying64 hi hz hs hby rfl (by decide) _ _ _ rfl (World.ownsRow_nil w w.heap.size 82 5) ⟨b, o, none⟩ l.length cap (flat l) rfl hlen.out hnews.out (flat_one _) (by unfold maxLen; omega) (by omega) (Nat.le_refl _) ?_)
  intro v' w' hown' hgrow hnil
  have hown' : Hid (OwnT w' w.heap.size v' l) := hown'
  have hb : Hid (Below w.heap.size w w') := (Below.refl _ _).grown hgrow (Nat.le_refl _) (fun g hg => by simp [Value.ownBlock] at hg)
  clear hgrow hnil
  go_wp2_with fail
  go_ret
  exact ⟨_, rfl, hown'.out, hb.out⟩
end Go.Proofs.YtlfccjlifjppdaaGreatDoor
namespace Go.Proofs.YtlfccjlifjppdaaGreatDoor
open Go.RowKit
theorem headK_get {l : List C} (h : 0 < l.length) : headK l = l[0].k := by
  match l, h with
  | c :: r, _ => rfl
theorem right_cell {l : List C} (hr : rightB l = true) : ∀ c ∈ l, c.ok = true := by
  unfold rightB at hr
  simp only [Bool.and_eq_true] at hr
  have := hr.1.2
  unfold cellsB at this
  rw [List.all_eq_true] at this
  exact this
theorem struct_n {c : C} (h : c.ok = true) (hk : c.k = 3) : 1 ≤ c.n ∧ c.n ≤ 8 := by
  obtain ⟨k, t, n, vn, vk⟩ := c
  simp only at hk
  subst hk
  have h1 : structFits 1 8 t.data.toList n = true := by
    simp only [C.ok, cellB, if_neg (show ¬ ((3 : Int) = 1) by decide), if_neg (show ¬ ((3 : Int) = 2) by decide), if_true, Bool.and_eq_true] at h
    exact h.2
  simp only [structFits, between, Bool.and_eq_true, Bool.or_eq_true, decide_eq_true_eq, beq_iff_eq] at h1
  show 1 ≤ n ∧ n ≤ 8
  omega
theorem head_n {l : List C} (hr : rightB l = true) (h1 : 0 < l.length) (hk : l[0].k = 3) : 1 ≤ l[0].n ∧ l[0].n ≤ 8 := struct_n (right_cell hr _ (List.getElem_mem _)) hk
theorem head_eat {l : List C} (hr : rightB l = true) (h1 : 0 < l.length) : eat (l.drop 1) (argsOf l[0].k l[0].n).toNat = some (l.drop 1).length := by
  rw [right_eat] at hr
  simp only [Bool.and_eq_true, beq_iff_eq] at hr
  have h := hr.2
  match l, h1 with
  | c :: r, _ =>
    simp only [eat, Option.map_eq_some_iff] at h
    obtain ⟨m, h2, h3⟩ := h
    simp at h3
    subst h3
    simpa using h2

theorem argsL_spec (l : List C) (hr : rightB l = true) (h1 : 0 < l.length) (hk : headK l = 3) : (argsL l).flatten = l.tail ∧ (argsL l).length = (argsOf l[0].k l[0].n).toNat ∧ ∀ s ∈ argsL l, eat s 1 = some s.length ∧ 1 ≤ s.length ∧ s.length ≤ l.length ∧ ∀ c ∈ s, c ∈ l := by
  have e : argsL l = cutF l.length l.tail := by unfold argsL; rw [hr, hk]; rfl
  have he := head_eat hr h1
  rw [List.drop_one] at he
  obtain ⟨i1, i2, i3⟩ := cut_spec l.length l.tail _ (by simp) he
  rw [e]
  refine ⟨i1, i2, fun s hs => ?_⟩
  obtain ⟨j1, j2, j3, j4⟩ := i3 s hs
  exact ⟨j1, j2, by simp at j3; omega, fun c hc => List.mem_of_mem_tail (j4 c hc)⟩
theorem argsL_none (l : List C) (h : ¬ (rightB l = true ∧ 0 < l.length ∧ headK l = 3)) : argsL l = [] := by
  unfold argsL
  by_cases hr : rightB l = true
  · have := (right_len hr).1
    have hk : ¬ headK l = 3 := fun e => h ⟨hr, by omega, e⟩
    rw [if_neg (by simp [hk])]
  · rw [if_neg (by simp [hr])]
theorem argsL_len (l : List C) : (argsL l).length ≤ 8 := by
  by_cases h : rightB l = true ∧ 0 < l.length ∧ headK l = 3
  · obtain ⟨hr, h1, hk⟩ := h
    rw [(argsL_spec l hr h1 hk).2.1]
    rw [headK_get h1] at hk
    have hn := head_n hr h1 hk
    unfold argsOf; rw [if_pos hk]; omega
  · rw [argsL_none l h]; simp
theorem argsL_mem (l : List C) (s : List C) (hs : s ∈ argsL l) : s.length ≤ 256 ∧ ∀ c ∈ s, c ∈ l := by
  by_cases h : rightB l = true ∧ 0 < l.length ∧ headK l = 3
  · obtain ⟨hr, h1, hk⟩ := h
    obtain ⟨j1, j2, j3, j4⟩ := (argsL_spec l hr h1 hk).2.2 s hs
    have := (right_len hr).2
    exact ⟨by omega, j4⟩
  · rw [argsL_none l h] at hs; cases hs
end Go.Proofs.YtlfccjlifjppdaaGreatDoor
namespace Go.Proofs.YtlfccjlifjppdaaGreatDoor
open Go.RowKit
set_option maxRecDepth 100000 in
theorem k28 (l : List C) (v : Value) (w : World) (h : TermAt w v l) (h1 : 0 < l.length) (hn : -1000 ≤ l[0].n ∧ l[0].n ≤ 1000) :
    Calls Tryz.prog 77 #[v] w fun e w' => e = .returned (.bool ((l.length : Int) == (1 : Int) + l[0].n)) ∧ Below w.heap.size w w' := by
  obtain ⟨⟨hc, _⟩, h⟩ := h
  rcases h with ⟨rfl, _⟩ | ⟨b, o, cap, rfl, h2, h5, h3, h4⟩
  · simp at h1
  · obtain ⟨p0, p1, p2, p3, p4⟩ := term_cells h3 0 h1
    simp only [Nat.zero_mul, Nat.add_zero] at p0 p1 p2 p3 p4
    have h1' : (0 : Int) < (l.length : Int) := by omega
    generalize l[0] = c at *
    go_enter Tryz.func77, Tryz.ntmps77
    go_wp2_with fail
    go_ret
    exact ⟨rfl, Below.refl _ _⟩
def tTrue : ByteArray := ⟨#[116, 114, 117, 101]⟩
def isTrueS (l : List C) : Bool := isB l tTrue 0
set_option maxRecDepth 100000 in
theorem k29 (l : List C) (v : Value) (w : World) (h : TermAt w v l) :
    Calls Tryz.prog 78 #[v] w fun e w' => e = .returned (.bool (isTrueS l)) ∧ Below w.heap.size w w' := by
  have H := c28 l v tTrue 0 w h
  have e : isB l tTrue 0 = isTrueS l := rfl
  rw [e] at H
  generalize isTrueS l = b at *
  simp only [tTrue] at H
  clear e
  go_enter Tryz.func78, Tryz.ntmps78
  go_wp2_with fail
  refine H.mono ?_
  rintro e w' ⟨rfl, hw'⟩
  obtain rfl := hw'.symm
  go_wp2_with fail
  go_ret
  exact ⟨rfl, Below.refl _ _⟩
def hasNameS (l : List C) : Bool := match l with
  | [] => false
  | c :: _ => (c.k == 2 || c.k == 3) && isNameB c.t.data.toList
set_option maxRecDepth 100000 in
theorem k50 (l : List C) (v : Value) (w : World) (h : TermAt w v l) :
    Calls Tryz.prog 38 #[v] w fun e w' => e = .returned (.bool (hasNameS l)) ∧ Below w.heap.size w w' := by
  obtain ⟨⟨hc, htx⟩, h⟩ := h
  rcases h with ⟨rfl, ad, rfl⟩ | ⟨b, o, cap, rfl, h2, h5, h3, h4⟩
  · go_enter Tryz.func38, Tryz.ntmps38
    go_wp2_with fail
    go_ret
    exact ⟨rfl, Below.refl _ _⟩
  · cases l with
    | nil =>
      go_enter Tryz.func38, Tryz.ntmps38
      go_wp2_with fail
      go_ret
      exact ⟨rfl, Below.refl _ _⟩
    | cons c r =>
      obtain ⟨p0, p1, p2, p3, p4⟩ := term_cells h3 0 (by simp)
      simp only [Nat.zero_mul, Nat.add_zero, List.getElem_cons_zero] at p0 p1 p2 p3 p4
      have ht := htx c List.mem_cons_self
      have H62 := fun w => c39 c.t w ht
      have HH : Hid (hasNameS (c :: r) = ((c.k == 2 || c.k == 3) && isNameB c.t.data.toList)) := rfl
      have hl : (((c :: r).length : Int) == 0) = false := by simp; omega
      have hl2 : (0 : Int) < ((c :: r).length : Int) := by simp
      generalize isNameB c.t.data.toList = nm at *
      generalize (c :: r).length = n at *
      cases hk2 : (c.k == 2)
      · cases hk3 : (c.k == 3)
        · rw [hk2, hk3] at HH
          go_enter Tryz.func38, Tryz.ntmps38
          go_wp2_with fail
          go_ret
          exact ⟨by rw [HH.out]; rfl, Below.refl _ _⟩
        · rw [hk2, hk3] at HH
          go_enter Tryz.func38, Tryz.ntmps38
          go_wp2_with fail
          refine (H62 _).mono ?_
          rintro e w' ⟨rfl, hw'⟩
          obtain rfl := hw'.symm
          go_wp2_with fail
          go_ret
          exact ⟨by rw [HH.out]; rfl, Below.refl _ _⟩
      · rw [hk2] at HH
        go_enter Tryz.func38, Tryz.ntmps38
        go_wp2_with fail
        refine (H62 _).mono ?_
        rintro e w' ⟨rfl, hw'⟩
        obtain rfl := hw'.symm
        go_wp2_with fail
        go_ret
        exact ⟨by rw [HH.out]; rfl, Below.refl _ _⟩
def placeS (c : C) : Bool := (c.k == 4) || ((c.k == 1) && decide (0 ≤ c.n) && decide (c.n < 4))
set_option maxRecDepth 100000 in
theorem k34 (l : List C) (v : Value) (w : World) (h : TermAt w v l) (h1 : 0 < l.length) :
    Calls Tryz.prog 75 #[v] w fun e w' => e = .returned (.bool (placeS l[0])) ∧ Below w.heap.size w w' := by
  have hB : ∀ o : Obj, Hid (Below w.heap.size w (w.alloc o)) := fun o => (Below.refl _ _).alloc (Nat.le_refl _) o
  obtain ⟨⟨hc, _⟩, h⟩ := h
  rcases h with ⟨rfl, _⟩ | ⟨b, o, cap, rfl, h2, h5, h3, h4⟩
  · simp at h1
  · obtain ⟨p0, p1, p2, p3, p4⟩ := term_cells h3 0 h1
    simp only [Nat.zero_mul, Nat.add_zero] at p0 p1 p2 p3 p4
    have h1' : (0 : Int) < (l.length : Int) := by omega
    generalize l[0] = c at *
    have HP : Hid (placeS c = ((c.k == 4) || ((c.k == 1) && decide (0 ≤ c.n) && decide (c.n < 4)))) := rfl
    cases hk4 : (c.k == 4)
    · cases hk1 : (c.k == 1)
      · rw [hk4, hk1] at HP
        go_enter Tryz.func75, Tryz.ntmps75
        go_wp2_with fail
        go_ret
        exact ⟨by rw [HP.out]; rfl, (hB _).out⟩
      · rw [hk4, hk1] at HP
        by_cases h0 : 0 ≤ c.n
        · by_cases h4 : c.n < 4
          · rw [decide_eq_true h0, decide_eq_true h4] at HP
            go_enter Tryz.func75, Tryz.ntmps75
            go_wp2_with fail
            go_ret
            exact ⟨by rw [HP.out]; rfl, (hB _).out⟩
          · rw [decide_eq_true h0, decide_eq_false h4] at HP
            go_enter Tryz.func75, Tryz.ntmps75
            go_wp2_with fail
            go_ret
            exact ⟨by rw [HP.out]; rfl, (hB _).out⟩
        · rw [decide_eq_false h0] at HP
          go_enter Tryz.func75, Tryz.ntmps75
          go_wp2_with fail
          go_ret
          exact ⟨by rw [HP.out]; rfl, (hB _).out⟩
    · rw [hk4] at HP
      go_enter Tryz.func75, Tryz.ntmps75
      go_wp2_with fail
      go_ret
      exact ⟨by rw [HP.out]; rfl, (hB _).out⟩
end Go.Proofs.YtlfccjlifjppdaaGreatDoor
namespace Go.Proofs.YtlfccjlifjppdaaGreatDoor
open Go.RowKit
theorem sub_term {w : World} {b o cap : Nat} {l : List C} (hr : w.rangeAt b o (flat l)) (hb : b < w.heap.size) (htx : ∀ c ∈ l, c.t.size ≤ maxLen) (hcap : l.length ≤ cap) (hcm : cap ≤ maxLen) (k m : Nat) (hk : k + m ≤ l.length) :
    TermAt w (.slice (some ⟨b, o + k * 5, none⟩) m (cap - k)) ((l.drop k).take m) := by
  have hl : ((l.drop k).take m).length = m := by rw [List.length_take, List.length_drop]; omega
  refine ⟨⟨by rw [hl]; unfold maxLen at *; omega, fun c hc => htx c (List.mem_of_mem_drop (List.mem_of_mem_take hc))⟩, Or.inr ⟨b, o + k * 5, cap - k, by rw [hl], by rw [hl]; omega, by unfold maxLen at *; omega, range_sub hr k m, hb⟩⟩
theorem eat_append : ∀ (x y : List C) (q m : Nat), eat x q = some m → eat (x ++ y) q = some m
  | x, y, 0, m, h => by rw [eat_zero] at h ⊢; exact h
  | [], _, q + 1, m, h => by simp [eat] at h
  | c :: r, y, q + 1, m, h => by
    simp only [List.cons_append, eat, Option.map_eq_some_iff] at h ⊢
    obtain ⟨m', h', rfl⟩ := h
    exact ⟨m', eat_append r y _ _ h', rfl⟩
/-- A structure of two parts: where the second begins. -/
theorem two_parts {l : List C} (hr : rightB l = true) (h1 : 0 < l.length) (hk : l[0].k = 3) (hn : l[0].n = 2) : ∃ m : Nat, 1 ≤ m ∧ 1 + m < l.length ∧ endS l 1 = ((1 + m : Nat) : Int) ∧ argsL l = [(l.drop 1).take m, l.drop (1 + m)] := by
  have he := head_eat hr h1
  have ha : (argsOf l[0].k l[0].n).toNat = 1 + 1 := by unfold argsOf; rw [if_pos hk, hn]; rfl
  rw [ha] at he
  obtain ⟨m1, m2, e1, e2, e3⟩ := eat_split (l.drop 1) 1 1 _ he
  have g1 := eat_le _ _ _ e1
  have g2 := eat_le _ _ _ e2
  rw [List.length_drop] at e3 g1
  rw [List.length_drop, List.length_drop] at g2
  have hl2 : 1 < l.length := by omega
  refine ⟨m1, g1.1, by omega, ?_, ?_⟩
  · have := endS_eat l 1 hl2
    rw [e1] at this
    rw [show ((1 : Int)) = ((1 : Nat) : Int) from rfl, this]; simp
  · obtain ⟨s1, s2, s3⟩ := argsL_spec l hr h1 (by rw [headK_get h1]; exact hk)
    rw [ha] at s2
    obtain ⟨x, y, hxy⟩ : ∃ x y, argsL l = [x, y] := by
      match h : argsL l, s2 with
      | [x, y], _ => exact ⟨x, y, rfl⟩
    have hx := s3 x (by rw [hxy]; simp)
    rw [hxy] at s1
    simp at s1
    have hd : l.drop 1 = x ++ y := by rw [s1, List.drop_one]
    have hxl : x.length = m1 := by
      have h5 : eat (x ++ y) 1 = some x.length := eat_append x y 1 _ hx.1
      rw [hd, h5] at e1
      exact Option.some.inj e1
    rw [hxy, hd]
    subst hxl
    rw [← List.drop_drop, hd]
    simp
/-- The arguments of a right structure are right. -/
theorem arg_right {l s : List C} (hr : rightB l = true) (hs : s ∈ argsL l) : rightB s = true := by
  by_cases h : rightB l = true ∧ 0 < l.length ∧ headK l = 3
  · obtain ⟨_, h1, hk⟩ := h
    obtain ⟨j1, j2, j3, j4⟩ := (argsL_spec l hr h1 hk).2.2 s hs
    rw [right_eat]
    have hl := (right_len hr).2
    have hc : cellsB s = true := by
      unfold cellsB
      rw [List.all_eq_true]
      exact fun c hc => right_cell hr c (j4 c hc)
    simp only [Bool.and_eq_true, decide_eq_true_eq, beq_iff_eq]
    exact ⟨⟨⟨j2, by omega⟩, hc⟩, j1⟩
  · rw [argsL_none l h] at hs; cases hs
theorem byte_ext' {s t : ByteArray} (h : s.toList = t.toList) : s = t := by
  rw [ByteArray.toList_eq, ByteArray.toList_eq] at h
  cases s; cases t
  simp only at h
  rw [Array.toList_inj.1 h]
/-- A right cell whose text is a sign is a structure of two. -/
theorem sign_cell {c : C} (h : c.ok = true) (hs : isSignB c.t.data.toList = true) : c.k = 3 ∧ c.n = 2 := by
  obtain ⟨k, t, n, vn, vk⟩ := c
  have hno : isNameB t.data.toList = false := by
    simp only at hs
    unfold isSignB at hs
    have hm := List.contains_iff_mem.1 hs
    revert hm
    generalize t.data.toList = tl
    intro hm
    simp only [signs, List.mem_cons, List.not_mem_nil, or_false] at hm
    rcases hm with rfl | rfl | rfl | rfl | rfl | rfl | rfl | rfl | rfl | rfl | rfl | rfl <;> decide
  have hne : t ≠ ⟨#[]⟩ := by
    intro e
    subst e
    simp only at hs
    exact absurd hs (by decide)
  simp only [C.ok, cellB] at h
  simp only at hs
  by_cases h1 : k = 1
  · rw [if_pos h1] at h
    simp only [Bool.and_eq_true, eqCells, beq_iff_eq] at h
    exfalso
    exact hne (byte_ext' h.1.1.1.1.2)
  · rw [if_neg h1] at h
    by_cases h2 : k = 2
    · rw [if_pos h2] at h
      simp only [Bool.and_eq_true] at h
      rw [hno] at h
      exact absurd h.2 (by decide)
    · rw [if_neg h2] at h
      by_cases h3 : k = 3
      · rw [if_pos h3] at h
        simp only [Bool.and_eq_true, structFits, hno, Bool.false_and, Bool.false_or, beq_iff_eq] at h
        exact ⟨h3, h.2.2⟩
      · rw [if_neg h3] at h
        by_cases h4 : k = 4
        · rw [if_pos h4] at h
          simp only [Bool.and_eq_true, eqCells, beq_iff_eq] at h
          exfalso
          exact hne (byte_ext' h.1.1.1.1.2)
        · rw [if_neg h4] at h; cases h
/-- Both parts of a right structure of a sign, in memory. -/
def leftL (l : List C) : List C := (argsL l)[0]?.getD []
def rightL (l : List C) : List C := (argsL l)[1]?.getD []
set_option maxRecDepth 100000 in
theorem k32 (l : List C) (v : Value) (w : World) (h : TermAt w v l) (hr : rightB l = true) (h1 : 0 < l.length) (hk : l[0].k = 3) (hn : l[0].n = 2) :
    Calls Tryz.prog 73 #[v] w fun e w' => ∃ x y, e = .returned (.tuple #[x, y]) ∧ TermAt w' x (leftL l) ∧ TermAt w' y (rightL l) ∧ Below w.heap.size w w' := by
  have H42 := c24 l v 1 w h
  obtain ⟨m, hm1, hml, he, ha⟩ := two_parts hr h1 hk hn
  rw [he] at H42
  obtain ⟨⟨hc, htx⟩, h⟩ := h
  rcases h with ⟨rfl, _⟩ | ⟨b, o, cap, rfl, h2, h5, h3, h4⟩
  · simp at h1
  · have hS : ∀ W : World, Below w.heap.size w W → Hid (TermAt W (.slice (some ⟨b, o + 1 * 5, none⟩) m (cap - 1)) (leftL l) ∧ TermAt W (.slice (some ⟨b, o + (1 + m) * 5, none⟩) (l.length - (1 + m)) (cap - (1 + m))) (rightL l)) := fun W hW => by
      have r := range_below h3 h4 hW
      have hb := Nat.lt_of_lt_of_le h4 hW.size
      have e1 : leftL l = (l.drop 1).take m := by unfold leftL; rw [ha]; rfl
      have e2 : rightL l = (l.drop (1 + m)).take (l.length - (1 + m)) := by
        unfold rightL; rw [ha]
        show l.drop (1 + m) = _
        rw [List.take_of_length_le (by rw [List.length_drop]; omega)]
      rw [e1, e2]
      exact ⟨sub_term r hb htx h2 h5 1 m (by omega), sub_term r hb htx h2 h5 (1 + m) (l.length - (1 + m)) (by omega)⟩
    have hcap' : (l.length : Int) ≤ (cap : Int) := by omega
    have f1 : ((1 + m : Nat) : Int) ≤ (l.length : Int) := by omega
    have f2 : (1 : Int) ≤ ((1 + m : Nat) : Int) := by omega
    have f3 : (0 : Int) ≤ ((1 + m : Nat) : Int) := by omega
    have f4 : ((1 + m : Nat) : Int) ≤ (cap : Int) := by omega
    clear he ha hr h3
    generalize hq : 1 + m = q at *
    go_enter Tryz.func73, Tryz.ntmps73
    go_wp2_with fail
    refine H42.mono ?_
    rintro e w' ⟨rfl, hb⟩
    go_wp2_with fail
    go_quiet (fail)
    have hbq : Below w.heap.size w (w'.drewN nq) := below_drewN hb nq
    have hx := (hS _ hbq).out
    rw [show o + 1 * 5 = o + 5 by omega, show m = q - 1 by omega] at hx
    go_wp2_with fail
    exact bodyPost_ret (v := .tuple #[.slice (some ⟨b, o + 5, none⟩) (q - 1) (cap - 1), .slice (some ⟨b, o + q * 5, none⟩) (l.length - q) (cap - q)]) (by simp [results, Tryz.results73, go_sem]) rfl ⟨_, _, rfl, hx.1, hx.2, hbq⟩
theorem left_right {l : List C} (hr : rightB l = true) (h1 : 0 < l.length) (hk : l[0].k = 3) (hn : l[0].n = 2) : rightB (leftL l) = true ∧ rightB (rightL l) = true := by
  obtain ⟨m, hm1, hml, he, ha⟩ := two_parts hr h1 hk hn
  refine ⟨arg_right hr ?_, arg_right hr ?_⟩
  · unfold leftL; rw [ha]; simp
  · unfold rightL; rw [ha]; simp
/-- Is a right term a goal of a body that is none with a place? -/
def bareS (l : List C) : Bool := match l with
  | [] => false
  | c :: _ => if c.t.toList == [61] then true else if c.t.toList == [58, 61] then sumAll (rightL l) else hasNameS l
set_option maxRecDepth 100000 in
theorem k33 (l : List C) (v : Value) (w : World) (h : TermAt w v l) (hr : rightB l = true) :
    Calls Tryz.prog 74 #[v] w fun e w' => e = .returned (.bool (bareS l)) ∧ Below w.heap.size w w' := by
  have h1 : 0 < l.length := (right_len hr).1
  have HT : Hid (TermAt w v l) := h
  have H50 := fun W (hW : Below w.heap.size w W) => k50 l v W (h.below hW)
  have HB : Hid (bareS l = if l[0].t.toList == [61] then true else if l[0].t.toList == [58, 61] then sumAll (rightL l) else hasNameS l) := by
    show bareS l = _
    match l, h1 with
    | c :: r, _ => rfl
  have H32 : Hid (l[0].t.toList == [58, 61] → (∀ W, Below w.heap.size w W → Calls Tryz.prog 73 #[v] W fun e w' => ∃ x y, e = .returned (.tuple #[x, y]) ∧ TermAt w' x (leftL l) ∧ TermAt w' y (rightL l) ∧ Below W.heap.size W w') ∧ 0 < (rightL l).length) := fun hs => by
    have hs' : isSignB l[0].t.data.toList = true := by
      have : l[0].t.data.toList = [58, 61] := by rw [← ByteArray.toList_eq]; simpa using hs
      rw [this]; decide
    obtain ⟨e1, e2⟩ := sign_cell (right_cell hr _ (List.getElem_mem h1)) hs'
    exact ⟨fun W hW => k32 l v W (HT.out.below hW) hr h1 e1 e2, (right_len (left_right hr h1 e1 e2).2).1⟩
  obtain ⟨_, h⟩ := h
  rcases h with ⟨rfl, _⟩ | ⟨b, o, cap, rfl, h2, h5, h3, h4⟩
  · simp at h1
  · obtain ⟨p0, p1, p2, p3, p4⟩ := term_cells h3 0 h1
    simp only [Nat.zero_mul, Nat.add_zero] at p0 p1 p2 p3 p4
    have h1' : (0 : Int) < (l.length : Int) := by omega
    clear hr h3
    generalize l[0] = c at *
    cases hq1 : (c.t.toList == [61])
    · cases hq2 : (c.t.toList == [58, 61])
      · rw [hq1, hq2] at HB
        go_enter Tryz.func74, Tryz.ntmps74
        go_wp2_with fail
        refine (H50 _ (Below.refl _ _)).mono ?_
        rintro e w' ⟨rfl, hb⟩
        go_wp2_with fail
        go_ret
        exact ⟨by rw [HB.out]; rfl, hb⟩
      · rw [hq1, hq2] at HB
        obtain ⟨H32', hl2⟩ := H32.out hq2
        go_enter Tryz.func74, Tryz.ntmps74
        go_wp2_with fail
        refine (H32' _ (Below.refl _ _)).mono ?_
        rintro e w' ⟨x, y, rfl, hx, hy, hb⟩
        have H25 := k25 (rightL l) y w' hy hl2
        clear hx hy
        go_wp2_with fail
        refine H25.mono ?_
        rintro e w'' ⟨rfl, hb2⟩
        go_wp2_with fail
        go_ret
        exact ⟨by rw [HB.out]; rfl, hb.trans (hb2.mono hb.size)⟩
    · rw [hq1] at HB
      go_enter Tryz.func74, Tryz.ntmps74
      go_wp2_with fail
      go_ret
      exact ⟨by rw [HB.out]; rfl, Below.refl _ _⟩
end Go.Proofs.YtlfccjlifjppdaaGreatDoor
namespace Go.Proofs.YtlfccjlifjppdaaGreatDoor
open Go.RowKit
def headT (l : List C) : ByteArray := match l with | [] => ⟨#[]⟩ | c :: _ => c.t
def headC (l : List C) : C := match l with | [] => ⟨0, ⟨#[]⟩, 0, 0, 0⟩ | c :: _ => c
theorem headC_get {l : List C} (h : 0 < l.length) : headC l = l[0] := by
  match l, h with
  | c :: r, _ => rfl
def goalS (l : List C) : Bool := if (headC l).t.toList == [64] then (!((headC (leftL l)).t.toList == [64]) && bareS (leftL l) && placeS (headC (rightL l))) else bareS l
def isGoalS (l : List C) : Bool := rightB l && goalS l
set_option maxRecDepth 100000 in
set_option maxHeartbeats 1000000 in
theorem k12 (l : List C) (v : Value) (w : World) (h : TermAt w v l) (hS : Signs w) :
    Calls Tryz.prog 34 #[v] w fun e w' => e = .returned (.bool (isGoalS l)) ∧ Below w.heap.size w w' := by
  have H24 := c22 l v w h hS
  have HT : Hid (TermAt w v l) := h
  cases hr : rightB l
  · have e : isGoalS l = false := by unfold isGoalS; rw [hr]; rfl
    rw [e]
    rw [hr] at H24
    clear h hr e
    go_enter Tryz.func34, Tryz.ntmps34
    go_wp2_with fail
    refine H24.mono ?_
    rintro e w' ⟨rfl, hb⟩
    go_wp2_with fail
    go_ret
    exact ⟨rfl, hb⟩
  · have h1 : 0 < l.length := (right_len hr).1
    have e : isGoalS l = goalS l := by unfold isGoalS; rw [hr]; rfl
    rw [e]
    rw [hr] at H24
    have HG : Hid (goalS l = if (headC l).t.toList == [64] then (!((headC (leftL l)).t.toList == [64]) && bareS (leftL l) && placeS (headC (rightL l))) else bareS l) := rfl
    rw [headC_get h1] at HG
    have H33 : Hid (∀ W, Below w.heap.size w W → Calls Tryz.prog 74 #[v] W fun e w' => e = .returned (.bool (bareS l)) ∧ Below W.heap.size W w') := fun W hW => k33 l v W (HT.out.below hW) hr
    have HA : Hid ((l[0].t.toList == [64]) = true → (∀ W, Below w.heap.size w W → Calls Tryz.prog 73 #[v] W fun e w' => ∃ x y, e = .returned (.tuple #[x, y]) ∧ TermAt w' x (leftL l) ∧ TermAt w' y (rightL l) ∧ Below W.heap.size W w') ∧ rightB (leftL l) = true ∧ rightB (rightL l) = true) := fun hs => by
      have hs' : isSignB l[0].t.data.toList = true := by
        have : l[0].t.data.toList = [64] := by rw [← ByteArray.toList_eq]; simpa using hs
        rw [this]; decide
      obtain ⟨e1, e2⟩ := sign_cell (right_cell hr _ (List.getElem_mem h1)) hs'
      exact ⟨fun W hW => k32 l v W (HT.out.below hW) hr h1 e1 e2, left_right hr h1 e1 e2⟩
    obtain ⟨_, h⟩ := h
    rcases h with ⟨rfl, _⟩ | ⟨b, o, cap, rfl, h2, h5, h3, h4⟩
    · simp at h1
    have hcell : ∀ W, Below w.heap.size w W → W.cell? ⟨b, o + 1, none⟩ = some (.string l[0].t) := fun W hW => by
      obtain ⟨p0, p1, p2, p3, p4⟩ := term_cells (range_below h3 h4 hW) 0 h1
      simp only [Nat.zero_mul, Nat.add_zero] at p0 p1 p2 p3 p4
      exact p1
    have HCL : Hid (∀ W, Below w.heap.size w W → W.cell? ⟨b, o + 1, none⟩ = some (.string l[0].t)) := hcell
    have h1' : (0 : Int) < (l.length : Int) := by omega
    clear hr h3 e hcell
    generalize l[0] = c at *
    cases hq : (c.t.toList == [64])
    · rw [hq] at HG
      go_enter Tryz.func34, Tryz.ntmps34
      go_wp2_with fail
      refine H24.mono ?_
      rintro e w' ⟨rfl, hb⟩
      have p1 := HCL.out _ hb
      go_wp2_with fail
      refine (H33.out _ hb).mono ?_
      rintro e w'' ⟨rfl, hb2⟩
      go_wp2_with fail
      go_ret
      exact ⟨by rw [HG.out]; rfl, hb.trans (hb2.mono hb.size)⟩
    · rw [hq] at HG
      obtain ⟨H32, hrl, hrr⟩ := HA.out hq
      have hl1 : 0 < (leftL l).length := (right_len hrl).1
      have hl2 : 0 < (rightL l).length := (right_len hrr).1
      rw [headC_get hl1, headC_get hl2] at HG
      go_enter Tryz.func34, Tryz.ntmps34
      go_wp2_with fail
      refine H24.mono ?_
      rintro e w' ⟨rfl, hb⟩
      have p1 := HCL.out _ hb
      go_wp2_with fail
      refine (H32 _ hb).mono ?_
      rintro e w2 ⟨x, y, rfl, hx, hy, hb2⟩
      have HX : Hid (TermAt w2 x (leftL l)) := hx
      have HY : Hid (TermAt w2 y (rightL l)) := hy
      have HB2 : Hid (Below w.heap.size w w2) := hb.trans (hb2.mono hb.size)
      have hx1 : (0 : Int) < ((leftL l).length : Int) := by omega
      obtain ⟨bx, ox, cx, hxf, px⟩ : ∃ bx ox cx, x = .slice (some ⟨bx, ox, none⟩) (leftL l).length cx ∧ w2.cell? ⟨bx, ox + 1, none⟩ = some (.string (leftL l)[0].t) := by
        obtain ⟨_, h⟩ := hx
        rcases h with ⟨h0, _⟩ | ⟨bx, ox, cx, hxf, _, _, hrx, _⟩
        · rw [h0] at hl1; simp at hl1
        · obtain ⟨p0, p1, p2, p3, p4⟩ := term_cells hrx 0 hl1
          simp only [Nat.zero_mul, Nat.add_zero] at p0 p1 p2 p3 p4
          exact ⟨bx, ox, cx, hxf, p1⟩
      have H33' := k33 (leftL l) x w2 HX.out hrl
      have H34' := fun W (hW : Below w2.heap.size w2 W) => k34 (rightL l) y W (HY.out.below hW) hl2
      subst hxf
      clear hx hy hb hb2 H32 hrl hrr HX
      generalize hb1 : bareS (leftL l) = b1 at *
      generalize hb2 : placeS (rightL l)[0] = b2 at *
      cases hq2 : ((leftL l)[0].t.toList == [64])
      · rw [hq2] at HG
        cases b1
        · go_wp2_with fail
          refine H33'.mono ?_
          rintro e w3 ⟨rfl, hb3⟩
          go_wp2_with fail
          go_ret
          exact ⟨by rw [HG.out]; rfl, HB2.out.trans (hb3.mono HB2.out.size)⟩
        · go_wp2_with fail
          refine H33'.mono ?_
          rintro e w3 ⟨rfl, hb3⟩
          go_wp2_with fail
          refine (H34' _ hb3).mono ?_
          rintro e w4 ⟨rfl, hb4⟩
          go_wp2_with fail
          go_ret
          exact ⟨by rw [HG.out]; rfl, HB2.out.trans ((hb3.trans (hb4.mono hb3.size)).mono HB2.out.size)⟩
      · rw [hq2] at HG
        go_wp2_with fail
        go_ret
        exact ⟨by rw [HG.out]; rfl, HB2.out⟩
end Go.Proofs.YtlfccjlifjppdaaGreatDoor
