/- Contracts of lookBy and number. Contracts of Equal, Is and the reference Is. What sums are, by derivations; contract of sums over one of sum. Contract of operation. -/
import Derived.Test.YtaehhophaaipdaaGreatDoorAR6g
import Derived.Test.YtaehhophaaipdaaGreatDoorRAg
namespace Go.Proofs.YtaehhophaaipdaaGreatDoor
open Go.RowKit
attribute [local go_sem ↓] Go.wp_at_zero Go.wp_at_succ
/-- What number tells of a cell that was followed. -/
def numS (d : C) (names : List Nm) : Int × Int × List Nm := if d.k = 1 then (d.n, 1, names) else if d.k = 4 then (0, 3, addN names (d.vn, d.vk)) else (0, 2, names)
/-- Values are terms that fit. -/
def HpOk (m : Hp) : Prop := ∀ x l, lookH m x = some l → l ≠ [] ∧ l.length * 48 ≤ 140737488355328
theorem fol_ok {m : Hp} (hm : HpOk m) {P : List C → Prop} (hP : ∀ x l, lookH m x = some l → P l) {a b : List C} (h : Fol m a b) : (a ≠ [] ∧ P a) → b ≠ [] ∧ P b := by
 induction h with
 | here => exact id
 | step e _ ih =>
  intro _
  refine ih ?_
  unfold nextH at e
  split at e
  ·exact ⟨(hm _ _ e).1, hP _ _ e⟩
  ·cases e
/-- How a look stands. -/
def Lk (w : World) (base lb : Nat) (p : Value) (B g : Nat) (names : List Nm) (K : Nat) : Prop := ∃ M n nv, LkAt w base lb p B g M n nv names ∧ n ≤ K ∧ names.length ≤ K
theorem Lk.below {w w' : World} {base lb : Nat} {p : Value} {B g : Nat} {names : List Nm} {K : Nat} (h : Lk w base lb p B g names K) (hb : Below w.heap.size w w') : Lk w' base lb p B g names K := by
 obtain ⟨M, n, nv, h1, h2⟩ := h
 exact ⟨M, n, nv, h1.below hb, h2⟩
set_option maxRecDepth 100000 in
set_option maxHeartbeats 4000000 in
theorem h74 (m : Hp) (hm : HpOk m) (base lb : Nat) (p : Value) (B g : Nat) (c : C) (v : Value) (names : List Nm) (K : Nat) (w : World) (hL : Lk w base lb p B g names K) (hp : HpV w p m) (hT : TermAt w v [c]) (hW : wfN (c.vn, c.vk)) (hK : K < 999999999) (hbs : base ≤ w.heap.size) :
  Calls Tryz.prog 66 #[.pointer (some ⟨lb, 0, none⟩), v] w fun e w' => ∃ d r, e = .returned (.tuple #[.int .i64 (numS d names).1, .int .u8 (numS d names).2.1]) ∧ IsFol m [c] (d :: r) ∧ Lk w' base lb p B g (numS d names).2.2 (K + 1) ∧ Below base w w' ∧ KeepT w w' := by
 have H15 := h15 m p [c] v w hp hT (by simpa using hW) (by simp) (fun x l h => (hm x l h).2)
 have HFo : Hid (∀ l', Fol m [c] l' → l' ≠ [] ∧ ∀ c ∈ l', wfN (c.vn, c.vk)) := fun l' hf => fol_ok hm (P := fun l => ∀ c ∈ l, wfN (c.vn, c.vk)) (fun x l h => hp.wf h) hf ⟨by simp, by simpa using hW⟩
 have HL : Hid (Lk w base lb p B g names K) := hL
 obtain ⟨M0, n0, nv0, hL0, _⟩ := hL
 have c0 := hL0.cells.1
 obtain ⟨a0, k0, hf0⟩ := hT.form
 subst hf0
 obtain ⟨q, hq⟩ : ∃ q, p = .pointer q := by
  rcases hp with ⟨h, _⟩ | ⟨_, _, _, _, h, _⟩ <;> exact ⟨_, h⟩
 subst hq
 clear hL0 hp hT hW hm
 go_enter Tryz.func66, Tryz.ntmps66
 go_wp2_with fail
 refine H15.mono ?_
 rintro e w1 ⟨u, l', rfl, hT1, hF, _, hb1⟩
 obtain ⟨hne, hwf⟩ := HFo.out l' hF.1
 match l', hne with
 | d :: r, _ =>
  have HF : Hid (IsFol m [c] (d :: r)) := hF
  have HWd : Hid (wfN (d.vn, d.vk)) := hwf d (by simp)
  have HL1 : Hid (Lk w1 base lb (.pointer q) B g names K) := HL.out.below hb1
  have hB1 : Below base w w1 := hb1.mono hbs
  obtain ⟨_, hT1'⟩ := hT1
  rcases hT1' with ⟨e, _⟩ | ⟨b, o, cap, rfl, h2, h5, h3, h4⟩
  ·cases e
  obtain ⟨p0, p1, p2, p3, p4⟩ := term_cells h3 0 (by simp)
  simp only [Nat.zero_mul, Nat.add_zero, List.getElem_cons_zero] at p0 p1 p2 p3 p4
  have HL2 : Hid (Lk (w1.alloc (.cells #[.int .u8 d.k, .string d.t, .int .i64 d.n, .int .i64 d.vn, .int .i64 d.vk] 69)) base lb (.pointer q) B g names K) := HL1.out.below ((Below.refl _ _).alloc (Nat.le_refl _) _)
  have HB2 : Hid (Below base w (w1.alloc (.cells #[.int .u8 d.k, .string d.t, .int .i64 d.n, .int .i64 d.vn, .int .i64 d.vk] 69))) := hB1.alloc (Nat.le_trans hbs hb1.size) _
  have HK2 : Hid (KeepT w (w1.alloc (.cells #[.int .u8 d.k, .string d.t, .int .i64 d.n, .int .i64 d.vn, .int .i64 d.vk] 69))) := (KeepT.of_below hb1).trans (KeepT.of_below ((Below.refl _ _).alloc (Nat.le_refl _) _))
  have hx := heap_alloc_new w1 (.cells #[.int .u8 d.k, .string d.t, .int .i64 d.n, .int .i64 d.vn, .int .i64 d.vk] 69)
  have d0 : (w1.alloc (.cells #[.int .u8 d.k, .string d.t, .int .i64 d.n, .int .i64 d.vn, .int .i64 d.vk] 69)).cell? ⟨w1.heap.size, 0, none⟩ = some (.int .u8 d.k) := by rw [cell_of_row _ _ 0 _ 69 (0, 0) hx]; rfl
  have d2 : (w1.alloc (.cells #[.int .u8 d.k, .string d.t, .int .i64 d.n, .int .i64 d.vn, .int .i64 d.vk] 69)).cell? ⟨w1.heap.size, 2, none⟩ = some (.int .i64 d.n) := by rw [cell_of_row _ _ 2 _ 69 (0, 0) hx]; rfl
  have d3 : (w1.alloc (.cells #[.int .u8 d.k, .string d.t, .int .i64 d.n, .int .i64 d.vn, .int .i64 d.vk] 69)).cell? ⟨w1.heap.size, 3, none⟩ = some (.int .i64 d.vn) := by rw [cell_of_row _ _ 3 _ 69 (0, 0) hx]; rfl
  have d4 : (w1.alloc (.cells #[.int .u8 d.k, .string d.t, .int .i64 d.n, .int .i64 d.vn, .int .i64 d.vk] 69)).cell? ⟨w1.heap.size, 4, none⟩ = some (.int .i64 d.vk) := by rw [cell_of_row _ _ 4 _ 69 (0, 0) hx]; rfl
  have h0l : 0 < (d :: r).length := by simp
  have h0i : (0 : Int) < ((d :: r).length : Int) := by simp
  have HNs : Hid (numS d names = if d.k = 1 then (d.n, 1, names) else if d.k = 4 then (0, 3, addN names (d.vn, d.vk)) else (0, 2, names)) := rfl
  have H92 : Hid (Calls Tryz.prog 103 #[.pointer (some ⟨lb, 0, none⟩), .agg #[.int .i64 d.vn, .int .i64 d.vk]] (w1.alloc (.cells #[.int .u8 d.k, .string d.t, .int .i64 d.n, .int .i64 d.vn, .int .i64 d.vk] 69)) fun e w' => e = .returned (.int .u8 3) ∧ Lk w' base lb (.pointer q) B g (addN names (d.vn, d.vk)) (K + 1) ∧ Below base (w1.alloc (.cells #[.int .u8 d.k, .string d.t, .int .i64 d.n, .int .i64 d.vn, .int .i64 d.vk] 69)) w' ∧ KeepT (w1.alloc (.cells #[.int .u8 d.k, .string d.t, .int .i64 d.n, .int .i64 d.vn, .int .i64 d.vk] 69)) w') := by
   obtain ⟨M, n, nv, hl, hk1, hk2⟩ := HL2.out
   refine (h92 base lb _ B g M n nv names (d.vn, d.vk) _ hl HWd.out (by omega) (by omega) (Nat.le_trans hbs (Nat.le_trans hb1.size (by simp)))).mono ?_
   rintro e w' ⟨he, ⟨n', nv', h1, h2⟩, hb, hkt⟩
   exact ⟨he, ⟨M, n', nv', h1, by omega, by have := addN_len names (d.vn, d.vk); omega⟩, hb, hkt⟩
  generalize (d :: r).length = ll at *
  clear hF hx h3 hne hwf H15 c0
  by_cases hk1 : d.k = 1
  ·have HE : Hid (numS d names = (d.n, 1, names)) := by show numS d names = _; rw [HNs.out, if_pos hk1]
   have hq1 : (d.k == 1) = true := by simp [hk1]
   clear hk1
   go_wp2_with fail
   refine bodyPost_ret (v := .tuple #[.int .i64 d.n, .int .u8 1]) (by simp [results, Tryz.results66, go_sem]) rfl ⟨d, r, by rw [HE.out], HF.out, ?_, HB2.out, HK2.out⟩
   rw [HE.out]
   obtain ⟨M, n, nv, h1, h2, h3⟩ := HL2.out
   exact ⟨M, n, nv, h1, Nat.le_succ_of_le h2, Nat.le_succ_of_le h3⟩
  ·have hq1 : (d.k == 1) = false := by simp [hk1]
   by_cases hk4 : d.k = 4
   ·have HE : Hid (numS d names = (0, 3, addN names (d.vn, d.vk))) := by show numS d names = _; rw [HNs.out, if_neg hk1, if_pos hk4]
    have hq4 : (d.k == 4) = true := by simp [hk4]
    clear hk4 hk1
    go_wp2_with fail
    refine H92.out.mono ?_
    rintro e w3 ⟨rfl, hL3, hb3, hk3⟩
    have HL3 : Hid (Lk w3 base lb (.pointer q) B g (addN names (d.vn, d.vk)) (K + 1)) := hL3
    have HB3 : Hid (Below base w w3) := HB2.out.trans hb3
    have HK3 : Hid (KeepT w w3) := HK2.out.trans hk3
    clear hL3 hb3 hk3
    go_wp2_with fail
    refine bodyPost_ret (v := .tuple #[.int .i64 0, .int .u8 3]) (by simp [results, Tryz.results66, go_sem]) rfl ⟨d, r, by rw [HE.out], HF.out, ?_, HB3.out, HK3.out⟩
    rw [HE.out]
    exact HL3.out
   ·have HE : Hid (numS d names = (0, 2, names)) := by show numS d names = _; rw [HNs.out, if_neg hk1, if_neg hk4]
    have hq4 : (d.k == 4) = false := by simp [hk4]
    go_wp2_with fail
    refine bodyPost_ret (v := .tuple #[.int .i64 0, .int .u8 2]) (by simp [results, Tryz.results66, go_sem]) rfl ⟨d, r, by rw [HE.out], HF.out, ?_, HB2.out, HK2.out⟩
    rw [HE.out]
    obtain ⟨M, n, nv, h1, h2, h3⟩ := HL2.out
    exact ⟨M, n, nv, h1, Nat.le_succ_of_le h2, Nat.le_succ_of_le h3⟩
end Go.Proofs.YtaehhophaaipdaaGreatDoor

namespace Go.Proofs.YtaehhophaaipdaaGreatDoor
open Go.RowKit
attribute [local go_sem ↓] Go.wp_at_zero Go.wp_at_succ
def isB (l : List C) (s : ByteArray) (n : Int) : Bool := match l with
 | [] => false
 | c :: _ => (c.t.toList == s.toList) && (((c.k == 3) && (c.n == n)) || ((n == 0) && (c.k == 2)))
theorem isB_get {l : List C} (h : 0 < l.length) (s : ByteArray) (n : Int) : isB l s n = ((l[0].t.toList == s.toList) && (((l[0].k == 3) && (l[0].n == n)) || ((n == 0) && (l[0].k == 2)))) := by
 match l, h with
 | c :: r, _ => rfl
set_option maxHeartbeats 1000000 in
theorem c28_nil (s : ByteArray) (n : Int) (c : Nat) (a : Option Addr) (w : World) :
  Calls Tryz.prog 67 #[.slice a 0 c, .string s, .int .i64 n] w fun e w' => e = .returned (.bool false) ∧ w' = w := by
 go_enter Tryz.func67, Tryz.ntmps67
 go_wp2_with fail
 go_ret
 exact ⟨rfl, rfl⟩
set_option maxHeartbeats 4000000 in
theorem c28_in (l : List C) (b o cap : Nat) (s : ByteArray) (n : Int) (w : World) (hr : w.rangeAt b o (flat l)) (h1 : 0 < l.length) :
  Calls Tryz.prog 67 #[.slice (some ⟨b, o, none⟩) l.length cap, .string s, .int .i64 n] w fun e w' => e = .returned (.bool (isB l s n)) ∧ w' = w := by
 rw [isB_get h1]
 obtain ⟨p0, p1, p2, p3, p4⟩ := term_cells hr 0 h1
 simp only [Nat.zero_mul, Nat.add_zero] at p0 p1 p2 p3 p4
 have h1' : (0 : Int) < (l.length : Int) := by omega
 have h1b : ((l.length : Int) == 0) = false := by rw [beq_eq_false_iff_ne]; omega
 clear hr
 generalize l[0].t = t at *
 generalize l[0].k = k at *
 generalize l[0].n = m at *
 cases ht : (t.toList == s.toList)
 ·go_enter Tryz.func67, Tryz.ntmps67
  go_wp2_with fail
  go_ret
  exact ⟨rfl, rfl⟩
 ·by_cases hk2 : k = 2
  ·subst hk2
   go_enter Tryz.func67, Tryz.ntmps67
   go_wp2_with fail
   go_ret
   exact ⟨by simp, rfl⟩
  ·have hk2b : (k == 2) = false := by simp [hk2]
   cases hk3 : (k == 3)
   ·go_enter Tryz.func67, Tryz.ntmps67
    go_wp2_with fail
    go_ret
    exact ⟨by simp [hk2], rfl⟩
   ·go_enter Tryz.func67, Tryz.ntmps67
    go_wp2_with fail
    go_ret
    exact ⟨by simp [hk2], rfl⟩
theorem c28 (l : List C) (v : Value) (s : ByteArray) (n : Int) (w : World) (hT : TermAt w v l) :
  Calls Tryz.prog 67 #[v, .string s, .int .i64 n] w fun e w' => e = .returned (.bool (isB l s n)) ∧ w' = w := by
 by_cases h0 : 0 < l.length
 ·obtain ⟨_, h⟩ := hT
  rcases h with ⟨e, _⟩ | ⟨b, o, cap, rfl, _, _, hr, _⟩
  ·rw [e] at h0; simp at h0
  exact c28_in l b o cap s n w hr h0
 ·obtain ⟨a, c, rfl⟩ := hT.form
  have e : l = [] := List.eq_nil_of_length_eq_zero (by omega)
  subst e
  exact c28_nil s n c a w
end Go.Proofs.YtaehhophaaipdaaGreatDoor

namespace Go.Proofs.YtaehhophaaipdaaGreatDoor
open Go.RowKit
attribute [local go_sem ↓] Go.wp_at_zero Go.wp_at_succ
def opN (i : Nat) (nums : List Int) (o : Int) : Int := if o = 1 then (resR i nums).1 else 0
def opO (i : Nat) (nums : List Int) (o : Int) : Int := if o = 1 then (if (resR i nums).2 = true then 1 else 2) else o
def opR (i : Nat) (nums : List Int) (o : Int) (rest : List C) : List C := if o = 1 ∧ (resR i nums).2 = false then [] else rest
mutual
/-- The sum with which cells begin: its number, how it stands, what is behind it, what is waited for then. -/
inductive Sm (m : Hp) : Nat → List C → List Nm → Int → Int → List C → List Nm → Prop
 | leaf {d : Nat} {c : C} {r : List C} {names : List Nm} {e : C} {r' : List C} (hk : c.k ≠ 3) (hf : IsFol m [c] (e :: r')) : Sm m (d + 1) (c :: r) names (numS e names).1 (numS e names).2.1 r (numS e names).2.2
 | none {d : Nat} {c : C} {r : List C} {names : List Nm} (hk : c.k = 3) (hn : ∀ i, i < 8 → isB (c :: r) (opT i) (opA i) = false) : Sm m (d + 1) (c :: r) names 0 2 [] names
 | op {d : Nat} {c : C} {r : List C} {names : List Nm} {i : Nat} {nums : List Int} {o : Int} {rest : List C} {names' : List Nm} (hk : c.k = 3) (hi : i < 8) (hm : isB (c :: r) (opT i) (opA i) = true) (hb : ∀ j, j < i → isB (c :: r) (opT j) (opA j) = false) (hs : Sms m d (opA i).toNat r names [] 1 nums o rest names') (hok : o = 1 → (nums.length : Int) = opA i ∧ ∀ x ∈ nums, okI x) : Sm m (d + 1) (c :: r) names (opN i nums o) (opO i nums o) (opR i nums o rest) names'
/-- So many sums, one behind the other. -/
inductive Sms (m : Hp) : Nat → Nat → List C → List Nm → List Int → Int → List Int → Int → List C → List Nm → Prop
 | done {d : Nat} {cells : List C} {names : List Nm} {nums : List Int} {o : Int} : Sms m d 0 cells names nums o nums o cells names
 | fail {d k : Nat} {cells : List C} {names : List Nm} {nums : List Int} {o n : Int} {rest : List C} {names' : List Nm} (h : Sm m d cells names n 2 rest names') : Sms m d (k + 1) cells names nums o [] 2 [] names'
 | next {d k : Nat} {cells : List C} {names : List Nm} {nums : List Int} {o n e : Int} {rest : List C} {names' : List Nm} {R1 : List Int} {R2 : Int} {R3 : List C} {R4 : List Nm} (h : Sm m d cells names n e rest names') (he : e ≠ 2) (hn : (Lit.int .i64 n).wf = true) (hs : Sms m d k rest names' (nums ++ [n]) (if e = 3 then 3 else o) R1 R2 R3 R4) : Sms m d (k + 1) cells names nums o R1 R2 R3 R4
end
/-- What a call of sum tells. -/
def SumPost (w0 : World) (lb : Nat) (p : Value) (B g : Nat) (n o : Int) (rest : List C) (names' : List Nm) (T : Nat) (w : World) (e : Ending) (w' : World) : Prop := ∃ rv K', e = .returned (.tuple #[.int .i64 n, .int .u8 o, rv]) ∧ TermAt w0 rv rest ∧ Lk w' w0.heap.size lb p B g names' K' ∧ K' + rest.length ≤ T ∧ (∀ c ∈ rest, wfN (c.vn, c.vk)) ∧ Below w0.heap.size w0 w' ∧ KeepT w w'
def SumC (m : Hp) (w0 : World) (lb : Nat) (p : Value) (B g : Nat) (d : Nat) : Prop := ∀ (cells : List C) (names : List Nm) (n o : Int) (rest : List C) (names' : List Nm) (v : Value) (w : World) (K : Nat), Sm m d cells names n o rest names' → Below w0.heap.size w0 w → Lk w w0.heap.size lb p B g names K → TermAt w0 v cells → (∀ c ∈ cells, wfN (c.vn, c.vk)) → K + cells.length < 999999999 → Calls Tryz.prog 34 #[.pointer (some ⟨lb, 0, none⟩), v] w (SumPost w0 lb p B g n o rest names' (K + cells.length) w)
theorem ints_keep {w w' : World} {base : Nat} {v : Value} {zs : List Int} (h : w.ownsInts base 3 .i64 v zs) (hk : KeepT w w') : w'.ownsInts base 3 .i64 v zs := by
 refine ⟨⟨h.1.1, ?_⟩, h.2⟩
 rcases h.1.2 with hh | ⟨g, cap, cur, e1, e2, e3, e4⟩
 ·exact .inl hh
 ·exact .inr ⟨g, cap, cur, e1, e2, hk.2 _ _ _ _ e3 (by decide) (by decide), e4⟩
theorem jnfo3 : ∃ i, Tryz.prog.info? 3 = some i ∧ i.zero = some (.int .i64 0) ∧ i.size = 1 ∧ i.bytes = 8 := by
 have h : (Tryz.prog.info? 3).map (fun i => (i.zero, i.size, i.bytes)) = some (some (.int .i64 0), 1, 8) := by kernel_rfl
 cases hq : Tryz.prog.info? 3 with
 | none => rw [hq] at h; cases h
 | some i =>
  rw [hq] at h
  simp only [Option.map_some, Option.some.injEq, Prod.mk.injEq] at h
  exact ⟨i, rfl, h.1, h.2.1, h.2.2⟩
theorem intsR_of {w : World} {base : Nat} {v : Value} {zs : List Int} (h : w.ownsInts base 3 .i64 v zs) (hl : zs.length ≤ maxLen) : IntsR w v zs := by
 refine ⟨hl, ?_⟩
 rcases h.1.2 with ⟨h1, h2⟩ | ⟨g, cap, cur, e1, e2, e3, e4, e5, e6, e7⟩
 ·exact .inl ⟨List.eq_nil_of_length_eq_zero h2, none, h1⟩
 ·exact .inr ⟨g, 0, cap, e1, (Array.getElem?_eq_some_iff.1 e3).1, range_of_owns e3 e7⟩
/-- What a call of sums tells. -/
def SumsPost (w0 : World) (lb : Nat) (p : Value) (B g : Nat) (nums : List Int) (o : Int) (rest : List C) (names' : List Nm) (T : Nat) (w : World) (e : Ending) (w' : World) : Prop := ∃ nv rv K', e = .returned (.tuple #[nv, .int .u8 o, rv]) ∧ IntsR w' nv nums ∧ TermAt w0 rv rest ∧ Lk w' w0.heap.size lb p B g names' K' ∧ K' + rest.length ≤ T ∧ (∀ c ∈ rest, wfN (c.vn, c.vk)) ∧ Below w0.heap.size w0 w' ∧ KeepT w w'
theorem LkAt.grown3 {w w' : World} {base lb : Nat} {p : Value} {B g M n : Nat} {nv : Value} {names : List Nm} {b2 k2 : Nat} {v : Value} {xs : List Value} (h : LkAt w base lb p B g M n nv names) (ho : w.ownsRow b2 3 1 v k2 xs) (hg : w.grownBy w' v.ownBlock) : LkAt w' base lb p B g M n nv names := by
 have hv : ∀ (k : Nat) (cs : Array Value) (t : TypeId) (fr : Nat × Nat), w.heap[k]? = some (Obj.cells cs t fr) → t ≠ 3 → v.ownBlock ≠ some k := by
  intro k cs t fr hk ht e
  rcases ho.2 with ⟨h1, _⟩ | ⟨g', c', cur', h1, _, h3, _⟩
  ·rw [h1] at e; cases e
  ·rw [h1] at e
   simp only [Value.ownBlock, Option.some.injEq] at e
   subst e
   rw [h3] at hk
   simp only [Option.some.injEq, Obj.cells.injEq] at hk
   exact ht hk.2.1.symm
 have hk : ∀ (k : Nat) (cs : Array Value) (t : TypeId) (fr : Nat × Nat), w.heap[k]? = some (Obj.cells cs t fr) → t ≠ 3 → w'.heap[k]? = some (Obj.cells cs t fr) := fun k cs t fr hk ht => (hg.block k (Array.getElem?_eq_some_iff.1 hk).1 (fun e => hv k cs t fr hk ht e.symm)).trans hk
 refine ⟨hk _ _ _ _ h.blk (by decide), h.hlb, h.hM, ⟨hk _ _ _ _ h.ops.row (by decide), fun k hk7 => hk _ _ _ _ (h.ops.box k hk7) (by decide)⟩, ?_, ?_, h.wf⟩
 ·refine ⟨h.row.1, ?_⟩
  rcases h.row.2 with hh | ⟨g', cap, cur, e1, e2, e3, e4⟩
  ·exact .inl hh
  ·exact .inr ⟨g', cap, cur, e1, e2, hk _ _ _ _ e3 (by decide), e4⟩
 ·refine h.met.kept hg (fun e => ?_)
  obtain ⟨es, ck, hm, _⟩ := h.met
  rcases ho.2 with ⟨h1, _⟩ | ⟨g', c', cur', h1, _, h3, _⟩
  ·rw [h1] at e; cases e
  ·rw [h1] at e
   simp only [Value.ownBlock, Option.some.injEq] at e
   rw [← e, hm] at h3
   cases h3
theorem Lk.grown3 {w w' : World} {base lb : Nat} {p : Value} {B g : Nat} {names : List Nm} {K b2 k2 : Nat} {v : Value} {xs : List Value} (h : Lk w base lb p B g names K) (ho : w.ownsRow b2 3 1 v k2 xs) (hg : w.grownBy w' v.ownBlock) : Lk w' base lb p B g names K := by
 obtain ⟨M, n, nv, h1, h2⟩ := h
 exact ⟨M, n, nv, h1.grown3 ho hg, h2⟩
theorem KeepT.grown {w w1 w' : World} {b2 k2 : Nat} {v : Value} {xs : List Value} (h : KeepT w w1) (ho : w1.ownsRow b2 3 1 v k2 xs) (hb : w.heap.size ≤ b2) (hg : w1.grownBy w' v.ownBlock) : KeepT w w' := by
 refine ⟨Nat.le_trans h.1 hg.size, fun k cs t fr hk h97 h23 => ?_⟩
 have hlt := (Array.getElem?_eq_some_iff.1 hk).1
 exact (hg.block k (Nat.lt_of_lt_of_le hlt h.1) (fun e => by have := (ho.lt k e.symm).1; omega)).trans (h.2 k cs t fr hk h97 h23)
set_option maxRecDepth 100000 in
set_option maxHeartbeats 4000000 in
theorem h93 (m : Hp) (w0 : World) (lb : Nat) (p : Value) (B g : Nat) (d : Nat) (hC : SumC m w0 lb p B g d) (k : Nat) (hk2 : k ≤ 2) (cells : List C) (names : List Nm) (nums : List Int) (o : Int) (rest : List C) (names' : List Nm) (v : Value) (w : World) (K : Nat) (hs : Sms m d k cells names [] 1 nums o rest names') (hb : Below w0.heap.size w0 w) (hL : Lk w w0.heap.size lb p B g names K) (hT : TermAt w0 v cells) (hW : ∀ c ∈ cells, wfN (c.vn, c.vk)) (hK : K + cells.length < 999999999) :
  Calls Tryz.prog 104 #[.pointer (some ⟨lb, 0, none⟩), v, .int .i64 k] w (SumsPost w0 lb p B g nums o rest names' (K + cells.length) w) := by
 have HC : Hid (SumC m w0 lb p B g d) := hC
 have H0 : Hid (Sms m d k cells names [] 1 nums o rest names' ∧ Lk w w0.heap.size lb p B g names K ∧ TermAt w0 v cells ∧ ∀ c ∈ cells, wfN (c.vn, c.vk)) := ⟨hs, hL, hT, hW⟩
 obtain ⟨i0, hi, hz, hs3, hby⟩ := jnfo3
 obtain ⟨a0, c0, hf0⟩ := hT.form
 subst hf0
 clear hC hs hL hT hW
 go_enter Tryz.func104, Tryz.ntmps104
 go_wp2_with fail
 go_loopw [6, 7, 8, 14] (fun nv ov bv jv wr => ∃ (j : Nat) (nums1 : List Int) (o1 : Int) (cells1 : List C) (names1 : List Nm) (K1 : Nat), j ≤ k ∧ jv = .int .i64 j ∧ ov = .int .u8 o1 ∧ (∃ a n c, bv = .slice a n c) ∧ (∃ a n c, nv = .slice a n c) ∧ nums1.length = j ∧ K1 + cells1.length ≤ K + cells.length ∧ Hid (Sms m d (k - j) cells1 names1 nums1 o1 nums o rest names' ∧ Lk wr w0.heap.size lb p B g names1 K1 ∧ TermAt w0 bv cells1 ∧ (∀ c ∈ cells1, wfN (c.vn, c.vk)) ∧ wr.ownsInts w.heap.size 3 .i64 nv nums1 ∧ KeepT w wr) ∧ Below w0.heap.size w0 wr) (fun _ _ _ jv _ => k - (intOf jv).toNat)
 case atStart => exact ⟨0, [], 1, cells, names, K, by omega, rfl, rfl, ⟨_, _, _, rfl⟩, ⟨_, _, _, rfl⟩, rfl, Nat.le_refl _, ⟨by simpa using H0.out.1, H0.out.2.1, H0.out.2.2.1, H0.out.2.2.2, World.ownsInts_nil _ _ _ _, KeepT.refl _⟩, hb⟩
 case round =>
  obtain ⟨j, nums1, o1, cells1, names1, K1, hj, rfl, rfl, ⟨ab, nb, cb, rfl⟩, ⟨an, nn, cn, rfl⟩, hnl, hKc, HI, hbr⟩ := hrel
  subst hnl
  by_cases hlt : nums1.length < k
  ·have hlt' : (nums1.length : Int) < (k : Int) := by omega
   obtain ⟨q, hq⟩ : ∃ q, k - nums1.length = q + 1 := ⟨k - nums1.length - 1, by omega⟩
   have HQ : Hid (k - (nums1.length + 1) = q) := by show _ = _; omega
   have HD := HI.out.1
   rw [hq] at HD
   have H62 : Hid (∀ (n1 e1 : Int) (r1 : List C) (m1 : List Nm), Sm m d cells1 names1 n1 e1 r1 m1 → Calls Tryz.prog 34 #[.pointer (some ⟨lb, 0, none⟩), .slice ab nb cb] wr (SumPost w0 lb p B g n1 e1 r1 m1 (K1 + cells1.length) wr)) := fun n1 e1 r1 m1 h => HC.out cells1 names1 n1 e1 r1 m1 _ wr K1 h hbr HI.out.2.1 HI.out.2.2.1 HI.out.2.2.2.1 (by omega)
   cases HD with
   | fail h =>
    have H62 := H62.out _ _ _ _ h
    clear h
    go_wp2_with fail
    refine H62.mono ?_
    rintro e w1 ⟨rv, K', rfl, hT1, hL1, hK1, hw1, hb1, hk1⟩
    have HF : Hid (Lk w1 w0.heap.size lb p B g names' K' ∧ K' + ([] : List C).length ≤ K + cells.length ∧ Below w0.heap.size w0 w1 ∧ KeepT w w1) := ⟨hL1, by simp; omega, hb1, HI.out.2.2.2.2.2.trans hk1⟩
    obtain ⟨a1, c1, hf1⟩ := hT1.form
    subst hf1
    clear hT1 hL1 hK1 hw1 hb1 hk1 H62
    go_wp2_with fail
    exact bodyPost_ret (v := .tuple #[.slice none 0 0, .int .u8 2, .slice none 0 0]) (by simp [results, Tryz.results104, go_sem]) rfl ⟨_, _, K', rfl, ⟨by simp, .inl ⟨rfl, none, rfl⟩⟩, term_nil _ _, HF.out.1, HF.out.2.1, by simp, HF.out.2.2⟩
   | next h he hn hs =>
    rename_i n1 e1 r1 m1
    have H62 := H62.out _ _ _ _ h
    have HS : Hid (Sms m d q r1 m1 (nums1 ++ [n1]) (if e1 = 3 then 3 else o1) nums o rest names') := hs
    have HNw : Hid ((Lit.int .i64 n1).wf = true) := hn
    have hq2 : (e1 == 2) = false := by simpa using he
    clear h hs he hn
    go_wp2_with fail
    refine H62.mono ?_
    rintro e w1 ⟨rv, K', rfl, hT1, hL1, hK1, hw1, hb1, hk1⟩
    have HO1 : Hid ((w1.alloc (.cells #[.int .i64 n1] 3)).ownsInts w.heap.size 3 .i64 (.slice an nn cn) nums1) := (ints_keep HI.out.2.2.2.2.1 hk1).alloc _
    have hnn : nn = nums1.length := by
     obtain ⟨a', c', e'⟩ := (intsR_of HI.out.2.2.2.2.1 (by unfold maxLen; omega)).form
     simp only [Value.slice.injEq] at e'
     exact e'.2.1
    subst hnn
    have HL1 : Hid (Lk (w1.alloc (.cells #[.int .i64 n1] 3)) w0.heap.size lb p B g m1 K' ∧ TermAt w0 rv r1 ∧ (∀ c ∈ r1, wfN (c.vn, c.vk)) ∧ KeepT w (w1.alloc (.cells #[.int .i64 n1] 3)) ∧ Below w0.heap.size w0 (w1.alloc (.cells #[.int .i64 n1] 3))) := ⟨hL1.below ((Below.refl _ _).alloc (Nat.le_refl _) _), hT1, hw1, (HI.out.2.2.2.2.2.trans hk1).trans (KeepT.of_below ((Below.refl _ _).alloc (Nat.le_refl _) _)), hb1.alloc hb1.size _⟩
    have hbase : w.heap.size ≤ (w1.alloc (.cells #[.int .i64 n1] 3)).heap.size := by have := (HI.out.2.2.2.2.2.trans hk1).1; simp; omega
    have hbase0 : w0.heap.size ≤ (w1.alloc (.cells #[.int .i64 n1] 3)).heap.size := by have := hb1.size; simp; omega
    have hw0 : w0.heap.size ≤ w.heap.size := hb.size
    obtain ⟨a1, c1, hf1⟩ := hT1.form
    subst hf1
    have hKn : K' + r1.length ≤ K + cells.length := by omega
    clear hT1 hL1 hK1 hw1 hb1 hk1 H62
    by_cases h3 : e1 = 3
    ·have hq3 : (e1 == 3) = true := by simp [h3]
     have HS2 : Hid (Sms m d q r1 m1 (nums1 ++ [n1]) 3 nums o rest names') := by
      have := HS.out
      rwa [if_pos h3] at this
     clear h3
     go_wp2_with (at_builtin; refine wpList_append_own _ rfl _ _ 116 rfl w.heap.size 3 i0 (.int .i64 0) 1 8 Tryz.underlying116 hi hz hs3 hby rfl (by decide) _ _ _ rfl HO1.out.1 ⟨w1.heap.size, 0, none⟩ 1 1 [.int .i64 n1] rfl rfl (cell_one_new _ _ _) (fun u hu => by simp at hu; subst hu; rfl) (by unfold maxLen; omega) (by omega) hbase ?_)
     intro v' w' hown hgr _
     have HF : Hid (w'.ownsInts w.heap.size 3 .i64 v' (nums1 ++ [n1]) ∧ Lk w' w0.heap.size lb p B g m1 K' ∧ KeepT w w' ∧ Below w0.heap.size w0 w') := by
      obtain ⟨h1, h2, h3, h4, h5⟩ := HL1.out
      exact ⟨World.ownsInts.appended HO1.out hown HNw.out, h1.grown3 HO1.out.1 hgr, h4.grown HO1.out.1 (Nat.le_refl _) hgr, h5.grown hgr hbase0 (fun g hg => Nat.le_trans hw0 (HO1.out.1.lt g hg).1)⟩
     obtain ⟨a', c', hvf⟩ := owns_form hown
     subst hvf
     clear hown hgr
     go_wp2_with fail
     go_roundw
     case rel => exact ⟨nums1.length + 1, nums1 ++ [n1], 3, r1, m1, K', by omega, by go_num, rfl, ⟨_, _, _, rfl⟩, ⟨_, _, _, rfl⟩, by simp, hKn, ⟨by rw [HQ.out]; exact HS2.out, HF.out.2.1, HL1.out.2.1, HL1.out.2.2.1, HF.out.1, HF.out.2.2.1⟩, HF.out.2.2.2⟩
     case measure => simp [intOf]; omega
    ·have hq3 : (e1 == 3) = false := by simp [h3]
     have HS2 : Hid (Sms m d q r1 m1 (nums1 ++ [n1]) o1 nums o rest names') := by
      have := HS.out
      rwa [if_neg h3] at this
     clear h3
     go_wp2_with (at_builtin; refine wpList_append_own _ rfl _ _ 116 rfl w.heap.size 3 i0 (.int .i64 0) 1 8 Tryz.underlying116 hi hz hs3 hby rfl (by decide) _ _ _ rfl HO1.out.1 ⟨w1.heap.size, 0, none⟩ 1 1 [.int .i64 n1] rfl rfl (cell_one_new _ _ _) (fun u hu => by simp at hu; subst hu; rfl) (by unfold maxLen; omega) (by omega) hbase ?_)
     intro v' w' hown hgr _
     have HF : Hid (w'.ownsInts w.heap.size 3 .i64 v' (nums1 ++ [n1]) ∧ Lk w' w0.heap.size lb p B g m1 K' ∧ KeepT w w' ∧ Below w0.heap.size w0 w') := by
      obtain ⟨h1, h2, h3, h4, h5⟩ := HL1.out
      exact ⟨World.ownsInts.appended HO1.out hown HNw.out, h1.grown3 HO1.out.1 hgr, h4.grown HO1.out.1 (Nat.le_refl _) hgr, h5.grown hgr hbase0 (fun g hg => Nat.le_trans hw0 (HO1.out.1.lt g hg).1)⟩
     obtain ⟨a', c', hvf⟩ := owns_form hown
     subst hvf
     clear hown hgr
     go_wp2_with fail
     go_roundw
     case rel => exact ⟨nums1.length + 1, nums1 ++ [n1], o1, r1, m1, K', by omega, by go_num, rfl, ⟨_, _, _, rfl⟩, ⟨_, _, _, rfl⟩, by simp, hKn, ⟨by rw [HQ.out]; exact HS2.out, HF.out.2.1, HL1.out.2.1, HL1.out.2.2.1, HF.out.1, HF.out.2.2.1⟩, HF.out.2.2.2⟩
     case measure => simp [intOf]; omega
  ·have hlt' : ¬ ((nums1.length : Int) < (k : Int)) := by omega
   have hjk : k - nums1.length = 0 := by omega
   have HD := HI.out.1
   rw [hjk] at HD
   cases HD
   have HF : Hid (IntsR wr (.slice an nn cn) nums ∧ TermAt w0 (.slice ab nb cb) rest ∧ Lk wr w0.heap.size lb p B g names' K1 ∧ K1 + rest.length ≤ K + cells.length ∧ (∀ c ∈ rest, wfN (c.vn, c.vk)) ∧ Below w0.heap.size w0 wr ∧ KeepT w wr) := ⟨intsR_of HI.out.2.2.2.2.1 (by unfold maxLen; omega), HI.out.2.2.1, HI.out.2.1, hKc, HI.out.2.2.2.1, hbr, HI.out.2.2.2.2.2⟩
   go_wp2_with fail
   exact bodyPost_ret (v := .tuple #[.slice an nn cn, .int .u8 o, .slice ab nb cb]) (by simp [results, Tryz.results104, go_sem]) rfl ⟨_, _, K1, rfl, HF.out⟩
end Go.Proofs.YtaehhophaaipdaaGreatDoor

namespace Go.Proofs.YtaehhophaaipdaaGreatDoor
open Go.RowKit
attribute [local go_sem ↓] Go.wp_at_zero Go.wp_at_succ
theorem opA_nat (i : Nat) : opA i = ((opA i).toNat : Int) ∧ (opA i).toNat ≤ 2 := by
 unfold opA
 split <;> decide
theorem Lk.ops {w : World} {base lb : Nat} {p : Value} {B g : Nat} {names : List Nm} {K : Nat} (h : Lk w base lb p B g names K) : OpsAt w B g := by
 obtain ⟨M, n, nv, h1, _⟩ := h
 exact h1.ops
set_option maxRecDepth 100000 in
set_option maxHeartbeats 4000000 in
theorem h76 (m : Hp) (w0 : World) (lb : Nat) (p : Value) (B g : Nat) (d : Nat) (hC : SumC m w0 lb p B g d) (i : Nat) (hi8 : i < 8) (cells : List C) (names : List Nm) (nums : List Int) (o : Int) (rest : List C) (names' : List Nm) (v : Value) (w : World) (K : Nat) (hs : Sms m d (opA i).toNat cells names [] 1 nums o rest names') (hok : o = 1 → (nums.length : Int) = opA i ∧ ∀ x ∈ nums, okI x) (hb : Below w0.heap.size w0 w) (hL : Lk w w0.heap.size lb p B g names K) (hT : TermAt w0 v cells) (hW : ∀ c ∈ cells, wfN (c.vn, c.vk)) (hK : K + cells.length < 999999999) :
  Calls Tryz.prog 68 #[.pointer (some ⟨lb, 0, none⟩), .agg #[.string (opT i), .int .i64 (opA i), cloV B i], v] w (SumPost w0 lb p B g (opN i nums o) (opO i nums o) (opR i nums o rest) names' (K + cells.length) w) := by
 obtain ⟨f, fc, hcl⟩ := cloV_one B i
 obtain ⟨hA, hA2⟩ := opA_nat i
 have hba : Below w.heap.size w (w.alloc (.cells #[.string (opT i), .int .i64 (opA i), cloV B i] 113)) := (Below.refl _ w).alloc (Nat.le_refl _) _
 have H93 := h93 m w0 lb p B g d hC (opA i).toNat hA2 cells names nums o rest names' v (w.alloc (.cells #[.string (opT i), .int .i64 (opA i), cloV B i] 113)) K hs (hb.trans (hba.mono hb.size)) (hL.below hba) hT hW hK
 rw [← hA] at H93
 have HKa : Hid (KeepT w (w.alloc (.cells #[.string (opT i), .int .i64 (opA i), cloV B i] 113))) := KeepT.of_below hba
 have HBx : Hid ((w.alloc (.cells #[.string (opT i), .int .i64 (opA i), cloV B i] 113)).heap[w.heap.size]? = some (.cells #[.string (opT i), .int .i64 (opA i), cloV B i] 113 (0, 0))) := heap_alloc_new w _
 have c1 : (w.alloc (.cells #[.string (opT i), .int .i64 (opA i), cloV B i] 113)).cell? ⟨w.heap.size, 1, none⟩ = some (.int .i64 (opA i)) := by rw [cell_of_row _ _ 1 _ 113 (0, 0) HBx.out]; rfl
 have H37 : Hid (∀ W, OpsAt W B g → ∀ nv, IntsR W nv nums → o = 1 → Calls Tryz.prog 74 #[.agg #[.string (opT i), .int .i64 (opA i), cloV B i], nv] W fun e w' => e = .returned (.tuple #[.int .i64 (resR i nums).1, .bool (resR i nums).2]) ∧ Below W.heap.size W w') := fun W hO nv hI he => h37 i hi8 nums B g nv W hO hI (hok he).1 (hok he).2
 have HN : Hid (opN i nums o = if o = 1 then (resR i nums).1 else 0) := rfl
 have HO : Hid (opO i nums o = if o = 1 then (if (resR i nums).2 = true then 1 else 2) else o) := rfl
 have HR : Hid (opR i nums o rest = if o = 1 ∧ (resR i nums).2 = false then [] else rest) := rfl
 obtain ⟨a0, c0, hf0⟩ := hT.form
 subst hf0
 rw [hcl] at H93 HKa HBx H37 c1 ⊢
 clear hs hL hT hW hok hC hba hA hA2 hcl
 generalize opT i = tx at *
 generalize opA i = ar at *
 go_enter Tryz.func68, Tryz.ntmps68
 go_wp2_with fail
 refine H93.mono ?_
 rintro e w1 ⟨nv, rv, K', rfl, hI1, hT1, hL1, hK1, hw1, hb1, hk1⟩
 have hbx1 : w1.heap[w.heap.size]? = some (.cells #[.string tx, .int .i64 ar, .func (Fn.func f) #[] fc] 113 (0, 0)) := hk1.2 _ _ _ _ HBx.out (by decide) (by decide)
 have d0 : w1.cell? ⟨w.heap.size, 0, none⟩ = some (.string tx) := by rw [cell_of_row _ _ 0 _ 113 (0, 0) hbx1]; rfl
 have d1 : w1.cell? ⟨w.heap.size, 1, none⟩ = some (.int .i64 ar) := by rw [cell_of_row _ _ 1 _ 113 (0, 0) hbx1]; rfl
 have d2 : w1.cell? ⟨w.heap.size, 2, none⟩ = some (.func (Fn.func f) #[] fc) := by rw [cell_of_row _ _ 2 _ 113 (0, 0) hbx1]; rfl
 have HF : Hid (TermAt w0 rv rest ∧ Lk w1 w0.heap.size lb p B g names' K' ∧ K' + rest.length ≤ K + cells.length ∧ (∀ c ∈ rest, wfN (c.vn, c.vk)) ∧ Below w0.heap.size w0 w1 ∧ KeepT w w1) := ⟨hT1, hL1, hK1, hw1, hb1, HKa.out.trans hk1⟩
 have H37 : Hid (o = 1 → Calls Tryz.prog 74 #[.agg #[.string tx, .int .i64 ar, .func (Fn.func f) #[] fc], nv] w1 fun e w' => e = .returned (.tuple #[.int .i64 (resR i nums).1, .bool (resR i nums).2]) ∧ Below w1.heap.size w1 w') := H37.out w1 hL1.ops nv hI1
 obtain ⟨an, cn, hnf⟩ := hI1.form
 obtain ⟨ar', cr, hrf⟩ := hT1.form
 subst hnf hrf
 clear hI1 hT1 hL1 hK1 hw1 hb1 hk1 hbx1 H93 c1
 by_cases ho : o = 1
 ·have H37 := H37.out ho
  have hq : (o != 1) = false := by simp [ho]
  cases hr : (resR i nums).2
  ·have HN1 : Hid (opN i nums o = 0) := by
    show opN i nums o = 0
    rw [HN.out, if_pos ho]
    have : (resR i nums).2 = finB (rawR i nums).1 (rawR i nums).2 := rfl
    have h2 : (resR i nums).1 = finN (rawR i nums).1 (rawR i nums).2 := rfl
    rw [hr] at this
    rw [h2]
    unfold finN
    unfold finB at this
    rw [← this]
    rfl
   have HO1 : Hid (opO i nums o = 2) := by show opO i nums o = 2; rw [HO.out, if_pos ho, hr]; rfl
   have HR1 : Hid (opR i nums o rest = []) := by show opR i nums o rest = []; rw [HR.out, if_pos ⟨ho, hr⟩]
   rw [hr] at H37
   clear ho hr
   go_wp2_with fail
   refine H37.mono ?_
   rintro e w2 ⟨rfl, hb2⟩
   have HP : Hid (SumPost w0 lb p B g (opN i nums o) (opO i nums o) (opR i nums o rest) names' (K + cells.length) w (.returned (.tuple #[.int .i64 0, .int .u8 2, .slice none 0 0])) w2) := by
    refine ⟨.slice none 0 0, K', by rw [HN1.out, HO1.out], by rw [HR1.out]; exact term_nil _ _, HF.out.2.1.below hb2, ?_, by rw [HR1.out]; simp, HF.out.2.2.2.2.1.trans (hb2.mono HF.out.2.2.2.2.1.size), HF.out.2.2.2.2.2.trans (KeepT.of_below hb2)⟩
    rw [HR1.out]
    have := HF.out.2.2.1
    simp; omega
   go_wp2_with fail
   exact bodyPost_ret (v := .tuple #[.int .i64 0, .int .u8 2, .slice none 0 0]) (by simp [results, Tryz.results68, go_sem]) rfl HP.out
  ·have HN1 : Hid (opN i nums o = (resR i nums).1) := by show opN i nums o = _; rw [HN.out, if_pos ho]
   have HO1 : Hid (opO i nums o = 1) := by show opO i nums o = 1; rw [HO.out, if_pos ho, hr]; rfl
   have HR1 : Hid (opR i nums o rest = rest) := by show opR i nums o rest = rest; rw [HR.out, if_neg (fun h => by rw [hr] at h; cases h.2)]
   rw [hr] at H37
   clear ho hr
   generalize (resR i nums).1 = rn at *
   go_wp2_with fail
   refine H37.mono ?_
   rintro e w2 ⟨rfl, hb2⟩
   have HP : Hid (SumPost w0 lb p B g (opN i nums o) (opO i nums o) (opR i nums o rest) names' (K + cells.length) w (.returned (.tuple #[.int .i64 rn, .int .u8 1, .slice ar' rest.length cr])) w2) := by
    rw [HN1.out, HO1.out, HR1.out]
    exact ⟨_, K', rfl, HF.out.1, HF.out.2.1.below hb2, HF.out.2.2.1, HF.out.2.2.2.1, HF.out.2.2.2.2.1.trans (hb2.mono HF.out.2.2.2.2.1.size), HF.out.2.2.2.2.2.trans (KeepT.of_below hb2)⟩
   go_wp2_with fail
   exact bodyPost_ret (v := .tuple #[.int .i64 rn, .int .u8 1, .slice ar' rest.length cr]) (by simp [results, Tryz.results68, go_sem]) rfl HP.out
 ·have hq : (o != 1) = true := by simp [ho]
  have HP : Hid (SumPost w0 lb p B g (opN i nums o) (opO i nums o) (opR i nums o rest) names' (K + cells.length) w (.returned (.tuple #[.int .i64 0, .int .u8 o, .slice ar' rest.length cr])) w1) := by
   have e1 : opN i nums o = 0 := by rw [HN.out, if_neg ho]
   have e2 : opO i nums o = o := by rw [HO.out, if_neg ho]
   have e3 : opR i nums o rest = rest := by rw [HR.out, if_neg (fun h => ho h.1)]
   rw [e1, e2, e3]
   exact ⟨_, K', rfl, HF.out⟩
  go_wp2_with fail
  exact bodyPost_ret (v := .tuple #[.int .i64 0, .int .u8 o, .slice ar' rest.length cr]) (by simp [results, Tryz.results68, go_sem]) rfl HP.out
end Go.Proofs.YtaehhophaaipdaaGreatDoor
