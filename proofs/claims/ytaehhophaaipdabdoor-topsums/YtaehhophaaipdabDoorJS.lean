/- Terms with all values in them, in plain lists; sums: each whole term has one, by more values it is the same, with values put in too. Contracts of which, and of OfInt and OfVar of what is right: a cell in a block of its own. OfVar of a name of node 0: a cell in a block of its own; a fresh name bound to a number. Names 0, 1, .. of node 0 bound to numbers, one by one. A row of single cells put into a term: like errors, and what is told is right. A row of terms of one cell each, each in a block of its own. The statement on sums with numbers put in. -/
import Derived.Test.YtaehhophaaipdabDoorAR12
import Derived.Test.YtaehhophaaipdabDoorV4
import Derived.Test.YtaehhophaaipdabDoorHP6
namespace Go.Proofs.YtaehhophaaipdabDoor
open Go.RowKit
def argN (c : C) : Nat := (argsOf c.k c.n).toNat
/-- Are the cells just so many whole terms? -/
def compQ : List C → Nat → Bool
  | [], q => q == 0
  | _ :: _, 0 => false
  | c :: r, q + 1 => compQ r (q + argN c)
theorem compQ_le : ∀ {l : List C} {q : Nat}, compQ l q = true → q ≤ l.length
  | [], q, h => by
    have : q = 0 := by simpa [compQ] using h
    omega
  | _ :: _, 0, _ => by simp
  | c :: r, q + 1, h => by
    have := compQ_le (l := r) (q := q + argN c) h
    simp only [List.length_cons]
    omega
theorem compQ_zero {l : List C} (h : compQ l 0 = true) : l = [] := by
  cases l with
  | nil => rfl
  | cons c r => cases h
theorem argN_int (c : C) : (argN c : Int) = argsOf c.k c.n := by
  have := argsOf_nonneg c.k c.n
  unfold argN
  omega
theorem endF_of {len : Int} : ∀ (l : List C) (i : Int) (q : Nat), 0 ≤ i → i + (l.length : Int) ≤ len → 1 ≤ q → compQ l q = true → endF len l i q = i + (l.length : Int)
  | [], i, q, _, _, h1, h => by
    have : q = 0 := by simpa [compQ] using h
    omega
  | c :: r, i, q + 1, h0, hl, h1, h => by
    have h2 : compQ r (q + argN c) = true := h
    have h3 := compQ_le h2
    have h4 := argN_int c
    simp only [List.length_cons] at hl
    unfold endF
    rw [if_neg (by omega)]
    split
    · next e =>
      have e2 : q + argN c = 0 := by omega
      rw [e2] at h2
      rw [compQ_zero h2]
      simp
    · next e =>
      have e2 : ((q + 1 : Nat) : Int) + (argsOf c.k c.n - 1) = ((q + argN c : Nat) : Int) := by omega
      rw [e2, endF_of r (i + 1) (q + argN c) (by omega) (by omega) (by omega) h2]
      simp only [List.length_cons]
      omega
theorem comp_of {len : Int} : ∀ (l : List C) (i : Int) (q : Nat), 0 ≤ i → l ≠ [] → 1 ≤ q → endF len l i q = i + (l.length : Int) → compQ l q = true
  | [], _, _, _, h, _, _ => absurd rfl h
  | c :: r, i, 0, _, _, h1, _ => by omega
  | c :: r, i, q + 1, h0, _, _, h => by
    have h4 := argN_int c
    show compQ r (q + argN c) = true
    unfold endF at h
    simp only [List.length_cons] at h
    split at h
    · omega
    · split at h
      · next e =>
        have e2 : q + argN c = 0 := by omega
        have e3 : r = [] := List.eq_nil_of_length_eq_zero (by omega)
        rw [e2, e3]
        rfl
      · next e =>
        have e2 : ((q + 1 : Nat) : Int) + (argsOf c.k c.n - 1) = ((q + argN c : Nat) : Int) := by omega
        rw [e2] at h
        cases r with
        | nil =>
          unfold endF at h
          simp at h
          omega
        | cons d s => exact comp_of (d :: s) (i + 1) (q + argN c) (by omega) (by simp) (by omega) (by rw [h]; simp only [List.length_cons]; omega)
theorem right_iff (l : List C) : rightB l = true ↔ 1 ≤ l.length ∧ l.length ≤ 256 ∧ l.all C.ok = true ∧ compQ l 1 = true := by
  unfold rightB
  simp only [Bool.and_eq_true, decide_eq_true_eq, beq_iff_eq, cellsB]
  have key : 1 ≤ l.length → (endS l 0 = (l.length : Int) ↔ compQ l 1 = true) := fun h1 => by
    have e : endS l 0 = endF l.length l 0 1 := by
      unfold endS
      rw [if_neg (by omega)]
      simp
    rw [e]
    constructor
    · intro h
      exact comp_of l 0 1 (by omega) (fun e => by rw [e] at h1; simp at h1) (by omega) (by rw [show ((1 : Nat) : Int) = 1 by rfl, h]; omega)
    · intro h
      have := endF_of (len := l.length) l 0 1 (by omega) (by omega) (by omega) h
      rw [show ((1 : Nat) : Int) = 1 by rfl] at this
      rw [this]
      omega
  constructor
  · rintro ⟨⟨⟨h1, h2⟩, h3⟩, h4⟩
    exact ⟨by omega, by omega, h3, (key (by omega)).1 h4⟩
  · rintro ⟨h1, h2, h3, h4⟩
    exact ⟨⟨⟨by omega, by omega⟩, h3⟩, (key h1).2 h4⟩
theorem compQ_append : ∀ {a b : List C} {p q : Nat}, compQ a p = true → compQ b q = true → compQ (a ++ b) (p + q) = true
  | [], b, p, q, ha, hb => by
    have : p = 0 := by simpa [compQ] using ha
    subst this
    simpa using hb
  | c :: r, b, 0, q, ha, _ => by cases ha
  | c :: r, b, p + 1, q, ha, hb => by
    have h1 : compQ r (p + argN c) = true := ha
    have h2 := compQ_append h1 hb
    have e : p + 1 + q = (p + q) + 1 := by omega
    rw [e]
    show compQ (r ++ b) (p + q + argN c) = true
    rw [show p + q + argN c = p + argN c + q by omega]
    exact h2
/-- The cells with all values in them. -/
inductive Ex (m : Hp) : List C → List C → Prop
  | nil : Ex m [] []
  | one {c v : C} {r o : List C} (h : IsFol m [c] [v]) (k : Ex m r o) : Ex m (c :: r) (v :: o)
  | more {c : C} {l' x r o : List C} (h : IsFol m [c] l') (hl : l'.length ≠ 1) (hx : Ex m l' x) (k : Ex m r o) : Ex m (c :: r) (x ++ o)
theorem Ex.uniq {m : Hp} {l o o' : List C} (h : Ex m l o) (h' : Ex m l o') : o = o' := by
  induction h generalizing o' with
  | nil => cases h'; rfl
  | one h k ih =>
    cases h' with
    | one h2 k2 =>
      have := h.uniq h2
      simp only [List.cons.injEq, and_true] at this
      rw [this, ih k2]
    | more h2 hl hx k2 =>
      have := h.uniq h2
      subst this
      exact absurd rfl hl
  | more h hl hx k ihx ih =>
    cases h' with
    | one h2 k2 =>
      have := h.uniq h2
      subst this
      exact absurd rfl hl
    | more h2 hl2 hx2 k2 =>
      obtain rfl := h.uniq h2
      rw [ihx hx2, ih k2]
theorem Ex.append {m : Hp} {a b o p : List C} (h : Ex m a o) (k : Ex m b p) : Ex m (a ++ b) (o ++ p) := by
  induction h with
  | nil => exact k
  | one h _ ih => exact .one h ih
  | more h hl hx _ _ ih =>
    rw [List.append_assoc]
    exact .more h hl hx ih
theorem Ex.split {m : Hp} : ∀ {a b o : List C}, Ex m (a ++ b) o → ∃ p q, o = p ++ q ∧ Ex m a p ∧ Ex m b q
  | [], b, o, h => ⟨[], o, rfl, .nil, h⟩
  | c :: a, b, o, h => by
    cases h with
    | one h k =>
      obtain ⟨p, q, rfl, h1, h2⟩ := Ex.split k
      exact ⟨_ :: p, q, rfl, .one h h1, h2⟩
    | more h hl hx k =>
      obtain ⟨p, q, rfl, h1, h2⟩ := Ex.split k
      exact ⟨_ ++ p, q, by simp, .more h hl hx h1, h2⟩
/-- All values are right. -/
def RgH (m : Hp) : Prop := ∀ x l, lookH m x = some l → l ≠ [] ∧ rightB l = true
theorem fol_right {m : Hp} (hR : RgH m) {l l' : List C} (h : Fol m l l') : l' = l ∨ (isVarL l = true ∧ rightB l' = true) := by
  induction h with
  | here => exact .inl rfl
  | @step l l1 l2 h _ ih =>
    unfold nextH at h
    split at h
    · next hv =>
      have h2 := (hR _ _ h).2
      rcases ih with rfl | ⟨_, h3⟩
      · exact .inr ⟨hv, h2⟩
      · exact .inr ⟨hv, h3⟩
    · cases h
theorem var_arg {c : C} (h : isVarL [c] = true) : argN c = 0 := by
  have : c.k = 4 := by simpa [isVarL] using h
  simp [argN, argsOf, this]
theorem Ex.comp {m : Hp} (hR : RgH m) {l o : List C} (h : Ex m l o) : ∀ q, compQ l q = true → compQ o q = true := by
  induction h with
  | nil => exact fun q h => h
  | @one c v r o h k ih =>
    intro q hq
    cases q with
    | zero => cases hq
    | succ q =>
      have h1 : compQ r (q + argN c) = true := hq
      show compQ o (q + argN v) = true
      rcases fol_right hR h.1 with e | ⟨hv, hr⟩
      · simp only [List.cons.injEq, and_true] at e
        subst e
        exact ih _ h1
      · have e1 := var_arg hv
        have e2 : argN v = 0 := by
          have h3 := ((right_iff _).1 hr).2.2.2
          have h4 : compQ [] (0 + argN v) = true := h3
          simpa [compQ] using h4
        rw [e2]
        rw [e1] at h1
        exact ih _ h1
  | @more c l' x r o h hl hx k ihx ih =>
    intro q hq
    cases q with
    | zero => cases hq
    | succ q =>
      have h1 : compQ r (q + argN c) = true := hq
      rcases fol_right hR h.1 with e | ⟨hv, hr⟩
      · subst e
        exact absurd rfl hl
      · rw [var_arg hv] at h1
        have h3 := ihx 1 ((right_iff _).1 hr).2.2.2
        rw [show q + 1 = 1 + q by omega]
        exact compQ_append h3 (ih _ h1)
theorem Ex.ok {m : Hp} (hR : RgH m) {l o : List C} (h : Ex m l o) : l.all C.ok = true → o.all C.ok = true := by
  induction h with
  | nil => exact fun h => h
  | @one c v r o h k ih =>
    intro hq
    simp only [List.all_cons, Bool.and_eq_true] at hq ⊢
    refine ⟨?_, ih hq.2⟩
    rcases fol_right hR h.1 with e | ⟨_, hr⟩
    · simp only [List.cons.injEq, and_true] at e
      rw [e]
      exact hq.1
    · have := ((right_iff _).1 hr).2.2.1
      simpa using this
  | @more c l' x r o h hl hx k ihx ih =>
    intro hq
    simp only [List.all_cons, Bool.and_eq_true] at hq
    rw [List.all_append, Bool.and_eq_true]
    refine ⟨?_, ih hq.2⟩
    rcases fol_right hR h.1 with e | ⟨_, hr⟩
    · subst e
      exact absurd rfl hl
    · exact ihx ((right_iff _).1 hr).2.2.1
theorem Ex.len {m : Hp} (hR : RgH m) {l o : List C} (h : Ex m l o) : l.length ≤ o.length := by
  induction h with
  | nil => simp
  | one h k ih => simpa using ih
  | @more c l' x r o h hl hx k ihx ih =>
    have : 1 ≤ l'.length := by
      rcases fol_right hR h.1 with e | ⟨_, hr⟩
      · subst e
        simp
      · exact ((right_iff _).1 hr).1
    simp only [List.length_cons, List.length_append]
    omega
theorem Ex.done {m : Hp} {l o : List C} (h : Ex m l o) : ∀ c ∈ o, nextH m [c] = none := by
  induction h with
  | nil => intro c h; cases h
  | one h k ih =>
    intro c hc
    rcases List.mem_cons.1 hc with rfl | hc
    · exact h.2
    · exact ih c hc
  | more h hl hx k ihx ih =>
    intro c hc
    rcases List.mem_append.1 hc with hc | hc
    · exact ihx c hc
    · exact ih c hc
theorem ex_done {m : Hp} : ∀ {l : List C}, (∀ c ∈ l, nextH m [c] = none) → Ex m l l
  | [], _ => .nil
  | c :: r, h => .one ⟨.here _, h c (by simp)⟩ (ex_done fun d hd => h d (by simp [hd]))
theorem ex_right {m : Hp} (hR : RgH m) {l o : List C} (h : Ex m l o) (hl : rightB l = true) (ho : o.length ≤ 256) : rightB o = true := by
  obtain ⟨h1, h2, h3, h4⟩ := (right_iff l).1 hl
  exact (right_iff o).2 ⟨Nat.le_trans h1 (h.len hR), ho, h.ok hR h3, h.comp hR 1 h4⟩
theorem resR_ok {i : Nat} {ns : List Int} (h : (resR i ns).2 = true) : okI (resR i ns).1 := by
  have h1 : ((rawR i ns).2 && !greatB (rawR i ns).1) = true := h
  have h2 : (resR i ns).1 = (rawR i ns).1 := by
    show finN (rawR i ns).1 (rawR i ns).2 = _
    unfold finN
    rw [if_pos h1]
  rw [h2]
  simp only [Bool.and_eq_true, Bool.not_eq_true'] at h1
  have h3 := h1.2
  unfold greatB at h3
  simp only [Bool.or_eq_false_iff, decide_eq_false_iff_not] at h3
  exact ⟨by omega, by omega⟩
theorem okI_wf {n : Int} (h : okI n) : (Lit.int .i64 n).wf = true := by
  unfold okI at h
  have h1 : IntKind.i64.min = -9223372036854775808 := by decide
  have h2 : IntKind.i64.max = 9223372036854775807 := by decide
  simp only [Lit.wf, h1, h2, Bool.and_eq_true, decide_eq_true_eq]
  omega
theorem least_of {P : Nat → Bool} : ∀ n, (∃ i, i < n ∧ P i = true) → ∃ i, i < n ∧ P i = true ∧ ∀ j, j < i → P j = false
  | 0, h => by obtain ⟨i, h, _⟩ := h; omega
  | n + 1, h => by
    by_cases hq : ∃ i, i < n ∧ P i = true
    · obtain ⟨i, h1, h2, h3⟩ := least_of n hq
      exact ⟨i, by omega, h2, h3⟩
    · obtain ⟨i, h1, h2⟩ := h
      have hi : i = n := by
        by_cases e : i < n
        · exact absurd ⟨i, e, h2⟩ hq
        · omega
      refine ⟨i, h1, h2, fun j hj => ?_⟩
      cases hp : P j
      · rfl
      · exact absurd ⟨j, by omega, hp⟩ hq
theorem isB_args {c : C} {r : List C} {i : Nat} (hi : i < 8) (hk : c.k = 3) (h : isB (c :: r) (opT i) (opA i) = true) : argN c = (opA i).toNat := by
  have hn : c.n = opA i := by
    simp only [isB, hk, Bool.and_eq_true, Bool.or_eq_true, beq_iff_eq] at h
    rcases h.2 with h | h
    · exact h.2
    · exact absurd h.2 (by decide)
  have hp : 0 ≤ opA i := by
    unfold opA
    split <;> decide
  unfold argN argsOf
  rw [if_pos hk, hn]
  omega
theorem ok_int {c : C} (h : c.ok = true) (hk : c.k = 1) : okI c.n := by
  unfold C.ok cellB at h
  rw [if_pos hk] at h
  simp only [Bool.and_eq_true] at h
  have h2 := h.2
  simp only [between, Bool.and_eq_true, decide_eq_true_eq] at h2
  exact ⟨by omega, by omega⟩
theorem sms_tot {m : Hp} {d : Nat} (ih : ∀ (l : List C) (q : Nat) (names : List Nm), l.length ≤ d → compQ l (q + 1) = true → l.all C.ok = true → ∃ n o rest names', Sm m d l names n o rest names' ∧ (o = 1 ∨ o = 2 ∨ o = 3) ∧ (o = 1 → okI n) ∧ (Lit.int .i64 n).wf = true ∧ (o ≠ 2 → compQ rest q = true ∧ rest.all C.ok = true ∧ rest.length < l.length)) :
    ∀ (k : Nat) (cells : List C) (q : Nat) (names : List Nm) (nums : List Int) (o0 : Int), cells.length ≤ d → compQ cells (q + k) = true → cells.all C.ok = true → (o0 = 1 ∨ o0 = 3) → (o0 = 1 → ∀ x ∈ nums, okI x) →
      ∃ R1 R2 R3 R4, Sms m d k cells names nums o0 R1 R2 R3 R4 ∧ (R2 = 1 ∨ R2 = 2 ∨ R2 = 3) ∧ (R2 ≠ 2 → compQ R3 q = true ∧ R3.all C.ok = true ∧ R3.length ≤ cells.length) ∧ (R2 = 1 → R1.length = nums.length + k ∧ ∀ x ∈ R1, okI x)
  | 0, cells, q, names, nums, o0, _, hc, ha, ho, hn => ⟨nums, o0, cells, names, .done, by omega, fun _ => ⟨hc, ha, Nat.le_refl _⟩, fun h => ⟨rfl, hn h⟩⟩
  | k + 1, cells, q, names, nums, o0, hl, hc, ha, ho, hn => by
    obtain ⟨n, o, rest, names', h1, h2, h3, h4, h5⟩ := ih cells (q + k) names hl hc ha
    by_cases e2 : o = 2
    · subst e2
      exact ⟨[], 2, [], names', .fail h1, by omega, fun h => absurd rfl h, fun h => by omega⟩
    · obtain ⟨g1, g2, g3⟩ := h5 e2
      obtain ⟨R1, R2, R3, R4, k1, k2, k3, k4⟩ := sms_tot ih k rest q names' (nums ++ [n]) (if o = 3 then 3 else o0) (by omega) g1 g2 (by split <;> omega) (fun e x hx => by
        have e3 : o ≠ 3 := fun e3 => by rw [if_pos e3] at e; omega
        rw [if_neg e3] at e
        rcases List.mem_append.1 hx with hx | hx
        · exact hn e x hx
        · simp at hx
          subst hx
          exact h3 (by omega))
      refine ⟨R1, R2, R3, R4, .next h1 e2 h4 k1, k2, fun h => ⟨(k3 h).1, (k3 h).2.1, by have := (k3 h).2.2; omega⟩, fun h => ⟨by have := (k4 h).1; simp at this; omega, (k4 h).2⟩⟩
/-- Each whole term of right cells is a sum, or none, or waits. -/
theorem sm_tot {m : Hp} (hR : RgH m) (hD : DescH m) : ∀ (d : Nat) (l : List C) (q : Nat) (names : List Nm), l.length ≤ d → compQ l (q + 1) = true → l.all C.ok = true → ∃ n o rest names', Sm m d l names n o rest names' ∧ (o = 1 ∨ o = 2 ∨ o = 3) ∧ (o = 1 → okI n) ∧ (Lit.int .i64 n).wf = true ∧ (o ≠ 2 → compQ rest q = true ∧ rest.all C.ok = true ∧ rest.length < l.length)
  | 0, l, q, names, hl, hc, _ => by
    have : l = [] := List.eq_nil_of_length_eq_zero (by omega)
    rw [this] at hc
    simp [compQ] at hc
  | d + 1, [], q, names, _, hc, _ => by simp [compQ] at hc
  | d + 1, c :: r, q, names, hl, hc, ha => by
    have hc' : compQ r (q + argN c) = true := hc
    simp only [List.all_cons, Bool.and_eq_true] at ha
    simp only [List.length_cons] at hl
    by_cases hk : c.k = 3
    · by_cases hq : ∃ i, i < 8 ∧ isB (c :: r) (opT i) (opA i) = true
      · obtain ⟨i, hi, hb, hj⟩ := least_of (P := fun i => isB (c :: r) (opT i) (opA i)) 8 hq
        rw [isB_args hi hk hb] at hc'
        obtain ⟨R1, R2, R3, R4, k1, k2, k3, k4⟩ := sms_tot (sm_tot hR hD d) (opA i).toNat r q names [] 1 (by omega) hc' ha.2 (.inl rfl) (fun _ x hx => by cases hx)
        have hp : 0 ≤ opA i := by
          unfold opA
          split <;> decide
        refine ⟨_, _, _, _, .op hk hi hb hj k1 (fun h => ⟨by have := (k4 h).1; simp at this; omega, (k4 h).2⟩), ?_, ?_, ?_, ?_⟩
        · unfold opO
          split
          · split <;> omega
          · exact k2
        · intro h
          unfold opO at h
          unfold opN
          split at h
          · next e =>
            rw [if_pos e]
            split at h
            · next e2 => exact resR_ok e2
            · omega
          · next e => exact absurd h e
        · unfold opN
          split
          · cases e2 : (resR i R1).2
            · have : (resR i R1).1 = 0 := by
                show finN (rawR i R1).1 (rawR i R1).2 = 0
                unfold finN
                have e3 : ((rawR i R1).2 && !greatB (rawR i R1).1) = false := e2
                rw [e3]
                rfl
              rw [this]
              exact okI_wf ⟨by omega, by omega⟩
            · exact okI_wf (resR_ok e2)
          · exact okI_wf ⟨by omega, by omega⟩
        · intro h
          have h2 : R2 ≠ 2 := fun e => by
            subst e
            exact h rfl
          have h3 : ¬ (R2 = 1 ∧ (resR i R1).2 = false) := fun e => by
            apply h
            unfold opO
            rw [if_pos e.1, if_neg (by rw [e.2]; decide)]
          unfold opR
          rw [if_neg h3]
          obtain ⟨g1, g2, g3⟩ := k3 h2
          exact ⟨g1, g2, by simp only [List.length_cons]; omega⟩
      · exact ⟨0, 2, [], names, .none hk (fun i hi => by
          cases e : isB (c :: r) (opT i) (opA i)
          · rfl
          · exact absurd ⟨i, hi, e⟩ hq), by omega, fun h => by omega, okI_wf ⟨by omega, by omega⟩, fun h => absurd rfl h⟩
    · have h0 : argN c = 0 := by simp [argN, argsOf, hk]
      rw [h0] at hc'
      obtain ⟨l', hf⟩ := fol_end hD _ [c] (Nat.le_refl _)
      obtain ⟨e, r', rfl, hok⟩ : ∃ e r', l' = e :: r' ∧ e.ok = true := by
        rcases fol_right hR hf.1 with rfl | ⟨_, hr⟩
        · exact ⟨c, [], rfl, ha.1⟩
        · obtain ⟨h1, _, h3, _⟩ := (right_iff l').1 hr
          cases l' with
          | nil => simp at h1
          | cons e r' =>
            simp only [List.all_cons, Bool.and_eq_true] at h3
            exact ⟨e, r', rfl, h3.1⟩
      refine ⟨_, _, _, _, .leaf hk hf, ?_, ?_, ?_, fun _ => ⟨hc', ha.2, by simp⟩⟩
      · unfold numS
        split
        · exact .inl rfl
        · split
          · exact .inr (.inr rfl)
          · exact .inr (.inl rfl)
      · unfold numS
        split
        · next e1 => exact fun _ => ok_int hok e1
        · split
          · exact fun h => by cases h
          · exact fun h => by cases h
      · unfold numS
        split
        · next e1 => exact okI_wf (ok_int hok e1)
        · split
          · exact okI_wf (show okI 0 from ⟨by decide, by decide⟩)
          · exact okI_wf (show okI 0 from ⟨by decide, by decide⟩)
theorem pre_uniq : ∀ {p p' r r' : List C} {q : Nat}, compQ p q = true → compQ p' q = true → p ++ r = p' ++ r' → p = p' ∧ r = r'
  | [], p', r, r', q, h, h', e => by
    have hq : q = 0 := by simpa [compQ] using h
    subst hq
    have := compQ_zero h'
    subst this
    exact ⟨rfl, e⟩
  | c :: p, [], r, r', 0, h, _, _ => by cases h
  | c :: p, [], r, r', q + 1, _, h', _ => by simp [compQ] at h'
  | c :: p, c' :: p', r, r', 0, h, _, _ => by cases h
  | c :: p, c' :: p', r, r', q + 1, h, h', e => by
    simp only [List.cons_append, List.cons.injEq] at e
    obtain ⟨rfl, e⟩ := e
    have h1 : compQ p (q + argN c) = true := h
    have h2 : compQ p' (q + argN c) = true := h'
    obtain ⟨rfl, rfl⟩ := pre_uniq h1 h2 e
    exact ⟨rfl, rfl⟩
theorem sms_pre {m : Hp} {d : Nat} (ih : ∀ {l : List C} {names : List Nm} {n o : Int} {rest : List C} {names' : List Nm}, Sm m d l names n o rest names' → o ≠ 2 → ∃ p, l = p ++ rest ∧ compQ p 1 = true) :
    ∀ (k : Nat) {cells : List C} {names : List Nm} {nums : List Int} {o : Int} {R1 : List Int} {R2 : Int} {R3 : List C} {R4 : List Nm}, Sms m d k cells names nums o R1 R2 R3 R4 → R2 ≠ 2 → ∃ p, cells = p ++ R3 ∧ compQ p k = true
  | 0, _, _, _, _, _, _, _, _, h, _ => by
    cases h with
    | done => exact ⟨[], rfl, rfl⟩
  | k + 1, _, _, _, _, _, _, _, _, h, h2 => by
    cases h with
    | fail h => exact absurd rfl h2
    | next h he hn hs =>
      obtain ⟨p, rfl, hp⟩ := ih h he
      obtain ⟨p2, rfl, hp2⟩ := sms_pre ih k hs h2
      refine ⟨p ++ p2, by simp, ?_⟩
      rw [show k + 1 = 1 + k by omega]
      exact compQ_append hp hp2
/-- What is behind a sum is behind the first whole term. -/
theorem sm_pre {m : Hp} : ∀ (d : Nat) {l : List C} {names : List Nm} {n o : Int} {rest : List C} {names' : List Nm}, Sm m d l names n o rest names' → o ≠ 2 → ∃ p, l = p ++ rest ∧ compQ p 1 = true
  | 0, _, _, _, _, _, _, h, _ => by cases h
  | d + 1, _, _, _, _, _, _, h, h2 => by
    cases h with
    | @leaf _ c r _ e r' hk hf =>
      refine ⟨[c], rfl, ?_⟩
      show compQ [] (0 + argN c) = true
      have h0 : argN c = 0 := by simp [argN, argsOf, hk]
      rw [h0]
      rfl
    | none hk hn => exact absurd rfl h2
    | @op _ c r _ i nums o rest _ hk hi hm hb hs hok =>
      have h3 : o ≠ 2 := fun e => by
        subst e
        exact h2 rfl
      have h4 : ¬ (o = 1 ∧ (resR i nums).2 = false) := fun e => by
        apply h2
        unfold opO
        rw [if_pos e.1, if_neg (by rw [e.2]; decide)]
      obtain ⟨p, hp, hq⟩ := sms_pre (sm_pre d) _ hs h3
      refine ⟨c :: p, ?_, ?_⟩
      · unfold opR
        rw [if_neg h4, hp]
        rfl
      · show compQ p (0 + argN c) = true
        rw [isB_args hi hk hm, Nat.zero_add]
        exact hq
theorem sms_three {m : Hp} {d : Nat} : ∀ (k : Nat) {cells : List C} {names : List Nm} {nums : List Int} {R1 : List Int} {R2 : Int} {R3 : List C} {R4 : List Nm}, Sms m d k cells names nums 3 R1 R2 R3 R4 → R2 ≠ 1
  | 0, _, _, _, _, _, _, _, h => by
    cases h with
    | done => decide
  | k + 1, _, _, _, _, _, _, _, h => by
    cases h with
    | fail h => decide
    | @next _ _ _ _ _ _ n e _ _ _ _ _ _ h he hn hs =>
      have e3 : (if e = 3 then (3 : Int) else 3) = 3 := by split <;> rfl
      rw [e3] at hs
      exact sms_three k hs
theorem sms_range {m : Hp} {d : Nat} : ∀ (k : Nat) {cells : List C} {names : List Nm} {nums : List Int} {o : Int} {R1 : List Int} {R2 : Int} {R3 : List C} {R4 : List Nm}, Sms m d k cells names nums o R1 R2 R3 R4 → (o = 1 ∨ o = 3) → R2 = 1 ∨ R2 = 2 ∨ R2 = 3
  | 0, _, _, _, _, _, _, _, _, h, ho => by
    cases h with
    | done => omega
  | k + 1, _, _, _, _, _, _, _, _, h, ho => by
    cases h with
    | fail h => omega
    | next h he hn hs => exact sms_range k hs (by split <;> omega)
theorem sm_range {m : Hp} {d : Nat} {l : List C} {names : List Nm} {n o : Int} {rest : List C} {names' : List Nm} (h : Sm m d l names n o rest names') : o = 1 ∨ o = 2 ∨ o = 3 := by
  cases h with
  | leaf hk hf =>
    unfold numS
    split
    · exact .inl rfl
    · split
      · exact .inr (.inr rfl)
      · exact .inr (.inl rfl)
  | none hk hn => omega
  | op hk hi hm hb hs hok =>
    unfold opO
    split
    · split <;> omega
    · exact sms_range _ hs (.inl rfl)
/-- A map that says more. -/
def SubH (m m' : Hp) : Prop := ∀ x l, lookH m x = some l → lookH m' x = some l
theorem fol_sub {m m' : Hp} (hs : SubH m m') {l l' : List C} (h : Fol m l l') : Fol m' l l' := by
  induction h with
  | here => exact .here _
  | step h _ ih =>
    refine .step ?_ ih
    unfold nextH at h ⊢
    split at h
    · next hv => rw [if_pos hv]; exact hs _ _ h
    · cases h
theorem leaf_more {m m' : Hp} (hs : SubH m m') {c e e2 : C} {r r2 : List C} (h : IsFol m [c] (e :: r)) (h' : IsFol m' [c] (e2 :: r2)) (he : e.k ≠ 4) : e = e2 := by
  have hn : nextH m' (e :: r) = none := by
    unfold nextH
    rw [if_neg]
    cases r with
    | nil => simp [isVarL, he]
    | cons x y => simp [isVarL]
  have := IsFol.uniq ⟨fol_sub hs h.1, hn⟩ h'
  simp only [List.cons.injEq] at this
  exact this.1
theorem sms_more {m m' : Hp} {d d2 : Nat} (ih : ∀ {l : List C} {names names2 : List Nm} {n o n2 o2 : Int} {rest rest2 : List C} {names' names2' : List Nm}, Sm m d l names n o rest names' → Sm m' d2 l names2 n2 o2 rest2 names2' → (o = 1 → o2 = 1 ∧ n2 = n) ∧ (o = 2 → o2 = 2)) :
    ∀ (k : Nat) {cells : List C} {names names2 : List Nm} {nums nums2 : List Int} {o o2 : Int} {R1 S1 : List Int} {R2 S2 : Int} {R3 S3 : List C} {R4 S4 : List Nm}, Sms m d k cells names nums o R1 R2 R3 R4 → Sms m' d2 k cells names2 nums2 o2 S1 S2 S3 S4 → (o = 1 ∨ o = 3) → (o = 1 → o2 = 1 ∧ nums2 = nums) → (R2 = 1 → S2 = 1 ∧ S1 = R1) ∧ (R2 = 2 → S2 = 2)
  | 0, _, _, _, _, _, _, _, _, _, _, _, _, _, _, _, h, h', ho, hn => by
    cases h with
    | done =>
      cases h' with
      | done => exact ⟨hn, fun e => by omega⟩
  | k + 1, _, _, _, _, _, _, _, _, _, _, _, _, _, _, _, h, h', ho, hn => by
    cases h with
    | fail h =>
      refine ⟨fun e => by omega, fun _ => ?_⟩
      cases h' with
      | fail h' => rfl
      | next h' he' hn' hs' => exact absurd ((ih h h').2 rfl) he'
    | @next _ _ _ _ _ o n e rest _ _ _ _ _ h he hw hs =>
      cases h' with
      | fail h' =>
        refine ⟨fun e1 => ?_, fun _ => rfl⟩
        have h3 : e ≠ 3 := fun e3 => by
          rw [if_pos e3] at hs
          exact sms_three k hs e1
        have h1 : e = 1 := by
          rcases sm_range h with h | h | h
          · exact h
          · exact absurd h he
          · exact absurd h h3
        have := ((ih h h').1 h1).1
        omega
      | @next _ _ _ _ _ o2 n2 e2 rest2 _ _ _ _ _ h' he' hw' hs' =>
        obtain ⟨p, hp, hq⟩ := sm_pre d h he
        obtain ⟨p2, hp2, hq2⟩ := sm_pre d2 h' he'
        obtain ⟨_, rfl⟩ := pre_uniq hq hq2 (hp.symm.trans hp2)
        refine sms_more ih k hs hs' (by split <;> omega) (fun e1 => ?_)
        have h3 : e ≠ 3 := fun e3 => by rw [if_pos e3] at e1; omega
        rw [if_neg h3] at e1
        have h1 : e = 1 := by
          rcases sm_range h with h | h | h
          · exact h
          · exact absurd h he
          · exact absurd h h3
        obtain ⟨k1, k2⟩ := (ih h h').1 h1
        obtain ⟨k3, k4⟩ := hn e1
        rw [k1, k2, k3, k4]
        exact ⟨by decide, rfl⟩
/-- What is a sum, or none, is so by a map that says more. -/
theorem sm_more {m m' : Hp} (hsub : SubH m m') : ∀ (d d2 : Nat) {l : List C} {names names2 : List Nm} {n o n2 o2 : Int} {rest rest2 : List C} {names' names2' : List Nm}, Sm m d l names n o rest names' → Sm m' d2 l names2 n2 o2 rest2 names2' → (o = 1 → o2 = 1 ∧ n2 = n) ∧ (o = 2 → o2 = 2)
  | 0, _, _, _, _, _, _, _, _, _, _, _, _, h, _ => by cases h
  | _ + 1, 0, _, _, _, _, _, _, _, _, _, _, _, _, h' => by cases h'
  | d + 1, d2 + 1, _, _, _, _, _, _, _, _, _, _, _, h, h' => by
    cases h with
    | @leaf _ c r names e r' hk hf =>
      cases h' with
      | @leaf _ _ _ names2 e2 r2' hk2 hf2 =>
        by_cases he : e.k = 4
        · have e1 : ∀ ns : List Nm, (numS e ns).2.1 = 3 := fun ns => by
            unfold numS
            rw [if_neg (by omega), if_pos he]
          rw [e1]
          exact ⟨fun h => by omega, fun h => by omega⟩
        · obtain rfl := leaf_more hsub hf hf2 he
          unfold numS
          rw [if_neg he, if_neg he]
          split
          · exact ⟨fun _ => ⟨rfl, rfl⟩, fun h => h⟩
          · exact ⟨fun h => absurd (show (2 : Int) = 1 from h) (by decide), fun h => h⟩
      | none hk2 hn2 => exact absurd hk2 hk
      | op hk2 hi2 hm2 hb2 hs2 hok2 => exact absurd hk2 hk
    | none hk hn =>
      cases h' with
      | leaf hk2 hf2 => exact absurd hk hk2
      | none hk2 hn2 => exact ⟨fun h => absurd h (by decide), fun _ => rfl⟩
      | op hk2 hi2 hm2 hb2 hs2 hok2 =>
        rw [hn _ hi2] at hm2
        cases hm2
    | @op _ c r _ i nums o rest _ hk hi hm hb hs hok =>
      cases h' with
      | leaf hk2 hf2 => exact absurd hk hk2
      | none hk2 hn2 =>
        rw [hn2 _ hi] at hm
        cases hm
      | @op _ _ _ _ i2 nums2 o2 rest2 _ hk2 hi2 hm2 hb2 hs2 hok2 =>
        have hii : i = i2 := by
          rcases Nat.lt_trichotomy i i2 with h | h | h
          · rw [hb2 i h] at hm; cases hm
          · exact h
          · rw [hb i2 h] at hm2; cases hm2
        subst hii
        obtain ⟨k1, k2⟩ := sms_more (fun h h' => sm_more hsub d d2 h h') _ hs hs2 (.inl rfl) (fun _ => ⟨rfl, rfl⟩)
        rcases sms_range _ hs (.inl rfl) with h1 | h1 | h1
        · obtain ⟨g1, g2⟩ := k1 h1
          subst g2
          unfold opO opN
          rw [if_pos h1, if_pos h1, if_pos g1, if_pos g1]
          exact ⟨fun h => ⟨h, rfl⟩, fun h => h⟩
        · have g1 := k2 h1
          unfold opO
          rw [if_neg (by omega), if_neg (by omega)]
          exact ⟨fun h => by omega, fun _ => g1⟩
        · unfold opO
          rw [if_neg (by omega)]
          exact ⟨fun h => by omega, fun h => by omega⟩
/-- Cells one by one. -/
inductive F2 (R : C → C → Prop) : List C → List C → Prop
  | nil : F2 R [] []
  | cons {c c' : C} {r r' : List C} (h : R c c') (k : F2 R r r') : F2 R (c :: r) (c' :: r')
/-- A cell that leads to the same by values. -/
def Rl (m : Hp) (c c' : C) : Prop := c = c' ∨ (c.k ≠ 3 ∧ c'.k ≠ 3 ∧ ∀ e r, IsFol m [c] (e :: r) → ∃ r', IsFol m [c'] (e :: r'))
theorem sms_sub {m : Hp} {d : Nat} (ih : ∀ {l l2 : List C} {names : List Nm} {n o : Int} {rest : List C} {names' : List Nm}, Sm m d l names n o rest names' → F2 (Rl m) l l2 → ∃ rest2, Sm m d l2 names n o rest2 names' ∧ (o ≠ 2 → F2 (Rl m) rest rest2)) :
    ∀ (k : Nat) {cells cells2 : List C} {names : List Nm} {nums : List Int} {o : Int} {R1 : List Int} {R2 : Int} {R3 : List C} {R4 : List Nm}, Sms m d k cells names nums o R1 R2 R3 R4 → F2 (Rl m) cells cells2 → ∃ S3, Sms m d k cells2 names nums o R1 R2 S3 R4 ∧ (R2 ≠ 2 → F2 (Rl m) R3 S3)
  | 0, _, _, _, _, _, _, _, _, _, h, hf => by
    cases h with
    | done => exact ⟨_, .done, fun _ => hf⟩
  | k + 1, _, _, _, _, _, _, _, _, _, h, hf => by
    cases h with
    | fail h =>
      obtain ⟨rest2, h1, _⟩ := ih h hf
      exact ⟨[], .fail h1, fun e => absurd rfl e⟩
    | next h he hn hs =>
      obtain ⟨rest2, h1, h2⟩ := ih h hf
      obtain ⟨S3, h3, h4⟩ := sms_sub ih k hs (h2 he)
      exact ⟨S3, .next h1 he hn h3, h4⟩
/-- A sum with cells in it that lead to the same is the same. -/
theorem sm_sub {m : Hp} : ∀ (d : Nat) {l l2 : List C} {names : List Nm} {n o : Int} {rest : List C} {names' : List Nm}, Sm m d l names n o rest names' → F2 (Rl m) l l2 → ∃ rest2, Sm m d l2 names n o rest2 names' ∧ (o ≠ 2 → F2 (Rl m) rest rest2)
  | 0, _, _, _, _, _, _, _, h, _ => by cases h
  | d + 1, _, _, _, _, _, _, _, h, hf => by
    cases h with
    | @leaf _ c r _ e r' hk hfo =>
      cases hf with
      | @cons _ c2 _ r2 hc hr =>
        rcases hc with rfl | ⟨_, hk2, hx⟩
        · exact ⟨r2, .leaf hk hfo, fun _ => hr⟩
        · obtain ⟨r3, h3⟩ := hx e r' hfo
          exact ⟨r2, .leaf hk2 h3, fun _ => hr⟩
    | @none _ c r _ hk hn =>
      cases hf with
      | @cons _ c2 _ r2 hc hr =>
        rcases hc with rfl | ⟨hk2, _⟩
        · exact ⟨[], .none hk hn, fun e => absurd rfl e⟩
        · exact absurd hk hk2
    | @op _ c r _ i nums o rest _ hk hi hm hb hs hok =>
      cases hf with
      | @cons _ c2 _ r2 hc hr =>
        rcases hc with rfl | ⟨hk2, _⟩
        · obtain ⟨S3, h3, h4⟩ := sms_sub (sm_sub d) _ hs hr
          refine ⟨opR i nums o S3, .op hk hi hm hb h3 hok, fun h => ?_⟩
          have h5 : o ≠ 2 := fun e => by
            subst e
            exact h rfl
          have h6 : ¬ (o = 1 ∧ (resR i nums).2 = false) := fun e => by
            apply h
            unfold opO
            rw [if_pos e.1, if_neg (by rw [e.2]; decide)]
          unfold opR
          rw [if_neg h6, if_neg h6]
          exact h4 h5
        · exact absurd hk hk2
theorem F2.append {R : C → C → Prop} {a b c d : List C} (h : F2 R a b) (k : F2 R c d) : F2 R (a ++ c) (b ++ d) := by
  induction h with
  | nil => exact k
  | cons h _ ih => exact .cons h ih
theorem F2.refl (m : Hp) : ∀ l : List C, F2 (Rl m) l l
  | [] => .nil
  | _ :: r => .cons (.inl rfl) (F2.refl m r)
/-- With locals that lead to the same. -/
theorem put_f2 {m : Hp} {ls ls' : List (List C)} (hl : ls.length = ls'.length) (h : ∀ (i : Nat) (a b : List C), ls[i]? = some a → ls'[i]? = some b → F2 (Rl m) a b) : ∀ l : List C, F2 (Rl m) (putL ls l) (putL ls' l)
  | [] => .nil
  | c :: r => by
    have e1 : ∀ ls : List (List C), putL ls (c :: r) = putC ls c ++ putL ls r := fun ls => by simp [putL]
    rw [e1, e1]
    refine F2.append ?_ (put_f2 hl h r)
    unfold putC
    split
    · by_cases hi : c.vk.toNat < ls.length
      · have h1 : ls[c.vk.toNat]? = some ls[c.vk.toNat] := List.getElem?_eq_getElem hi
        have h2 : ls'[c.vk.toNat]? = some (ls'[c.vk.toNat]'(by omega)) := List.getElem?_eq_getElem (by omega)
        have := h _ _ _ h1 h2
        rw [h1, h2]
        exact this
      · have h1 : ls[c.vk.toNat]? = none := by rw [List.getElem?_eq_none_iff]; omega
        have h2 : ls'[c.vk.toNat]? = none := by rw [List.getElem?_eq_none_iff]; omega
        rw [h1, h2]
        exact .nil
    · exact F2.refl m _
/-- A variable and the number that is its value. -/
theorem rl_var {m : Hp} {c e : C} (hc : c.k = 4) (he : e.k = 1) (h : lookH m (c.vn, c.vk) = some [e]) : Rl m c e := by
  refine .inr ⟨by omega, by omega, fun x r hx => ?_⟩
  have hn : nextH m [e] = none := by
    unfold nextH
    rw [if_neg (by simp [isVarL, he])]
  have h1 : IsFol m [c] [e] := ⟨.step (by unfold nextH; rw [if_pos (by simp [isVarL, hc])]; exact h) (.here _), hn⟩
  have := hx.uniq h1
  cases this
  exact ⟨[], .here _, hn⟩
end Go.Proofs.YtaehhophaaipdabDoor

namespace Go.Proofs.YtaehhophaaipdabDoor
open Go.RowKit
attribute [local go_sem ↓] Go.wp_at_zero Go.wp_at_succ
/-- A term of one cell in a block of its own. -/
def One1 (B : Nat) (w : World) (v : Value) (c : C) : Prop := ∃ g, v = .slice (some ⟨g, 0, none⟩) 1 1 ∧ B ≤ g ∧ w.heap[g]? = some (.cells #[.int .u8 c.k, .string c.t, .int .i64 c.n, .int .i64 c.vn, .int .i64 c.vk] 52 (0, 0))
theorem One1.below {B : Nat} {w w' : World} {v : Value} {c : C} (h : One1 B w v c) (hb : Below w.heap.size w w') : One1 B w' v c := by
  obtain ⟨g, h1, h2, h3⟩ := h
  exact ⟨g, h1, h2, (hb.block g (Array.getElem?_eq_some_iff.1 h3).1).trans h3⟩
theorem One1.low {B B' : Nat} {w : World} {v : Value} {c : C} (h : One1 B w v c) (hb : B' ≤ B) : One1 B' w v c := by
  obtain ⟨g, h1, h2, h3⟩ := h
  exact ⟨g, h1, by omega, h3⟩
theorem One1.term {B : Nat} {w : World} {v : Value} {c : C} (h : One1 B w v c) (ht : c.t.size ≤ maxLen) : TermAt w v [c] := by
  obtain ⟨g, rfl, h2, h3⟩ := h
  refine ⟨⟨by simp [maxLen], by simpa using ht⟩, .inr ⟨g, 0, 1, rfl, Nat.le_refl _, by simp [maxLen], ?_, (Array.getElem?_eq_some_iff.1 h3).1⟩⟩
  intro j u hu
  rw [Nat.zero_add, cell_of_row w g j _ 52 (0, 0) h3]
  simpa [flat, C.vals] using hu
set_option maxHeartbeats 1000000 in
theorem z16 (k : Int) (t : ByteArray) (n vn vk : Int) (w : World) (hS : Signs w) (ht : t.size ≤ maxLen) (hR : rightB [⟨k, t, n, vn, vk⟩] = true) :
    Calls Tryd.prog 16 #[.agg #[.int .u8 k, .string t, .int .i64 n, .int .i64 vn, .int .i64 vk]] w fun e w' => ∃ g, e = .returned (.slice (some ⟨g, 0, none⟩) 1 1) ∧ Hid (One1 w.heap.size w' (.slice (some ⟨g, 0, none⟩) 1 1) ⟨k, t, n, vn, vk⟩ ∧ Below w.heap.size w w') := by
  have hT : ∀ o : Obj, Hid (One1 w.heap.size ((w.alloc o).alloc (.cells #[.int .u8 k, .string t, .int .i64 n, .int .i64 vn, .int .i64 vk] 52)) (.slice (some ⟨w.heap.size + 1, 0, none⟩) 1 1) ⟨k, t, n, vn, vk⟩) := fun o => by
    refine ⟨w.heap.size + 1, rfl, by omega, ?_⟩
    have h := heap_alloc_new (w.alloc o) (.cells #[.int .u8 k, .string t, .int .i64 n, .int .i64 vn, .int .i64 vk] 52)
    rw [World.size_alloc] at h
    exact h
  have hB : ∀ o1 o2 : Obj, Hid (Below w.heap.size w ((w.alloc o1).alloc o2)) := fun o1 o2 => ((Below.refl _ _).alloc (Nat.le_refl _) _).alloc (by simp) _
  have HS : Hid (Signs w) := hS
  have HRt : Hid (rightB [⟨k, t, n, vn, vk⟩] = true ∧ t.size ≤ maxLen) := ⟨hR, ht⟩
  clear hS hR ht
  go_enter Tryd.func16, Tryd.ntmps16
  go_wp2_with fail
  refine (c22 [⟨k, t, n, vn, vk⟩] _ _ ((hT _).out.term HRt.out.2) (HS.out.below (hB _ _).out)).mono ?_
  rw [HRt.out.1]
  rintro e w' ⟨rfl, hb2⟩
  have HE : Hid (One1 w.heap.size w' (.slice (some ⟨w.heap.size + 1, 0, none⟩) 1 1) ⟨k, t, n, vn, vk⟩ ∧ Below w.heap.size w w') := ⟨(hT _).out.below hb2, (hB _ _).out.trans (hb2.mono (by simp; omega))⟩
  go_wp2_with fail
  go_ret
  exact ⟨_, rfl, HE⟩
set_option maxHeartbeats 1000000 in
theorem z7 (n : Int) (w : World) (hS : Signs w) (hn : okI n) :
    Calls Tryd.prog 7 #[.int .i64 n] w fun e w' => ∃ g, e = .returned (.slice (some ⟨g, 0, none⟩) 1 1) ∧ Hid (One1 w.heap.size w' (.slice (some ⟨g, 0, none⟩) 1 1) ⟨1, ⟨#[]⟩, n, 0, 0⟩ ∧ Below w.heap.size w w') := by
  have hR : rightB [⟨1, ⟨#[]⟩, n, 0, 0⟩] = true := by
    refine (right_iff _).2 ⟨by simp, by simp, ?_, ?_⟩
    · have h := hn
      unfold okI at h
      have e : C.ok ⟨1, ⟨#[]⟩, n, 0, 0⟩ = true := by
        show cellB 1 ⟨#[]⟩ n 0 0 = true
        unfold cellB
        rw [if_pos rfl]
        simp only [eqCells, between, beq_self_eq_true, Bool.and_self, Bool.true_and, Bool.and_eq_true, decide_eq_true_eq]
        omega
      simpa using e
    · rfl
  have H16 := z16 1 ⟨#[]⟩ n 0 0 w hS (Nat.zero_le _) hR
  clear hS hR
  go_enter Tryd.func7, Tryd.ntmps7
  go_wp2_with fail
  refine H16.mono ?_
  rintro e w' ⟨g, rfl, H⟩
  go_wp2_with fail
  go_ret
  exact ⟨g, rfl, H⟩
def whF (x n : Int) : Int := if Int.tmod x n < 0 then Int.tmod x n + n else Int.tmod x n
theorem whF_in (x : Int) : 0 ≤ whF x 1000 ∧ whF x 1000 < 1000 := by
  have a1 := Int.tmod_lt_of_pos x (show (0 : Int) < 1000 by decide)
  have a2 := Int.lt_tmod_of_pos x (show (0 : Int) < 1000 by decide)
  unfold whF
  split <;> omega
theorem z5 (x n : Int) (w : World) (h0 : 0 < n) (h1 : n ≤ 1000) : Calls Tryd.prog 5 #[.int .i64 x, .int .i64 n] w fun e w' => e = .returned (.int .i64 (whF x n)) ∧ w' = w := by
  have a1 := Int.tmod_lt_of_pos x h0
  have a2 := Int.lt_tmod_of_pos x h0
  have hn0 : ¬ n = 0 := by omega
  by_cases hT : Int.tmod x n < 0
  · have HE : Hid (whF x n = Int.tmod x n + n) := by show whF x n = _; unfold whF; rw [if_pos hT]
    generalize whF x n = R at *
    go_enter Tryd.func5, Tryd.ntmps5
    go_wp2_with fail
    go_ret
    exact ⟨by rw [HE.out]; rfl, rfl⟩
  · have HE : Hid (whF x n = Int.tmod x n) := by show whF x n = _; unfold whF; rw [if_neg hT]
    generalize whF x n = R at *
    go_enter Tryd.func5, Tryd.ntmps5
    go_wp2_with fail
    go_ret
    exact ⟨by rw [HE.out]; rfl, rfl⟩
end Go.Proofs.YtaehhophaaipdabDoor

namespace Go.Proofs.YtaehhophaaipdabDoor
open Go.RowKit
attribute [local go_sem ↓] Go.wp_at_zero Go.wp_at_succ
def kI (n : Int) : C := ⟨1, ⟨#[]⟩, n, 0, 0⟩
def kV (k : Nat) : C := ⟨4, ⟨#[]⟩, 0, 0, (k : Int)⟩
theorem right_kI {n : Int} (hn : okI n) : rightB [kI n] = true := by
  refine (right_iff _).2 ⟨by simp, by simp, ?_, ?_⟩
  · have h := hn
    unfold okI at h
    have e : C.ok (kI n) = true := by
      show cellB 1 ⟨#[]⟩ n 0 0 = true
      unfold cellB
      rw [if_pos rfl]
      simp only [eqCells, between, beq_self_eq_true, Bool.and_self, Bool.true_and, Bool.and_eq_true, decide_eq_true_eq]
      omega
    simpa using e
  · rfl
theorem right_kV (k : Nat) : rightB [kV k] = true := by
  refine (right_iff _).2 ⟨by simp, by simp, ?_, ?_⟩
  · have e : C.ok (kV k) = true := by
      show cellB 4 ⟨#[]⟩ 0 0 (k : Int) = true
      unfold cellB
      rw [if_neg (by decide), if_neg (by decide), if_neg (by decide), if_pos rfl]
      simp only [eqCells, between, beq_self_eq_true, Bool.and_self, Bool.true_and, Bool.and_eq_true, decide_eq_true_eq]
      omega
    simpa using e
  · rfl
set_option maxHeartbeats 1000000 in
theorem z8 (k : Nat) (w : World) (hS : Signs w) :
    Calls Tryd.prog 8 #[.agg #[.int .i64 0, .int .i64 (k : Int)]] w fun e w' => ∃ g, e = .returned (.slice (some ⟨g, 0, none⟩) 1 1) ∧ Hid (One1 w.heap.size w' (.slice (some ⟨g, 0, none⟩) 1 1) (kV k) ∧ Below w.heap.size w w') := by
  have H16 : Calls Tryd.prog 16 #[.agg #[.int .u8 4, .string ⟨#[]⟩, .int .i64 0, .int .i64 0, .int .i64 (k : Int)]] (w.alloc (.cells #[.int .i64 0, .int .i64 (k : Int)] 26)) fun e w' => ∃ g, e = .returned (.slice (some ⟨g, 0, none⟩) 1 1) ∧ Hid (One1 w.heap.size w' (.slice (some ⟨g, 0, none⟩) 1 1) (kV k) ∧ Below w.heap.size w w') := by
    refine (z16 4 ⟨#[]⟩ 0 0 k _ (hS.below (below_alloc _ _)) (Nat.zero_le _) (right_kV k)).mono ?_
    rintro e w' ⟨g, rfl, h⟩
    exact ⟨g, rfl, h.out.1.low (by simp), (below_alloc _ _).trans (h.out.2.mono (by simp))⟩
  clear hS
  go_enter Tryd.func8, Tryd.ntmps8
  go_wp2_with fail
  refine H16.mono ?_
  rintro e w' ⟨g, rfl, H⟩
  go_wp2_with fail
  go_ret
  exact ⟨g, rfl, H⟩
theorem glob_kI {n : Int} (hn : okI n) : globalB [kI n] = true := by
  unfold globalB
  simp only [Bool.and_eq_true]
  refine ⟨?_, right_kI hn⟩
  simp [kI, varsOf]
/-- A fresh name of node 0 is bound to a number. -/
theorem bind_kI {m : Hp} {k : Nat} {n : Int} (hn : okI n) (h : lookH m (0, (k : Int)) = none) : bindE m (0, (k : Int)) [kI n] = 0 := by
  unfold bindE
  have h1 : oneT ⟨4, ⟨#[]⟩, 0, 0, (k : Int)⟩ = [kV k] := by
    unfold oneT
    have := right_kV k
    unfold kV at this ⊢
    rw [if_pos this]
  rw [if_neg, if_neg, if_neg]
  · simp [isVarL, kI]
  · rw [h]
    simp
  · rintro (h2 | h2 | h2)
    · simp at h2
    · simp only at h2
      rw [h1] at h2
      cases h2
    · rw [glob_kI hn] at h2
      cases h2
end Go.Proofs.YtaehhophaaipdabDoor

namespace Go.Proofs.YtaehhophaaipdabDoor
open Go.RowKit
/-- What is bound: the names 0 to k - 1 of node 0, and nothing else. -/
structure Bd0 (m : Hp) (ns : List Int) : Prop where
  look : ∀ x : Nm, lookH m x = if x.1 = 0 ∧ 0 ≤ x.2 then (ns[x.2.toNat]?).map (fun n => [kI n]) else none
  ok : ∀ n ∈ ns, okI n
theorem Bd0.nil : Bd0 [] [] := ⟨fun x => by unfold lookH; split <;> simp, fun n h => by cases h⟩
theorem Bd0.more {m : Hp} {ns : List Int} {n : Int} (h : Bd0 m ns) (hn : okI n) : bindE m (0, (ns.length : Int)) [kI n] = 0 ∧ Bd0 (bindH m (0, (ns.length : Int)) [kI n]) (ns ++ [n]) := by
  have h0 : lookH m (0, (ns.length : Int)) = none := by
    rw [h.look, if_pos ⟨rfl, by simp⟩]
    simp
  have hb := bind_kI hn h0
  refine ⟨hb, fun x => ?_, fun y hy => ?_⟩
  · unfold bindH
    rw [if_pos hb, look_ins m _ x _ h0]
    split
    · next e =>
      subst e
      simp
    · next e =>
      rw [h.look]
      split
      · next hx =>
        obtain ⟨x1, x2⟩ := x
        simp only at hx e ⊢
        obtain ⟨rfl, h2⟩ := hx
        have hne : x2.toNat ≠ ns.length := fun e2 => e (by rw [← e2]; simp; omega)
        by_cases hl : x2.toNat < ns.length
        · rw [List.getElem?_append_left hl]
        · rw [List.getElem?_eq_none_iff.2 (by omega), List.getElem?_eq_none_iff.2 (by simp; omega)]
      · rfl
  · rcases List.mem_append.1 hy with hy | hy
    · exact h.ok y hy
    · simp at hy
      subst hy
      exact hn
theorem Bd0.rg {m : Hp} {ns : List Int} (h : Bd0 m ns) : RgH m := fun x l hl => by
  rw [h.look] at hl
  split at hl
  · obtain ⟨n, h1, rfl⟩ := Option.map_eq_some_iff.1 hl
    exact ⟨by simp, right_kI (h.ok n (List.mem_of_getElem? h1))⟩
  · cases hl
/-- A variable and its number lead to the same. -/
theorem Bd0.rl {m : Hp} {ns : List Int} (h : Bd0 m ns) {i : Nat} {n : Int} (hi : ns[i]? = some n) : Rl m (kV i) (kI n) := by
  refine rl_var rfl rfl ?_
  rw [h.look]
  rw [if_pos ⟨rfl, by simp [kV]⟩]
  simp [kV, hi]
end Go.Proofs.YtaehhophaaipdabDoor

namespace Go.Proofs.YtaehhophaaipdabDoor
open Go.RowKit
def ones (cs : List C) : List (List C) := cs.map fun c => [c]
theorem ones_len (cs : List C) : (ones cs).length = cs.length := by simp [ones]
theorem ones_get (cs : List C) (i : Nat) : (ones cs)[i]? = cs[i]?.map fun c => [c] := by simp [ones]
theorem ones_locals {cs : List C} (h : ∀ c ∈ cs, rightB [c] = true) : localsB (ones cs) = true := by
  unfold localsB
  rw [List.all_eq_true]
  intro x hx
  obtain ⟨c, hc, rfl⟩ := List.mem_map.1 hx
  unfold emptyOrRight
  rw [h c hc]
  simp
theorem ones_lack {cs cs' : List C} (hl : cs.length = cs'.length) (n : Int) : lackB (ones cs) n = lackB (ones cs') n := by
  have key : ∀ cs : List C, ((((ones cs)[n.toNat]?).getD []).length == 0) = decide (cs.length ≤ n.toNat) := fun cs => by
    rw [ones_get]
    by_cases h : n.toNat < cs.length
    · rw [List.getElem?_eq_getElem h]
      simp; omega
    · rw [List.getElem?_eq_none_iff.2 (by omega)]
      simp; omega
  unfold lackB
  rw [key, key, ones_len, ones_len, hl]
theorem ones_putC {cs cs' : List C} (hl : cs.length = cs'.length) (c : C) : (putC (ones cs) c).length = (putC (ones cs') c).length := by
  unfold putC
  split
  · rw [ones_get, ones_get]
    by_cases h : c.vk.toNat < cs.length
    · rw [List.getElem?_eq_getElem h, List.getElem?_eq_getElem (by omega)]
      simp
    · rw [List.getElem?_eq_none_iff.2 (by omega), List.getElem?_eq_none_iff.2 (by omega)]
  · rfl
theorem putL_cons (ls : List (List C)) (c : C) (r : List C) : putL ls (c :: r) = putC ls c ++ putL ls r := by simp [putL]
theorem ones_putL {cs cs' : List C} (hl : cs.length = cs'.length) : ∀ l : List C, (putL (ones cs) l).length = (putL (ones cs') l).length
  | [] => rfl
  | c :: r => by rw [putL_cons, putL_cons, List.length_append, List.length_append, ones_putC hl c, ones_putL hl r]
theorem ones_putE {cs cs' : List C} (hl : cs.length = cs'.length) (h : ∀ c ∈ cs, rightB [c] = true) (h' : ∀ c ∈ cs', rightB [c] = true) (l : List C) : putE l (ones cs) = putE l (ones cs') := by
  have e : lacksB l (ones cs) = lacksB l (ones cs') := by
    unfold lacksB
    congr 1
    funext x
    rw [ones_lack hl]
  unfold putE
  rw [ones_locals h, ones_locals h', e, ones_putL hl l]
theorem right_arg {c : C} (h : rightB [c] = true) : argN c = 0 := by
  have h3 := ((right_iff _).1 h).2.2.2
  have h4 : compQ [] (0 + argN c) = true := h3
  simpa [compQ] using h4
theorem put_comp {ls : List (List C)} (hR : ∀ x ∈ ls, emptyOrRight x = true) : ∀ (l : List C) (q : Nat), (∀ c ∈ l, isLoc c = true → lackB ls c.vk = false) → compQ l q = true → compQ (putL ls l) q = true
  | [], q, _, h => h
  | c :: r, 0, _, h => by cases h
  | c :: r, q + 1, hk, h => by
    have h1 : compQ r (q + argN c) = true := h
    have ih := put_comp hR r (q + argN c) (fun c' hc' => hk c' (List.mem_cons_of_mem _ hc')) h1
    rw [putL_cons]
    unfold putC
    split
    · next e =>
      have hl := hk c List.mem_cons_self e
      unfold lackB at hl
      simp only [Bool.or_eq_false_iff] at hl
      have h0 : argN c = 0 := by
        refine var_arg ?_
        unfold isLoc at e
        simp only [Bool.and_eq_true] at e
        exact e.1
      rw [h0] at ih
      cases hg : ls[c.vk.toNat]? with
      | none => rw [hg] at hl; simp at hl
      | some x =>
        rw [hg] at hl
        have hx := hR x (List.mem_of_getElem? hg)
        have hxr : rightB x = true := by
          unfold emptyOrRight at hx
          rcases Bool.or_eq_true_iff.1 hx with h | h
          · have h2 := hl.2
            simp at h h2
            exact absurd h h2
          · exact h
        have h3 := ((right_iff _).1 hxr).2.2.2
        rw [show q + 1 = 1 + q by omega]
        exact compQ_append h3 ih
    · exact ih
theorem put_mem {ls : List (List C)} {l : List C} {c : C} (h : c ∈ putL ls l) : c ∈ l ∨ ∃ x ∈ ls, c ∈ x := by
  unfold putL at h
  obtain ⟨d, hd, hc⟩ := List.mem_flatMap.1 h
  unfold putC at hc
  split at hc
  · cases hg : ls[d.vk.toNat]? with
    | none => rw [hg] at hc; cases hc
    | some x =>
      rw [hg] at hc
      exact .inr ⟨x, List.mem_of_getElem? hg, hc⟩
  · simp at hc
    subst hc
    exact .inl hd
/-- What Put tells is right. -/
theorem put_right {ls : List (List C)} {l : List C} (h : putE l ls = 0) : rightB l = true ∧ rightB (putL ls l) = true := by
  unfold putE at h
  split at h
  · next e =>
    simp only [Bool.and_eq_true] at e
    obtain ⟨e1, e2⟩ := e
    refine ⟨e1, ?_⟩
    cases hk : lacksB l ls with
    | true => rw [hk] at h; cases h
    | false =>
      rw [hk] at h
      simp only [Bool.false_eq_true, if_false] at h
      split at h
      · cases h
      · next hlen =>
        obtain ⟨r1, r2, r3, r4⟩ := (right_iff l).1 e1
        have hR : ∀ x ∈ ls, emptyOrRight x = true := by
          unfold localsB at e2
          rw [List.all_eq_true] at e2
          exact e2
        have hc := put_comp hR l 1 (fun c hc hL => by
          unfold lacksB at hk
          rw [List.any_eq_false] at hk
          unfold isLoc at hL
          simp only [Bool.and_eq_true, beq_iff_eq] at hL
          have := hk (c.vn, c.vk) (by unfold varsOf; simp only [List.mem_map, List.mem_filter]; exact ⟨c, ⟨hc, by simp [hL.1]⟩, rfl⟩)
          simpa [hL.2] using this) r4
        refine (right_iff _).2 ⟨compQ_le hc, by omega, ?_, hc⟩
        rw [List.all_eq_true] at r3 ⊢
        intro c hm
        rcases put_mem hm with h1 | ⟨x, hx, h1⟩
        · exact r3 c h1
        · have hx' := hR x hx
          unfold emptyOrRight at hx'
          rcases Bool.or_eq_true_iff.1 hx' with h2 | h2
          · simp at h2
            subst h2
            cases h1
          · have := ((right_iff _).1 h2).2.2.1
            rw [List.all_eq_true] at this
            exact this c h1
  · cases h
theorem bind_zero0 {m : Hp} {x : Nm} {l : List C} (h : bindE m x l = 0) : lookH m x = none ∧ rightB l = true := by
  unfold bindE at h
  split at h
  · cases h
  · next e1 =>
    split at h
    · cases h
    · next e2 =>
      constructor
      · cases hl : lookH m x with
        | none => rfl
        | some _ => rw [hl] at e2; exact absurd rfl e2
      · cases hg : globalB l with
        | false => exact absurd (.inr (.inr hg)) e1
        | true =>
          unfold globalB at hg
          simp only [Bool.and_eq_true] at hg
          exact hg.2
theorem sub_bind (m : Hp) (x : Nm) (l : List C) : SubH m (bindH m x l) := fun y l' h => by
  unfold bindH
  split
  · next e =>
    rw [look_ins m x y l (bind_zero0 e).1]
    split
    · next e2 => have h0 := (bind_zero0 e).1; rw [e2, h] at h0; cases h0
    · exact h
  · exact h
theorem rg_bind {m : Hp} (hR : RgH m) (x : Nm) (l : List C) : RgH (bindH m x l) := fun y l' h => by
  unfold bindH at h
  split at h
  · next e =>
    rw [look_ins m x y l (bind_zero0 e).1] at h
    split at h
    · cases h
      have hr := (bind_zero0 e).2
      refine ⟨fun e0 => ?_, hr⟩
      subst e0
      have := ((right_iff _).1 hr).1
      simp at this
    · exact hR y l' h
  · exact hR y l' h
theorem desc_bind {m : Hp} (hD : DescH m) (x : Nm) (l : List C) : DescH (bindH m x l) := fun y l' h hv => by
  unfold bindH at h
  split at h
  · next e =>
    rw [look_ins m x y l (bind_zero0 e).1] at h
    split at h
    · next e2 =>
      cases h
      subst e2
      unfold bindE at e
      split at e
      · cases e
      · split at e
        · cases e
        · split at e
          · cases e
          · next e3 =>
            cases hl : lessN (varL l) x with
            | true => rfl
            | false => exact absurd ⟨hv, hl⟩ e3
    · exact hD y l' h hv
  · exact hD y l' h hv
theorem rg_ok {m : Hp} (hR : RgH m) : HpOk m := fun x l h => ⟨(hR x l h).1, by
  have := ((right_iff _).1 (hR x l h).2).2.1
  omega⟩
/-- The values of the variables' form and the numbers' form, and by a map that says more. -/
theorem sums_plain {m m' : Hp} {ns : List Int} (hB : Bd0 m ns) (hD : DescH m) (hD' : DescH m') (hR' : RgH m') (hs : SubH m m') (l : List C)
    (h : putE l (ones ((List.range ns.length).map kV)) = 0) : ∃ (d d2 : Nat) (n o n2 o2 : Int) (r1 r2 r3 : List C) (s1 s2 s3 : List Nm),
      Sm m d (putL (ones ((List.range ns.length).map kV)) l) [] n o r1 s1 ∧ Sm m d (putL (ones (ns.map kI)) l) [] n o r2 s2 ∧ Sm m' d2 (putL (ones ((List.range ns.length).map kV)) l) [] n2 o2 r3 s3 ∧
      (o = 1 ∨ o = 2 ∨ o = 3) ∧ (o = 3 ∨ (o2 = o ∧ valN n2 o2 = valN n o)) := by
  obtain ⟨_, hr⟩ := put_right h
  obtain ⟨_, _, r3, r4⟩ := (right_iff _).1 hr
  obtain ⟨n, o, rest, names, hS, ho, _⟩ := sm_tot hB.rg hD _ _ 0 [] (Nat.le_refl _) r4 r3
  obtain ⟨n2, o2, rest2, names2, hS2, ho2, _⟩ := sm_tot hR' hD' _ _ 0 [] (Nat.le_refl _) r4 r3
  have hf : F2 (Rl m) (putL (ones ((List.range ns.length).map kV)) l) (putL (ones (ns.map kI)) l) := by
    refine put_f2 (by simp [ones]) (fun i a b ha hb => ?_) l
    rw [ones_get] at ha hb
    obtain ⟨c, hc, rfl⟩ := Option.map_eq_some_iff.1 ha
    obtain ⟨c', hc', rfl⟩ := Option.map_eq_some_iff.1 hb
    rw [List.getElem?_map] at hc hc'
    obtain ⟨j, hj, rfl⟩ := Option.map_eq_some_iff.1 hc
    obtain ⟨k, hk, rfl⟩ := Option.map_eq_some_iff.1 hc'
    have hij : j = i := by
      have := (List.getElem?_eq_some_iff.1 hj).2
      simpa using this.symm
    subst hij
    exact .cons (hB.rl hk) .nil
  obtain ⟨rest', hS', _⟩ := sm_sub _ hS hf
  have hm := sm_more hs _ _ hS hS2
  refine ⟨_, _, n, o, n2, o2, rest, rest', rest2, names, names, names2, hS, hS', hS2, ho, ?_⟩
  rcases ho with e | e | e
  · obtain ⟨e1, e2⟩ := hm.1 e
    exact .inr ⟨by rw [e1, e], by rw [e1, e, e2]⟩
  · have e1 := hm.2 e
    exact .inr ⟨by rw [e1, e], by rw [e1, e]; simp [valN]⟩
  · exact .inl e
end Go.Proofs.YtaehhophaaipdabDoor

namespace Go.Proofs.YtaehhophaaipdabDoor
open Go.RowKit
structure Tr1 (B : Nat) (u : World) (v : Value) (cs : List C) (vs : List Value) : Prop where
  own : u.ownsRow B 23 1 v cs.length vs
  el : ∀ (i : Nat) (z : Value) (c : C), vs[i]? = some z → cs[i]? = some c → One1 B u z c
  len : vs.length = cs.length
theorem Tr1.nil (B : Nat) (u : World) : Tr1 B u (.slice none 0 0) [] [] := ⟨⟨rfl, .inl ⟨rfl, rfl⟩⟩, fun i z c h => (by simp at h), rfl⟩
theorem Tr1.keeps {B : Nat} {u u' : World} {v : Value} {cs : List C} {vs : List Value} (h : Tr1 B u v cs vs) (hk : ∀ (g : Nat) (cu : Array Value) (t : TypeId), u.heap[g]? = some (.cells cu t (0, 0)) → u'.heap[g]? = u.heap[g]?) : Tr1 B u' v cs vs := by
  refine ⟨⟨h.own.1, ?_⟩, fun i z c hz hc => ?_, h.len⟩
  · rcases h.own.2 with h1 | ⟨g, cap, cur, h1, h2, h3, h4⟩
    · exact .inl h1
    · exact .inr ⟨g, cap, cur, h1, h2, (hk g _ _ h3).trans h3, h4⟩
  · obtain ⟨g, h1, h2, h3⟩ := h.el i z c hz hc
    exact ⟨g, h1, h2, (hk g _ _ h3).trans h3⟩
theorem Tr1.below {B : Nat} {u u' : World} {v : Value} {cs : List C} {vs : List Value} (h : Tr1 B u v cs vs) (hb : Below u.heap.size u u') : Tr1 B u' v cs vs :=
  h.keeps fun g _ _ hg => hb.block g (Array.getElem?_eq_some_iff.1 hg).1
/-- A map may turn. -/
theorem Tr1.but {B M : Nat} {u u' : World} {v : Value} {cs : List C} {vs : List Value} (h : Tr1 B u v cs vs) (hb : KeepsBut M u u') (hM : ∀ (cu : Array Value) (t : TypeId), u.heap[M]? ≠ some (.cells cu t (0, 0))) : Tr1 B u' v cs vs :=
  h.keeps fun g cu t hg => hb.2.2.2.2 g (Array.getElem?_eq_some_iff.1 hg).1 (fun e => by subst e; exact hM _ _ hg)
theorem HpAt.noCells {w : World} {hb M n : Nat} {D : DataW Value} {m : Hp} (h : HpAt w hb M n D m) (cu : Array Value) (t : TypeId) : w.heap[M]? ≠ some (.cells cu t (0, 0)) := by
  obtain ⟨es, ck, h2, _⟩ := h.map
  rw [h2]
  intro e
  cases e
/-- Behind an append of one more. -/
theorem Tr1.more {B : Nat} {u w' : World} {v v' : Value} {cs : List C} {vs : List Value} {z : Value} {c : C} (h : Tr1 B u v cs vs) (hz : One1 B u z c) (ho : w'.ownsRow B 23 1 v' (cs.length + 1) (vs ++ [z])) (hg : u.grownBy w' v.ownBlock) : Tr1 B w' v' (cs ++ [c]) (vs ++ [z]) := by
  have step : ∀ (z : Value) (c : C), One1 B u z c → One1 B w' z c := fun z c ⟨g, h1, h2, h3⟩ => by
    refine ⟨g, h1, h2, (hg.block g (Array.getElem?_eq_some_iff.1 h3).1 fun e2 => ?_).trans h3⟩
    rcases h.own.2 with ⟨e3, _⟩ | ⟨g3, cap, cur, e3, _, h4, _⟩
    · rw [e3] at e2; cases e2
    · rw [e3] at e2
      simp only [Value.ownBlock, Option.some.injEq] at e2
      subst e2
      rw [h3] at h4
      cases h4
  refine ⟨by simpa using ho, fun i y k hy hk => ?_, by simp [h.len]⟩
  by_cases hi : i < vs.length
  · rw [List.getElem?_append_left hi] at hy
    rw [List.getElem?_append_left (by rw [← h.len]; exact hi)] at hk
    exact step y k (h.el i y k hy hk)
  · have e : i = vs.length := by
      have := (List.getElem?_eq_some_iff.1 hy).1
      simp at this
      omega
    subst e
    rw [List.getElem?_append_right (Nat.le_refl _)] at hy
    rw [h.len, List.getElem?_append_right (Nat.le_refl _)] at hk
    simp at hy hk
    subst hy hk
    exact step z c hz
theorem Tr1.row {B : Nat} {u : World} {v : Value} {cs : List C} {vs : List Value} (h : Tr1 B u v cs vs) (ht : ∀ c ∈ cs, c.t.size ≤ maxLen) (hl : cs.length ≤ maxLen) : RowAt u v (ones cs) := by
  refine ⟨by rw [ones_len]; exact hl, ?_⟩
  rcases h.own.2 with ⟨h1, h2⟩ | ⟨g, cap, cur, h1, h2, h3, h4, h5, h6, h7⟩
  · have : cs = [] := List.eq_nil_of_length_eq_zero h2
    subst this
    exact .inl ⟨rfl, none, h1⟩
  · refine .inr ⟨g, 0, cap, vs, by rw [ones_len]; exact h1, by rw [ones_len]; exact h4, h5, (Array.getElem?_eq_some_iff.1 h3).1, by rw [ones_len]; exact h.len, fun j x hx => ?_, fun i z l hz hl' => ?_⟩
    · rw [Nat.zero_add, cell_of_row u g j _ 23 (0, 0) h3]
      rw [← h7] at hx
      rw [List.getElem?_take] at hx
      split at hx
      · simpa using hx
      · cases hx
    · rw [ones_get] at hl'
      obtain ⟨c, hc, rfl⟩ := Option.map_eq_some_iff.1 hl'
      exact (h.el i z c hz hc).term (ht c (List.mem_of_getElem? hc))
end Go.Proofs.YtaehhophaaipdabDoor

namespace Go.Proofs.YtaehhophaaipdabDoor
open Go.RowKit
attribute [local go_sem ↓] Go.wp_at_zero Go.wp_at_succ
theorem infoT : ∃ i, Tryd.prog.info? 23 = some i ∧ i.zero = some (.slice none 0 0) ∧ i.size = 1 ∧ i.bytes = 24 := by
  have h : (Tryd.prog.info? 23).map (fun i => (i.zero, i.size, i.bytes)) = some (some (.slice none 0 0), 1, 24) := by kernel_rfl
  cases hq : Tryd.prog.info? 23 with
  | none => rw [hq] at h; cases h
  | some i =>
    rw [hq] at h
    simp only [Option.map_some, Option.some.injEq, Prod.mk.injEq] at h
    exact ⟨i, rfl, h.1, h.2.1, h.2.2⟩
theorem owns_sl {w : World} {B e s : Nat} {v : Value} {n : Nat} {xs : List Value} (h : w.ownsRow B e s v n xs) : ∃ a c, v = .slice a n c := by
  rcases h.2 with ⟨e, h0⟩ | ⟨g, cap, cur, e, _⟩
  · exact ⟨none, 0, by rw [e, h0]⟩
  · exact ⟨_, _, e⟩
/-- The numbers that are bound. -/
def numsI (xs : List Int) (k : Nat) : List Int := (xs.take k).map fun x => whF x 1000 - 500
theorem numsI_len (xs : List Int) (k : Nat) (h : k ≤ xs.length) : (numsI xs k).length = k := by simp [numsI]; omega
theorem numsI_succ (xs : List Int) (k : Nat) (h : k < xs.length) : numsI xs (k + 1) = numsI xs k ++ [whF xs[k] 1000 - 500] := by
  unfold numsI
  rw [List.take_succ_eq_append_getElem h, List.map_append]
  rfl
theorem TermAt.keeps {w w' : World} {v : Value} {l : List C} (h : TermAt w v l) (hk : ∀ g, v.ownBlock = some g → w'.heap[g]? = w.heap[g]?) : TermAt w' v l := by
  obtain ⟨h0, h⟩ := h
  refine ⟨h0, ?_⟩
  rcases h with h | ⟨b, o, cap, h1, h2, h5, h3, h4⟩
  · exact .inl h
  · have hg := hk b (by rw [h1]; rfl)
    refine .inr ⟨b, o, cap, h1, h2, h5, fun j u hu => ?_, ?_⟩
    · have := h3 j u hu
      unfold World.cell? at this ⊢
      simp only [hg]
      exact this
    · rw [Array.getElem?_eq_getElem h4] at hg
      exact (Array.getElem?_eq_some_iff.1 hg).1
theorem HpAt.keeps {w w' : World} {hb M n : Nat} {D : DataW Value} {m : Hp} {V : Nat → Prop} (h : HpAt w hb M n D m) (hV : VB D V) (h1 : w'.heap[hb]? = w.heap[hb]?) (h2 : w'.heap[M]? = w.heap[M]?) (h3 : ∀ g, V g → w'.heap[g]? = w.heap[g]?) : HpAt w' hb M n D m := by
  refine ⟨h1.trans h.blk, ?_, h.no, fun x l hx hl => ?_, h.desc, h.wf⟩
  · obtain ⟨es, ck, k1, k2⟩ := h.map
    exact ⟨es, ck, h2.trans k1, k2⟩
  · obtain ⟨v, k1, k2⟩ := h.yes x l hx hl
    exact ⟨v, k1, k2.keeps fun g hg => h3 g (hV x v hx k1 g hg)⟩
/-- The blocks of cells. -/
def Cel (wr : World) (g : Nat) : Prop := ∃ cu : Array Value, wr.heap[g]? = some (.cells cu 52 (0, 0))
theorem VB.imp {D : DataW Value} {V V' : Nat → Prop} (h : VB D V) (k : ∀ g, V g → V' g) : VB D V' := fun x v hx hv g hg => k g (h x v hx hv g hg)
/-- The map and the row of numbers, in memory. -/
structure Su (u : World) (hb M : Nat) (ns : List Int) (cs : List C) (lv : Value) (wr : World) : Prop where
  hp : ∃ (n : Nat) (D : DataW Value) (m : Hp), HpAt wr hb M n D m ∧ n ≤ ns.length ∧ Bd0 m ns ∧ VB D (Cel wr)
  tr : ∃ vs : List Value, Tr1 u.heap.size wr lv cs vs
  low : u.heap.size ≤ M
  bel : Below u.heap.size u wr
theorem Cel.below {w w' : World} (hb : Below w.heap.size w w') (g : Nat) (h : Cel w g) : Cel w' g := by
  obtain ⟨cu, h⟩ := h
  exact ⟨cu, (hb.block g (Array.getElem?_eq_some_iff.1 h).1).trans h⟩
theorem Su.below {u : World} {hb M : Nat} {ns : List Int} {cs : List C} {lv : Value} {wr wr' : World} (h : Su u hb M ns cs lv wr) (hb' : Below wr.heap.size wr wr') : Su u hb M ns cs lv wr' := by
  obtain ⟨⟨n, D, m, h1, h2, h3, h7⟩, ⟨vs, h4⟩, h5, h6⟩ := h
  exact ⟨⟨n, D, m, h1.below hb', h2, h3, h7.imp (Cel.below hb')⟩, ⟨vs, h4.below hb'⟩, h5, h6.trans (hb'.mono h6.size)⟩
/-- An append to a row of terms leaves the map as it is. -/
theorem hp_grown {B wB : World} {hb M n : Nat} {D : DataW Value} {m : Hp} {lv : Value} {k : Nat} {vs : List Value} {b : Nat} (h : HpAt B hb M n D m) (hV : VB D (Cel B)) (ho : B.ownsRow b 23 1 lv k vs) (hg : B.grownBy wB lv.ownBlock) : HpAt wB hb M n D m ∧ VB D (Cel wB) := by
  have key : ∀ (g : Nat) (o : Obj), B.heap[g]? = some o → (∀ cu : Array Value, o ≠ .cells cu 23 (0, 0)) → wB.heap[g]? = B.heap[g]? := fun g o h1 h2 => by
    refine hg.block g (Array.getElem?_eq_some_iff.1 h1).1 fun e => ?_
    obtain ⟨_, cu, h3⟩ := own_blk ho e.symm
    rw [h1] at h3
    exact h2 cu (Option.some.inj h3)
  have kc : ∀ g, Cel B g → wB.heap[g]? = B.heap[g]? := fun g ⟨cu, hc⟩ => key g _ hc (fun cu' e => by cases e)
  refine ⟨h.keeps hV (key hb _ h.blk (fun cu e => by cases e)) ?_ kc, hV.imp fun g hc => ?_⟩
  · obtain ⟨es, ck, h2, _⟩ := h.map
    exact key M _ h2 (fun cu e => by cases e)
  · obtain ⟨cu, h1⟩ := hc
    exact ⟨cu, (kc g ⟨cu, h1⟩).trans h1⟩
/-- What is handed in, at the world behind the box. -/
structure Ar (u : World) (l : List C) (v0 : Value) (xs : List Int) (v1 : Value) (x : Nm) (l2 : List C) (v2 : Value) : Prop where
  t0 : TermAt u v0 l
  w0 : ∀ c ∈ l, wfN (c.vn, c.vk)
  t1 : IntsR u v1 xs
  t2 : TermAt u v2 l2
  w2 : ∀ c ∈ l2, wfN (c.vn, c.vk)
  wx : wfN x
  by2 : l2.length * 48 ≤ 140737488355328
  sg : Signs u
theorem wf_small {k : Int} (h0 : 0 ≤ k) (h : k < 1000) : (Lit.int .i64 k).wf = true := okI_wf (by unfold okI; omega)
theorem wf_zero : (Lit.int .i64 0).wf = true := wf_small (by decide) (by decide)
theorem wf_kI (q : Int) : ∀ c ∈ [kI q], wfN (c.vn, c.vk) := fun c hc => by
  simp at hc
  subst hc
  exact ⟨wf_zero, wf_zero⟩
/-- One more number is bound. -/
theorem su_bind {u w2 : World} {hb M : Nat} {ns : List Int} {cs : List C} {lv : Value} {l : List C} {v0 : Value} {xs : List Int} {v1 : Value} {x : Nm} {l2 : List C} {v2 : Value} (hA : Ar u l v0 xs v1 x l2 v2) (h : Su u hb M ns cs lv w2) (q : Int) (hq : okI q) (hk : ns.length < 8) (g : Nat) (hg : One1 u.heap.size w2 (.slice (some ⟨g, 0, none⟩) 1 1) (kI q)) :
    Calls Tryd.prog 6 #[.pointer (some ⟨hb, 0, none⟩), .agg #[.int .i64 0, .int .i64 (ns.length : Int)], .slice (some ⟨g, 0, none⟩) 1 1] w2 fun e w' => e = .returned (.int .i64 0) ∧ Hid (Su u hb M (ns ++ [q]) cs lv w') := by
  obtain ⟨⟨n, D, m, h1, h2, h3, h7⟩, ⟨vs, h4⟩, h5, h6⟩ := h
  obtain ⟨e0, e1⟩ := h3.more hq
  refine (h11 m hb M n D (0, (ns.length : Int)) [kI q] _ w2 h1 ⟨wf_zero, wf_small (by simp) (by simp; omega)⟩ (hg.term (Nat.zero_le _)) (wf_kI q) (hA.sg.below h6) (by simp) (by unfold maxLen; omega)).mono ?_
  rintro e w' ⟨rfl, n', D', k1, k2, k3, k4⟩
  rw [e0]
  refine ⟨rfl, ⟨n', D', _, k1, by simp; omega, e1, (k4 _ h7).imp fun g hg => ?_⟩, ⟨vs, h4.but k3 h1.noCells⟩, h5, h6.trans (k3.below h5 h6.size)⟩
  rcases hg with ⟨cu, hc⟩ | ⟨_, hc⟩
  · exact ⟨cu, (k3.2.2.2.2 g (Array.getElem?_eq_some_iff.1 hc).1 (fun e => by subst e; exact h1.noCells _ _ hc)).trans hc⟩
  · exact hc
/-- Behind the last Bind: the row stays; the map says more. -/
def Su2 (u : World) (hb : Nat) (m' : Hp) (t : Value) (cells : List C) (w' : World) : Prop := HpV w' (.pointer (some ⟨hb, 0, none⟩)) m' ∧ DescH m' ∧ TermAt w' t cells ∧ Below u.heap.size u w'
theorem put_terms {l : List C} {cs : List C} {w : World} {base : Nat} {t : Value} (h : OwnT w base t (putT l (ones cs))) (h0 : putE l (ones cs) = 0) (hT : ∀ c ∈ l, c.t.size ≤ maxLen) (hc : ∀ c ∈ cs, c.t.size ≤ maxLen) : TermAt w t (putL (ones cs) l) := by
  have e : putT l (ones cs) = putL (ones cs) l := by unfold putT; rw [if_pos h0]
  rw [e] at h
  obtain ⟨_, hr⟩ := put_right h0
  refine ownT_term h (by have := ((right_iff _).1 hr).2.1; unfold maxLen; omega) fun c hm => ?_
  rcases put_mem hm with h1 | ⟨y, hy, h1⟩
  · exact hT c h1
  · obtain ⟨d, hd, rfl⟩ := List.mem_map.1 hy
    simp at h1
    subst h1
    exact hc c hd
theorem put_wf {l : List C} {cs : List C} (hW : ∀ c ∈ l, wfN (c.vn, c.vk)) (hc : ∀ c ∈ cs, wfN (c.vn, c.vk)) : ∀ c ∈ putL (ones cs) l, wfN (c.vn, c.vk) := fun c hm => by
  rcases put_mem hm with h1 | ⟨y, hy, h1⟩
  · exact hW c h1
  · obtain ⟨d, hd, rfl⟩ := List.mem_map.1 hy
    simp at h1
    subst h1
    exact hc c hd
theorem kVs_t (k : Nat) : ∀ c ∈ (List.range k).map kV, c.t.size ≤ maxLen := fun c hc => by
  obtain ⟨i, _, rfl⟩ := List.mem_map.1 hc
  exact Nat.zero_le _
theorem kIs_t (ns : List Int) : ∀ c ∈ ns.map kI, c.t.size ≤ maxLen := fun c hc => by
  obtain ⟨i, _, rfl⟩ := List.mem_map.1 hc
  exact Nat.zero_le _
theorem kVs_r (k : Nat) : ∀ c ∈ (List.range k).map kV, rightB [c] = true := fun c hc => by
  obtain ⟨i, _, rfl⟩ := List.mem_map.1 hc
  exact right_kV i
theorem kIs_r {ns : List Int} (h : ∀ n ∈ ns, okI n) : ∀ c ∈ ns.map kI, rightB [c] = true := fun c hc => by
  obtain ⟨i, hi, rfl⟩ := List.mem_map.1 hc
  exact right_kI (h i hi)
theorem kVs_w {k : Nat} (hk : k ≤ 8) : ∀ c ∈ (List.range k).map kV, wfN (c.vn, c.vk) := fun c hc => by
  obtain ⟨i, hi, rfl⟩ := List.mem_map.1 hc
  have := List.mem_range.1 hi
  exact ⟨wf_zero, wf_small (by simp [kV]) (by simp [kV]; omega)⟩
theorem kIs_w (ns : List Int) : ∀ c ∈ ns.map kI, wfN (c.vn, c.vk) := fun c hc => by
  obtain ⟨i, _, rfl⟩ := List.mem_map.1 hc
  exact wf_kI i _ (by simp)
end Go.Proofs.YtaehhophaaipdabDoor
