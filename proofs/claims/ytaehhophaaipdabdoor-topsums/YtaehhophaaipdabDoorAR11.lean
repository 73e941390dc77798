/- Contract of sum. -/
import Derived.Test.YtaehhophaaipdabDoorAR9
import Derived.Deep.QuietTactic
namespace Go.Proofs.YtaehhophaaipdabDoor
open Go.RowKit
attribute [local go_sem ↓] Go.wp_at_zero Go.wp_at_succ
theorem term_head {w : World} {b o cap : Nat} {c : C} {r : List C} (h : w.rangeAt b o (flat (c :: r))) (hb : b < w.heap.size) (hl : (c :: r).length ≤ cap) (hc : cap ≤ maxLen) (ht : ∀ x ∈ c :: r, x.t.size ≤ maxLen) : TermAt w (.slice (some ⟨b, o, none⟩) 1 cap) [c] := by
  refine ⟨⟨by simp [maxLen], fun x hx => ht x (by simp at hx; simp [hx])⟩, .inr ⟨b, o, cap, rfl, by simp at hl ⊢; omega, hc, fun j u hu => h j u ?_, hb⟩⟩
  have e : flat (c :: r) = flat [c] ++ flat r := by simp [flat]
  rw [e, List.getElem?_append_left (List.getElem?_eq_some_iff.1 hu).1]
  exact hu
theorem term_tail {w : World} {b o cap : Nat} {c : C} {r : List C} (h : w.rangeAt b o (flat (c :: r))) (hb : b < w.heap.size) (hl : (c :: r).length ≤ cap) (hc : cap ≤ maxLen) (ht : ∀ x ∈ c :: r, x.t.size ≤ maxLen) : TermAt w (.slice (some ⟨b, o + 5, none⟩) r.length (cap - 1)) r := by
  refine ⟨⟨by simp at hl; omega, fun x hx => ht x (by simp [hx])⟩, .inr ⟨b, o + 5, cap - 1, rfl, by simp at hl; omega, by omega, fun j u hu => ?_, hb⟩⟩
  have := h (5 + j) u (by
    have e : flat (c :: r) = c.vals ++ flat r := by simp [flat]
    have hl5 : c.vals.length = 5 := rfl
    rw [e, List.getElem?_append_right (by omega), hl5, Nat.add_sub_cancel_left]
    exact hu)
  rwa [show o + 5 + j = o + (5 + j) by omega]
theorem SumPost.up {w0 : World} {lb : Nat} {p : Value} {B g : Nat} {n o : Int} {rest : List C} {names' : List Nm} {T T' : Nat} {wi w : World} {e : Ending} {w' : World} (h : SumPost w0 lb p B g n o rest names' T wi e w') (hk : KeepT w wi) (hT : T ≤ T') : SumPost w0 lb p B g n o rest names' T' w e w' := by
  obtain ⟨rv, K', h1, h2, h3, h4, h5, h6, h7⟩ := h
  exact ⟨rv, K', h1, h2, h3, Nat.le_trans h4 hT, h5, h6, hk.trans h7⟩
theorem SumPost.keep {w0 : World} {lb : Nat} {p : Value} {B g : Nat} {n o : Int} {rest : List C} {names' : List Nm} {T : Nat} {wi : World} {e : Ending} {w' : World} (h : SumPost w0 lb p B g n o rest names' T wi e w') : KeepT wi w' := by
  obtain ⟨rv, K', h1, h2, h3, h4, h5, h6, h7⟩ := h
  exact h7
theorem tail_one {w : World} {r : List C} {b ob : Nat} (h : TermAt w (.slice (some ⟨b, ob + 5, none⟩) r.length 0) r) : TermAt w (.slice (some ⟨b, ob, none⟩) r.length 0) r := by
  obtain ⟨h0, h⟩ := h
  have hr : r = [] := by
    rcases h with ⟨h, _⟩ | ⟨b', o', cap', e, h2, _⟩
    · exact h
    · simp only [Value.slice.injEq] at e
      exact List.eq_nil_of_length_eq_zero (by omega)
  subst hr
  exact term_nil _ _
abbrev OpS8 (bx : Nat) (tx : ByteArray) (ar : Int) (cv : Value) (w' : World) : Prop := w'.cell? ⟨bx, 0, none⟩ = some (.string tx) ∧ w'.cell? ⟨bx, 1, none⟩ = some (.int .i64 ar) ∧ w'.cell? ⟨bx, 2, none⟩ = some cv
set_option maxRecDepth 100000 in
set_option maxHeartbeats 8000000 in
theorem h62 (m : Hp) (hm : HpOk m) (w0 : World) (lb : Nat) (p : Value) (B g : Nat) (hp : HpV w0 p m) : ∀ d, SumC m w0 lb p B g d := by
  intro d
  induction d with
  | zero =>
    intro cells names n o rest names' v w K hs
    cases hs
  | succ d ih =>
    intro cells names n o rest names' v w K hs hb hL hT hW hK
    have HP : Hid (HpV w0 p m) := hp
    have HM : Hid (HpOk m) := hm
    have HIH : Hid (SumC m w0 lb p B g d) := ih
    have HL : Hid (Lk w w0.heap.size lb p B g names K) := hL
    have HW : Hid (∀ c ∈ cells, wfN (c.vn, c.vk)) := hW
    have hsz := hb.size
    clear hp hm ih hL hW
    cases hs with
    | leaf hk hf =>
      rename_i c e r'
      obtain ⟨⟨hlm, htx⟩, hT⟩ := hT
      rcases hT with ⟨h, _⟩ | ⟨b, ob, cap, rfl, h2, h5, h3, h4⟩
      · cases h
      have p0 : w.cell? ⟨b, ob, none⟩ = some (.int .u8 c.k) := (hb.cell (p := ⟨b, ob, none⟩) h4).trans (by have := (term_cells h3 0 (by simp)).1; simpa using this)
      have hTt := term_tail h3 h4 h2 h5 htx
      have HTh := term_head h3 h4 h2 h5 htx
      have H74 := h74 m HM.out w0.heap.size lb p B g c (.slice (some ⟨b, ob, none⟩) 1 cap) names K w HL.out (HP.out.below hb) (HTh.below hb) (HW.out c (by simp)) (by simp at hK; omega) hsz
      have HF : Hid (IsFol m [c] (e :: r')) := hf
      have hq : (c.k != 3) = true := by simpa using hk
      have hcap : rest.length + 1 ≤ cap := by simpa using h2
      have HW1 : Hid (∀ x ∈ rest, wfN (x.vn, x.vk)) := fun x hx => HW.out x (by simp [hx])
      clear hk hf h3 HTh htx hlm
      simp only [List.length_cons] at *
      unfold maxLen at h5
      by_cases hc1 : cap = 1
      · subst hc1
        have HTt : Hid (TermAt w0 (.slice (some ⟨b, ob, none⟩) rest.length 0) rest) := tail_one hTt
        clear hTt
        obtain rfl : rest = [] := List.eq_nil_of_length_eq_zero (by omega)
        simp only [List.length_nil] at *
        go_enter Tryd.func22, Tryd.ntmps22
        go_wp2_with fail
        refine H74.mono ?_
        rintro e1 w1 ⟨d1, r1, rfl, hF1, hL1, hb1, hk1⟩
        have hde : d1 = e := by
          have := hF1.uniq HF.out
          simp at this
          exact this.1
        subst hde
        have HP1 : Hid (Lk w1 w0.heap.size lb p B g (numS d1 names).2.2 (K + 1) ∧ Below w0.heap.size w0 w1 ∧ KeepT w w1) := ⟨hL1, hb.trans hb1, hk1⟩
        clear hF1 hL1 hb1 hk1 H74
        generalize (numS d1 names).1 = nn at *
        generalize (numS d1 names).2.1 = oo at *
        go_wp2_with fail
        go_quiet (fail)
        go_wp2_with fail
        refine bodyPost_ret (v := .tuple #[.int .i64 nn, .int .u8 oo, .slice (some ⟨b, ob, none⟩) 0 0]) (by simp [results, Tryd.results22, go_sem]) rfl ⟨_, K + 1, rfl, HTt.out, HP1.out.1.below (below_drewN (Below.refl _ _) nq), ?_, HW1.out, below_drewN HP1.out.2.1 nq, HP1.out.2.2.trans (KeepT.of_below (below_drewN (Below.refl _ _) nq))⟩
        first
          | omega
          | (simp; done)
          | (simp; omega)
      · have HTt : Hid (TermAt w0 (.slice (some ⟨b, ob + 5, none⟩) rest.length (cap - 1)) rest) := hTt
        clear hTt
        go_enter Tryd.func22, Tryd.ntmps22
        go_wp2_with fail
        refine H74.mono ?_
        rintro e1 w1 ⟨d1, r1, rfl, hF1, hL1, hb1, hk1⟩
        have hde : d1 = e := by
          have := hF1.uniq HF.out
          simp at this
          exact this.1
        subst hde
        have HP1 : Hid (Lk w1 w0.heap.size lb p B g (numS d1 names).2.2 (K + 1) ∧ Below w0.heap.size w0 w1 ∧ KeepT w w1) := ⟨hL1, hb.trans hb1, hk1⟩
        clear hF1 hL1 hb1 hk1 H74
        generalize (numS d1 names).1 = nn at *
        generalize (numS d1 names).2.1 = oo at *
        go_wp2_with fail
        go_quiet (fail)
        go_wp2_with fail
        refine bodyPost_ret (v := .tuple #[.int .i64 nn, .int .u8 oo, .slice (some ⟨b, ob + 5, none⟩) rest.length (cap - 1)]) (by simp [results, Tryd.results22, go_sem]) rfl ⟨_, K + 1, rfl, HTt.out, HP1.out.1.below (below_drewN (Below.refl _ _) nq), ?_, HW1.out, below_drewN HP1.out.2.1 nq, HP1.out.2.2.trans (KeepT.of_below (below_drewN (Below.refl _ _) nq))⟩
        first
          | omega
          | (simp; done)
          | (simp; omega)
    | @none _ c r _ hk hn =>
      have HNn : Hid (∀ i, i < 8 → isB (c :: r) (opT i) (opA i) = false) := hn
      clear hn
      obtain ⟨⟨hlm, htx⟩, hT0⟩ := hT
      have HT : Hid (TermAt w0 v (c :: r)) := ⟨⟨hlm, htx⟩, hT0⟩
      rcases hT0 with ⟨h, _⟩ | ⟨b, ob, cap, rfl, h2, h5, h3, h4⟩
      · cases h
      have p0 : w.cell? ⟨b, ob, none⟩ = some (.int .u8 c.k) := (hb.cell (p := ⟨b, ob, none⟩) h4).trans (by have := (term_cells h3 0 (by simp)).1; simpa using this)
      have hTt := term_tail h3 h4 h2 h5 htx
      have hq : (c.k != 3) = false := by simp [hk]
      have hcap : r.length + 1 ≤ cap := by simpa using h2
      have HW1 : Hid (∀ x ∈ r, wfN (x.vn, x.vk)) := fun x hx => HW.out x (by simp [hx])
      have HOps : Hid (∀ W, Below w.heap.size w W → OpsAt W B g) := fun W hW => (HL.out.below hW).ops
      obtain ⟨M0, n0, nv0, hL0, _⟩ := HL.out
      obtain ⟨_, l1, _, _⟩ := hL0.cells
      clear hL0
      have H75 : Hid (∀ W, Below w.heap.size w W → ∀ k, Calls Tryd.prog 29 #[.slice (some ⟨b, ob, none⟩) (c :: r).length cap, .string (opT k), .int .i64 (opA k)] W fun e w' => e = .returned (.bool (isB (c :: r) (opT k) (opA k))) ∧ w' = W) := fun W hW k => c28 (c :: r) _ (opT k) (opA k) W (HT.out.below (hb.trans (hW.mono hsz)))
      clear hk h3 htx hlm
      unfold maxLen at h5
      clear hTt
      simp only [List.length_cons] at *
      go_enter Tryd.func22, Tryd.ntmps22
      go_wp2_with fail
      go_loopw [30] (fun iv wr => ∃ k : Nat, k ≤ 8 ∧ iv = .int .i64 k ∧ Hid (∀ j, j < k → isB (c :: r) (opT j) (opA j) = false) ∧ Below w.heap.size w wr) (fun iv _ => 8 - (intOf iv).toNat)
      case atStart => exact ⟨0, by omega, rfl, fun j hj => by omega, Below.refl _ _⟩
      case round =>
        obtain ⟨k, hk8, rfl, HKk, hbr⟩ := hrel
        by_cases hlt : k < 8
        · have hlt' : (k : Int) < 8 := by omega
          have hk0 : (0 : Int) ≤ (k : Int) := by omega
          obtain ⟨o0, o1, o2⟩ := (HOps.out wr hbr).at k hlt
          obtain ⟨f, fc, hcl⟩ := cloV_one B k
          have HCl : Hid (cloV B k = .func (Fn.func f) #[] fc) := hcl
          rw [hcl] at o2
          have HBa : Hid (Below w.heap.size w (wr.alloc (.cells #[.string (opT k), .int .i64 (opA k), .func (Fn.func f) #[] fc] 77))) := hbr.alloc hbr.size _
          have hbx := heap_alloc_new wr (.cells #[.string (opT k), .int .i64 (opA k), .func (Fn.func f) #[] fc] 77)
          have d0 : (wr.alloc (.cells #[.string (opT k), .int .i64 (opA k), .func (Fn.func f) #[] fc] 77)).cell? ⟨wr.heap.size, 0, none⟩ = some (.string (opT k)) := by rw [cell_of_row _ _ 0 _ 77 (0, 0) hbx]; rfl
          have d1 : (wr.alloc (.cells #[.string (opT k), .int .i64 (opA k), .func (Fn.func f) #[] fc] 77)).cell? ⟨wr.heap.size, 1, none⟩ = some (.int .i64 (opA k)) := by rw [cell_of_row _ _ 1 _ 77 (0, 0) hbx]; rfl
          have d2 : (wr.alloc (.cells #[.string (opT k), .int .i64 (opA k), .func (Fn.func f) #[] fc] 77)).cell? ⟨wr.heap.size, 2, none⟩ = some (.func (Fn.func f) #[] fc) := by rw [cell_of_row _ _ 2 _ 77 (0, 0) hbx]; rfl
          have H75k := H75.out _ HBa.out k
          clear hcl hbx
          have hmk := HNn.out k hlt
          have HN : Hid (∀ j, j < k + 1 → isB (c :: r) (opT j) (opA j) = false) := fun j hj => if e : j = k then by rw [e]; exact hmk else HKk.out j (by omega)
          rw [hmk] at H75k
          clear hmk HCl
          generalize opT k = tx at *
          generalize opA k = ar at *
          go_wp2_with fail
          refine H75k.mono ?_
          rintro e w3 ⟨rfl, hw3⟩
          obtain rfl := hw3
          go_wp2_with fail
          go_roundw
          case rel => exact ⟨k + 1, by omega, by go_num, HN, HBa.out⟩
          case measure => simp [intOf]; omega
        · have hlt' : ¬ ((k : Int) < 8) := by omega
          go_wp2_with fail
          exact bodyPost_ret (v := .tuple #[.int .i64 0, .int .u8 2, .slice none 0 0]) (by simp [results, Tryd.results22, go_sem]) rfl ⟨_, K, rfl, term_nil _ _, HL.out.below hbr, by simp, by simp, hb.trans (hbr.mono hsz), KeepT.of_below hbr⟩
    | @op _ c r _ i nums oo rr _ hk hi hmt hbf hs hok =>
      have HMt : Hid (isB (c :: r) (opT i) (opA i) = true) := hmt
      have HBf : Hid (∀ j, j < i → isB (c :: r) (opT j) (opA j) = false) := hbf
      have HSm : Hid (Sms m d (opA i).toNat r names [] 1 nums oo rr names') := hs
      have HOk : Hid (oo = 1 → (nums.length : Int) = opA i ∧ ∀ x ∈ nums, okI x) := hok
      clear hmt hbf hs hok
      obtain ⟨⟨hlm, htx⟩, hT0⟩ := hT
      have HT : Hid (TermAt w0 v (c :: r)) := ⟨⟨hlm, htx⟩, hT0⟩
      rcases hT0 with ⟨h, _⟩ | ⟨b, ob, cap, rfl, h2, h5, h3, h4⟩
      · cases h
      have p0 : w.cell? ⟨b, ob, none⟩ = some (.int .u8 c.k) := (hb.cell (p := ⟨b, ob, none⟩) h4).trans (by have := (term_cells h3 0 (by simp)).1; simpa using this)
      have hTt := term_tail h3 h4 h2 h5 htx
      have hq : (c.k != 3) = false := by simp [hk]
      have hcap : r.length + 1 ≤ cap := by simpa using h2
      have HW1 : Hid (∀ x ∈ r, wfN (x.vn, x.vk)) := fun x hx => HW.out x (by simp [hx])
      have HOps : Hid (∀ W, Below w.heap.size w W → OpsAt W B g) := fun W hW => (HL.out.below hW).ops
      obtain ⟨M0, n0, nv0, hL0, _⟩ := HL.out
      obtain ⟨_, l1, _, _⟩ := hL0.cells
      clear hL0
      have H75 : Hid (∀ W, Below w.heap.size w W → ∀ k, Calls Tryd.prog 29 #[.slice (some ⟨b, ob, none⟩) (c :: r).length cap, .string (opT k), .int .i64 (opA k)] W fun e w' => e = .returned (.bool (isB (c :: r) (opT k) (opA k))) ∧ w' = W) := fun W hW k => c28 (c :: r) _ (opT k) (opA k) W (HT.out.below (hb.trans (hW.mono hsz)))
      clear hk h3 htx hlm
      unfold maxLen at h5
      obtain ⟨pp, hpp, HTt⟩ : ∃ pp, (if cap = 1 then some (⟨b, ob, none⟩ : Addr) else some ⟨b, ob + 5, none⟩) = pp ∧ Hid (TermAt w0 (.slice pp r.length (cap - 1)) r) := by
        by_cases hc1 : cap = 1
        · subst hc1
          exact ⟨_, if_pos rfl, tail_one hTt⟩
        · exact ⟨_, if_neg hc1, hTt⟩
      have hge : (1 : Int) ≤ (r.length : Int) + 1 := by omega
      obtain ⟨KK, hKK⟩ : ∃ KK, KK = K := ⟨_, rfl⟩
      subst hKK
      clear hTt
      simp only [List.length_cons] at *
      go_enter Tryd.func22, Tryd.ntmps22
      go_wp2_with fail
      go_loopw [30] (fun iv wr => ∃ k : Nat, k ≤ 8 ∧ iv = .int .i64 k ∧ Hid (∀ j, j < k → isB (c :: r) (opT j) (opA j) = false) ∧ Below w.heap.size w wr) (fun iv _ => 8 - (intOf iv).toNat)
      case atStart => exact ⟨0, by omega, rfl, fun j hj => by omega, Below.refl _ _⟩
      case round =>
        obtain ⟨k, hk8, rfl, HKk, hbr⟩ := hrel
        by_cases hlt : k < 8
        · have hlt' : (k : Int) < 8 := by omega
          have hk0 : (0 : Int) ≤ (k : Int) := by omega
          obtain ⟨o0, o1, o2⟩ := (HOps.out wr hbr).at k hlt
          obtain ⟨f, fc, hcl⟩ := cloV_one B k
          have HCl : Hid (cloV B k = .func (Fn.func f) #[] fc) := hcl
          rw [hcl] at o2
          have HBa : Hid (Below w.heap.size w (wr.alloc (.cells #[.string (opT k), .int .i64 (opA k), .func (Fn.func f) #[] fc] 77))) := hbr.alloc hbr.size _
          have hbx := heap_alloc_new wr (.cells #[.string (opT k), .int .i64 (opA k), .func (Fn.func f) #[] fc] 77)
          have d0 : (wr.alloc (.cells #[.string (opT k), .int .i64 (opA k), .func (Fn.func f) #[] fc] 77)).cell? ⟨wr.heap.size, 0, none⟩ = some (.string (opT k)) := by rw [cell_of_row _ _ 0 _ 77 (0, 0) hbx]; rfl
          have d1 : (wr.alloc (.cells #[.string (opT k), .int .i64 (opA k), .func (Fn.func f) #[] fc] 77)).cell? ⟨wr.heap.size, 1, none⟩ = some (.int .i64 (opA k)) := by rw [cell_of_row _ _ 1 _ 77 (0, 0) hbx]; rfl
          have d2 : (wr.alloc (.cells #[.string (opT k), .int .i64 (opA k), .func (Fn.func f) #[] fc] 77)).cell? ⟨wr.heap.size, 2, none⟩ = some (.func (Fn.func f) #[] fc) := by rw [cell_of_row _ _ 2 _ 77 (0, 0) hbx]; rfl
          have H75k := H75.out _ HBa.out k
          clear hcl hbx
          cases hmk : isB (c :: r) (opT k) (opA k)
          · have HN : Hid (∀ j, j < k + 1 → isB (c :: r) (opT j) (opA j) = false) := fun j hj => if e : j = k then by rw [e]; exact hmk else HKk.out j (by omega)
            rw [hmk] at H75k
            clear hmk HCl
            generalize opT k = tx at *
            generalize opA k = ar at *
            go_wp2_with fail
            refine H75k.mono ?_
            rintro e w3 ⟨rfl, hw3⟩
            obtain rfl := hw3
            go_wp2_with fail
            go_roundw
            case rel => exact ⟨k + 1, by omega, by go_num, HN, HBa.out⟩
            case measure => simp [intOf]; omega
          · obtain rfl : k = i := by
              rcases Nat.lt_trichotomy k i with h | h | h
              · rw [HBf.out k h] at hmk; cases hmk
              · exact h
              · rw [HKk.out i h] at HMt; exact absurd HMt.out (by simp)
            rw [hmk] at H75k
            have HUp : Hid (KeepT w (wr.alloc (.cells #[.string (opT k), .int .i64 (opA k), .func (Fn.func f) #[] fc] 77)).drew) := KeepT.of_below (HBa.out.drew)
            have HBx : Hid ((wr.alloc (.cells #[.string (opT k), .int .i64 (opA k), .func (Fn.func f) #[] fc] 77)).drew.heap[wr.heap.size]? = some (.cells #[.string (opT k), .int .i64 (opA k), .func (Fn.func f) #[] fc] 77 (0, 0))) := heap_alloc_new wr _
            have H76 : Hid (∀ W, Below (wr.alloc (.cells #[.string (opT k), .int .i64 (opA k), .func (Fn.func f) #[] fc] 77)).heap.size (wr.alloc (.cells #[.string (opT k), .int .i64 (opA k), .func (Fn.func f) #[] fc] 77)) W → Calls Tryd.prog 30 #[.pointer (some ⟨lb, 0, none⟩), .agg #[.string (opT k), .int .i64 (opA k), .func (Fn.func f) #[] fc], .slice pp r.length (cap - 1)] W (SumPost w0 lb p B g (opN k nums oo) (opO k nums oo) (opR k nums oo rr) names' (KK + r.length) W)) := fun W hW => by
              have hWw : Below w.heap.size w W := HBa.out.trans (hW.mono HBa.out.size)
              have := h76 m w0 lb p B g d HIH.out k hlt r names nums oo rr names' (.slice pp r.length (cap - 1)) W KK HSm.out HOk.out (hb.trans (hWw.mono hsz)) (HL.out.below hWw) HTt.out HW1.out (by omega)
              rw [HCl.out] at this
              exact this
            have hS8 : OpS8 wr.heap.size (opT k) (opA k) (.func (Fn.func f) #[] fc) (wr.alloc (.cells #[.string (opT k), .int .i64 (opA k), .func (Fn.func f) #[] fc] 77)).drew := ⟨d0, d1, d2⟩
            clear hmk HCl
            generalize opN k nums oo = nN at *
            generalize opO k nums oo = nO at *
            generalize opT k = tx at *
            generalize opA k = ar at *
            go_wp2_with fail
            refine H75k.mono ?_
            rintro e w3 ⟨rfl, hw3⟩
            obtain rfl := hw3
            clear H75k d0 d1 d2
            go_wp2_with fail
            refine wp_region_noPanic ?_
            refine wp_region_held_drew (S := fun w' => OpS8 wr.heap.size tx ar (.func (Fn.func f) #[] fc) w') (by kernel_rfl) hS8 (fun hHeld => ?_)
            refine wpAnyH_take (i := 0) (v := ?_) (by simp only [List.getElem?_toArray, List.getElem?_cons_zero]; rfl) (by kernel_rfl) (by kernel_rfl) (by kernel_rfl) (fun _ _ _ h => h) (Or.inl ⟨by rfl, ?_⟩) (by assumption) ?_
            rotate_left
            · (intro w hSw; (try dsimp only at hSw); go_simp <;> with_reducible rfl)
            try simp only [Act.put, List.setIfInBounds_toArray, List.set_cons_zero, List.set_cons_succ]
            refine wpAnyH_take (i := 1) (v := ?_) (by simp only [List.getElem?_toArray, List.getElem?_cons_zero, List.getElem?_cons_succ]; rfl) (by kernel_rfl) (by kernel_rfl) (by kernel_rfl) (fun _ _ _ h => h) (Or.inl ⟨by rfl, ?_⟩) (by assumption) ?_
            rotate_left
            · (intro w hSw; (try dsimp only at hSw); go_simp <;> with_reducible rfl)
            try simp only [Act.put, List.setIfInBounds_toArray, List.set_cons_zero, List.set_cons_succ]
            refine wpAnyH_take (i := 2) (v := ?_) (by simp only [List.getElem?_toArray, List.getElem?_cons_zero, List.getElem?_cons_succ]; rfl) (by kernel_rfl) (by kernel_rfl) (by kernel_rfl) (fun _ _ _ h => h) (Or.inl ⟨by rfl, ?_⟩) (by assumption) ?_
            rotate_left
            · (intro w hSw; (try dsimp only at hSw); go_simp <;> with_reducible rfl)
            try simp only [Act.put, List.setIfInBounds_toArray, List.set_cons_zero, List.set_cons_succ]
            refine wpAnyH_take (i := 3) (v := ?_) (by simp only [List.getElem?_toArray, List.getElem?_cons_zero, List.getElem?_cons_succ]; rfl) (by kernel_rfl) (by kernel_rfl) (by kernel_rfl) (fun _ _ _ h => h) (Or.inl ⟨by rfl, ?_⟩) (by assumption) ?_
            rotate_left
            · (intro w hSw; (try dsimp only at hSw); go_simp <;> with_reducible rfl)
            try simp only [Act.put, List.setIfInBounds_toArray, List.set_cons_zero, List.set_cons_succ]
            refine wpAnyH_ready (rs := [4]) (by kernel_rfl) (by simp) ?_
            refine AllReadyH.cons (by simp only [List.getElem?_toArray, List.getElem?_cons_zero, List.getElem?_cons_succ]; rfl) (fun K hK => ?_) AllReadyH.nil
            go_simp
            go_at_call 30
            refine (H76.out _ (Below.drew (Below.refl _ _))).mono ?_
            rintro e w5 hp5
            have hbx5 := hp5.keep.2 _ _ _ _ HBx.out (by decide) (by decide)
            have HP5 : Hid (SumPost w0 lb p B g nN nO (opR k nums oo rr) names' (KK + (r.length + 1)) w e w5) := SumPost.up hp5 HUp.out (by omega)
            obtain ⟨rv5, K5, rfl, hT5, _⟩ := hp5
            obtain ⟨a5, c5, hf5⟩ := hT5.form
            subst hf5
            clear hT5
            refine hK.out _ _ ?_ (fun hHeld => ?_)
            · exact ⟨by rw [cell_of_row w5 _ 0 _ 77 (0, 0) hbx5]; rfl, by rw [cell_of_row w5 _ 1 _ 77 (0, 0) hbx5]; rfl, by rw [cell_of_row w5 _ 2 _ 77 (0, 0) hbx5]; rfl⟩
            clear hK K
            try simp only [Act.put, List.setIfInBounds_toArray, List.set_cons_zero, List.set_cons_succ]
            refine wpAnyH_take (i := 5) (v := ?_) (by simp only [List.getElem?_toArray, List.getElem?_cons_zero, List.getElem?_cons_succ]; rfl) (by kernel_rfl) (by kernel_rfl) (by kernel_rfl) (fun _ _ _ h => h) (Or.inl ⟨by rfl, ?_⟩) (by assumption) ?_
            rotate_left
            · (intro w hSw; (try dsimp only at hSw); go_simp <;> with_reducible rfl)
            try simp only [Act.put, List.setIfInBounds_toArray, List.set_cons_zero, List.set_cons_succ]
            refine wpAnyH_take (i := 6) (v := ?_) (by simp only [List.getElem?_toArray, List.getElem?_cons_zero, List.getElem?_cons_succ]; rfl) (by kernel_rfl) (by kernel_rfl) (by kernel_rfl) (fun _ _ _ h => h) (Or.inl ⟨by rfl, ?_⟩) (by assumption) ?_
            rotate_left
            · (intro w hSw; (try dsimp only at hSw); go_simp <;> with_reducible rfl)
            try simp only [Act.put, List.setIfInBounds_toArray, List.set_cons_zero, List.set_cons_succ]
            refine wpAnyH_take (i := 7) (v := ?_) (by simp only [List.getElem?_toArray, List.getElem?_cons_zero, List.getElem?_cons_succ]; rfl) (by kernel_rfl) (by kernel_rfl) (by kernel_rfl) (fun _ _ _ h => h) (Or.inl ⟨by rfl, ?_⟩) (by assumption) ?_
            rotate_left
            · (intro w hSw; (try dsimp only at hSw); go_simp <;> with_reducible rfl)
            try simp only [Act.put, List.setIfInBounds_toArray, List.set_cons_zero, List.set_cons_succ]
            refine wpAnyH_take (i := 8) (v := ?_) (by simp only [List.getElem?_toArray, List.getElem?_cons_zero, List.getElem?_cons_succ]; rfl) (by kernel_rfl) (by kernel_rfl) (by kernel_rfl) (fun _ _ _ h => h) (Or.inl ⟨by rfl, ?_⟩) (by assumption) ?_
            rotate_left
            · (intro w hSw; (try dsimp only at hSw); go_simp <;> with_reducible rfl)
            try simp only [Act.put, List.setIfInBounds_toArray, List.set_cons_zero, List.set_cons_succ]
            refine wpAnyH_take (i := 9) (v := ?_) (by simp only [List.getElem?_toArray, List.getElem?_cons_zero, List.getElem?_cons_succ]; rfl) (by kernel_rfl) (by kernel_rfl) (by kernel_rfl) (fun _ _ _ h => h) (Or.inl ⟨by rfl, ?_⟩) (by assumption) ?_
            rotate_left
            · (intro w hSw; (try dsimp only at hSw); go_simp <;> with_reducible rfl)
            try simp only [Act.put, List.setIfInBounds_toArray, List.set_cons_zero, List.set_cons_succ]
            refine wpAnyH_take (i := 10) (v := ?_) (by simp only [List.getElem?_toArray, List.getElem?_cons_zero, List.getElem?_cons_succ]; rfl) (by kernel_rfl) (by kernel_rfl) (by kernel_rfl) (fun _ _ _ h => h) (Or.inl ⟨by rfl, ?_⟩) (by assumption) ?_
            rotate_left
            · (intro w hSw; (try dsimp only at hSw); go_simp <;> with_reducible rfl)
            try simp only [Act.put, List.setIfInBounds_toArray, List.set_cons_zero, List.set_cons_succ]
            refine wpAnyH_done (by kernel_rfl) ?_ _
            refine NoPanic.normal ?_
            clear hHeld
            go_wp2_with fail
            exact bodyPost_ret (v := .tuple #[.int .i64 nN, .int .u8 nO, .slice a5 (opR k nums oo rr).length c5]) (by simp [results, Tryd.results22, go_sem]) rfl HP5.out
        · exact absurd HMt.out (by rw [HKk.out i (by omega)]; simp)
end Go.Proofs.YtaehhophaaipdabDoor
