/- Contract of sum. Contracts of lookBy and Value. Terms with all values in them, in plain lists; sums: each whole term has one, by more values it is the same, with values put in too. How terms lie one behind the other in a row of cells. Contracts of the library function Clone and of the reference's copied. Contract of Args: for every term it returns the arguments of a structure. What the document's sum tells of a term, by derivations; it is what the program's tells. -/
import Derived.Test.YtaehhophaaipdaaGreatDoorQIg
import Derived.Deep.QuietTactic
import Derived.Test.YtaehhophaaipdaaGreatDoorQAg
import Derived.BigQuiet
import Derived.Test.YtaehhophaaipdaaGreatDoorQDg
import Derived.Test.YtaehhophaaipdaaGreatDoorRAg
import Derived.Test.YtaehhophaaipdaaGreatDoorQBg
import Derived.Lib.SliceRun
namespace Go.Proofs.YtaehhophaaipdaaGreatDoor
open Go.RowKit
attribute [local go_sem ↓] Go.wp_at_zero Go.wp_at_succ
theorem term_head {w : World} {b o cap : Nat} {c : C} {r : List C} (h : w.rangeAt b o (flat (c :: r))) (hb : b < w.heap.size) (hl : (c :: r).length ≤ cap) (hc : cap ≤ maxLen) (ht : ∀ x ∈ c :: r, x.t.size ≤ maxLen) : TermAt w (.slice (some ⟨b, o, none⟩) 1 cap) [c] := by
 refine ⟨⟨by simp [maxLen], fun x hx => ht x (by simp at hx; simp [hx])⟩, .inr ⟨b, o, cap, rfl, by simp at hl ⊢; omega, hc, fun j u hu => h j u ?_, hb⟩⟩
 have e : flat (c :: r) = flat [c] ++ flat r := by simp [flat]
 rw [e, List.getElem?_append_left (List.getElem?_eq_some_iff.1 hu).1]
 exact hu
theorem term_tail {w : World} {b o cap : Nat} {c : C} {r : List C} (h : w.rangeAt b o (flat (c :: r))) (hb : b < w.heap.size) (hl : (c :: r).length ≤ cap) (hc : cap ≤ maxLen) (ht : ∀ x ∈ c :: r, x.t.size ≤ maxLen) : TermAt w (.slice (some ⟨b, o + 5, none⟩) r.length (cap - 1)) r := by
 refine ⟨⟨by simp at hl; omega, fun x hx => ht x (by simp [hx])⟩, .inr ⟨b, o + 5, cap - 1, rfl, by simp at hl; omega, by omega, fun j u hu => ?_, hb⟩⟩
 have := h (5 + j) u (by
  have e : flat (c :: r) = c.vals ++ flat r := by simp [flat]
  have hl5 : c.vals.length = 5 := rfl
  rw [e, List.getElem?_append_right (by omega), hl5, Nat.add_sub_cancel_left]
  exact hu)
 rwa [show o + 5 + j = o + (5 + j) by omega]
theorem SumPost.up {w0 : World} {lb : Nat} {p : Value} {B g : Nat} {n o : Int} {rest : List C} {names' : List Nm} {T T' : Nat} {wi w : World} {e : Ending} {w' : World} (h : SumPost w0 lb p B g n o rest names' T wi e w') (hk : KeepT w wi) (hT : T ≤ T') : SumPost w0 lb p B g n o rest names' T' w e w' := by
 obtain ⟨rv, K', h1, h2, h3, h4, h5, h6, h7⟩ := h
 exact ⟨rv, K', h1, h2, h3, Nat.le_trans h4 hT, h5, h6, hk.trans h7⟩
theorem SumPost.keep {w0 : World} {lb : Nat} {p : Value} {B g : Nat} {n o : Int} {rest : List C} {names' : List Nm} {T : Nat} {wi : World} {e : Ending} {w' : World} (h : SumPost w0 lb p B g n o rest names' T wi e w') : KeepT wi w' := by
 obtain ⟨rv, K', h1, h2, h3, h4, h5, h6, h7⟩ := h
 exact h7
theorem tail_one {w : World} {r : List C} {b ob : Nat} (h : TermAt w (.slice (some ⟨b, ob + 5, none⟩) r.length 0) r) : TermAt w (.slice (some ⟨b, ob, none⟩) r.length 0) r := by
 obtain ⟨h0, h⟩ := h
 have hr : r = [] := by
  rcases h with ⟨h, _⟩ | ⟨b', o', cap', e, h2, _⟩
  ·exact h
  ·simp only [Value.slice.injEq] at e
   exact List.eq_nil_of_length_eq_zero (by omega)
 subst hr
 exact term_nil _ _
abbrev OpS8 (bx : Nat) (tx : ByteArray) (ar : Int) (cv : Value) (w' : World) : Prop := w'.cell? ⟨bx, 0, none⟩ = some (.string tx) ∧ w'.cell? ⟨bx, 1, none⟩ = some (.int .i64 ar) ∧ w'.cell? ⟨bx, 2, none⟩ = some cv
set_option maxRecDepth 100000 in
set_option maxHeartbeats 8000000 in
theorem h62 (m : Hp) (hm : HpOk m) (w0 : World) (lb : Nat) (p : Value) (B g : Nat) (hp : HpV w0 p m) : ∀ d, SumC m w0 lb p B g d := by
 intro d
 induction d with
 | zero =>
  intro cells names n o rest names' v w K hs
  cases hs
 | succ d ih =>
  intro cells names n o rest names' v w K hs hb hL hT hW hK
  have HP : Hid (HpV w0 p m) := hp
  have HM : Hid (HpOk m) := hm
  have HIH : Hid (SumC m w0 lb p B g d) := ih
  have HL : Hid (Lk w w0.heap.size lb p B g names K) := hL
  have HW : Hid (∀ c ∈ cells, wfN (c.vn, c.vk)) := hW
  have hsz := hb.size
  clear hp hm ih hL hW
  cases hs with
  | leaf hk hf =>
   rename_i c e r'
   obtain ⟨⟨hlm, htx⟩, hT⟩ := hT
   rcases hT with ⟨h, _⟩ | ⟨b, ob, cap, rfl, h2, h5, h3, h4⟩
   ·cases h
   have p0 : w.cell? ⟨b, ob, none⟩ = some (.int .u8 c.k) := (hb.cell (p := ⟨b, ob, none⟩) h4).trans (by have := (term_cells h3 0 (by simp)).1; simpa using this)
   have hTt := term_tail h3 h4 h2 h5 htx
   have HTh := term_head h3 h4 h2 h5 htx
   have H74 := h74 m HM.out w0.heap.size lb p B g c (.slice (some ⟨b, ob, none⟩) 1 cap) names K w HL.out (HP.out.below hb) (HTh.below hb) (HW.out c (by simp)) (by simp at hK; omega) hsz
   have HF : Hid (IsFol m [c] (e :: r')) := hf
   have hq : (c.k != 3) = true := by simpa using hk
   have hcap : rest.length + 1 ≤ cap := by simpa using h2
   have HW1 : Hid (∀ x ∈ rest, wfN (x.vn, x.vk)) := fun x hx => HW.out x (by simp [hx])
   clear hk hf h3 HTh htx hlm
   simp only [List.length_cons] at *
   unfold maxLen at h5
   by_cases hc1 : cap = 1
   ·subst hc1
    have HTt : Hid (TermAt w0 (.slice (some ⟨b, ob, none⟩) rest.length 0) rest) := tail_one hTt
    clear hTt
    obtain rfl : rest = [] := List.eq_nil_of_length_eq_zero (by omega)
    simp only [List.length_nil] at *
    go_enter Tryz.func34, Tryz.ntmps34
    go_wp2_with fail
    refine H74.mono ?_
    rintro e1 w1 ⟨d1, r1, rfl, hF1, hL1, hb1, hk1⟩
    have hde : d1 = e := by
     have := hF1.uniq HF.out
     simp at this
     exact this.1
    subst hde
    have HP1 : Hid (Lk w1 w0.heap.size lb p B g (numS d1 names).2.2 (K + 1) ∧ Below w0.heap.size w0 w1 ∧ KeepT w w1) := ⟨hL1, hb.trans hb1, hk1⟩
    clear hF1 hL1 hb1 hk1 H74
    generalize (numS d1 names).1 = nn at *
    generalize (numS d1 names).2.1 = oo at *
    go_wp2_with fail
    go_quiet (fail)
    go_wp2_with fail
    refine bodyPost_ret (v := .tuple #[.int .i64 nn, .int .u8 oo, .slice (some ⟨b, ob, none⟩) 0 0]) (by simp [results, Tryz.results34, go_sem]) rfl ⟨_, K + 1, rfl, HTt.out, HP1.out.1.below (below_drewN (Below.refl _ _) nq), ?_, HW1.out, below_drewN HP1.out.2.1 nq, HP1.out.2.2.trans (KeepT.of_below (below_drewN (Below.refl _ _) nq))⟩
    first
     | omega
     | (simp; done)
     | (simp; omega)
   ·have HTt : Hid (TermAt w0 (.slice (some ⟨b, ob + 5, none⟩) rest.length (cap - 1)) rest) := hTt
    clear hTt
    go_enter Tryz.func34, Tryz.ntmps34
    go_wp2_with fail
    refine H74.mono ?_
    rintro e1 w1 ⟨d1, r1, rfl, hF1, hL1, hb1, hk1⟩
    have hde : d1 = e := by
     have := hF1.uniq HF.out
     simp at this
     exact this.1
    subst hde
    have HP1 : Hid (Lk w1 w0.heap.size lb p B g (numS d1 names).2.2 (K + 1) ∧ Below w0.heap.size w0 w1 ∧ KeepT w w1) := ⟨hL1, hb.trans hb1, hk1⟩
    clear hF1 hL1 hb1 hk1 H74
    generalize (numS d1 names).1 = nn at *
    generalize (numS d1 names).2.1 = oo at *
    go_wp2_with fail
    go_quiet (fail)
    go_wp2_with fail
    refine bodyPost_ret (v := .tuple #[.int .i64 nn, .int .u8 oo, .slice (some ⟨b, ob + 5, none⟩) rest.length (cap - 1)]) (by simp [results, Tryz.results34, go_sem]) rfl ⟨_, K + 1, rfl, HTt.out, HP1.out.1.below (below_drewN (Below.refl _ _) nq), ?_, HW1.out, below_drewN HP1.out.2.1 nq, HP1.out.2.2.trans (KeepT.of_below (below_drewN (Below.refl _ _) nq))⟩
    first
     | omega
     | (simp; done)
     | (simp; omega)
  | @none _ c r _ hk hn =>
   have HNn : Hid (∀ i, i < 8 → isB (c :: r) (opT i) (opA i) = false) := hn
   clear hn
   obtain ⟨⟨hlm, htx⟩, hT0⟩ := hT
   have HT : Hid (TermAt w0 v (c :: r)) := ⟨⟨hlm, htx⟩, hT0⟩
   rcases hT0 with ⟨h, _⟩ | ⟨b, ob, cap, rfl, h2, h5, h3, h4⟩
   ·cases h
   have p0 : w.cell? ⟨b, ob, none⟩ = some (.int .u8 c.k) := (hb.cell (p := ⟨b, ob, none⟩) h4).trans (by have := (term_cells h3 0 (by simp)).1; simpa using this)
   have hTt := term_tail h3 h4 h2 h5 htx
   have hq : (c.k != 3) = false := by simp [hk]
   have hcap : r.length + 1 ≤ cap := by simpa using h2
   have HW1 : Hid (∀ x ∈ r, wfN (x.vn, x.vk)) := fun x hx => HW.out x (by simp [hx])
   have HOps : Hid (∀ W, Below w.heap.size w W → OpsAt W B g) := fun W hW => (HL.out.below hW).ops
   obtain ⟨M0, n0, nv0, hL0, _⟩ := HL.out
   obtain ⟨_, l1, _, _⟩ := hL0.cells
   clear hL0
   have H75 : Hid (∀ W, Below w.heap.size w W → ∀ k, Calls Tryz.prog 67 #[.slice (some ⟨b, ob, none⟩) (c :: r).length cap, .string (opT k), .int .i64 (opA k)] W fun e w' => e = .returned (.bool (isB (c :: r) (opT k) (opA k))) ∧ w' = W) := fun W hW k => c28 (c :: r) _ (opT k) (opA k) W (HT.out.below (hb.trans (hW.mono hsz)))
   clear hk h3 htx hlm
   unfold maxLen at h5
   clear hTt
   simp only [List.length_cons] at *
   go_enter Tryz.func34, Tryz.ntmps34
   go_wp2_with fail
   go_loopw [30] (fun iv wr => ∃ k : Nat, k ≤ 8 ∧ iv = .int .i64 k ∧ Hid (∀ j, j < k → isB (c :: r) (opT j) (opA j) = false) ∧ Below w.heap.size w wr) (fun iv _ => 8 - (intOf iv).toNat)
   case atStart => exact ⟨0, by omega, rfl, fun j hj => by omega, Below.refl _ _⟩
   case round =>
    obtain ⟨k, hk8, rfl, HKk, hbr⟩ := hrel
    by_cases hlt : k < 8
    ·have hlt' : (k : Int) < 8 := by omega
     have hk0 : (0 : Int) ≤ (k : Int) := by omega
     obtain ⟨o0, o1, o2⟩ := (HOps.out wr hbr).at k hlt
     obtain ⟨f, fc, hcl⟩ := cloV_one B k
     have HCl : Hid (cloV B k = .func (Fn.func f) #[] fc) := hcl
     rw [hcl] at o2
     have HBa : Hid (Below w.heap.size w (wr.alloc (.cells #[.string (opT k), .int .i64 (opA k), .func (Fn.func f) #[] fc] 113))) := hbr.alloc hbr.size _
     have hbx := heap_alloc_new wr (.cells #[.string (opT k), .int .i64 (opA k), .func (Fn.func f) #[] fc] 113)
     have d0 : (wr.alloc (.cells #[.string (opT k), .int .i64 (opA k), .func (Fn.func f) #[] fc] 113)).cell? ⟨wr.heap.size, 0, none⟩ = some (.string (opT k)) := by rw [cell_of_row _ _ 0 _ 113 (0, 0) hbx]; rfl
     have d1 : (wr.alloc (.cells #[.string (opT k), .int .i64 (opA k), .func (Fn.func f) #[] fc] 113)).cell? ⟨wr.heap.size, 1, none⟩ = some (.int .i64 (opA k)) := by rw [cell_of_row _ _ 1 _ 113 (0, 0) hbx]; rfl
     have d2 : (wr.alloc (.cells #[.string (opT k), .int .i64 (opA k), .func (Fn.func f) #[] fc] 113)).cell? ⟨wr.heap.size, 2, none⟩ = some (.func (Fn.func f) #[] fc) := by rw [cell_of_row _ _ 2 _ 113 (0, 0) hbx]; rfl
     have H75k := H75.out _ HBa.out k
     clear hcl hbx
     have hmk := HNn.out k hlt
     have HN : Hid (∀ j, j < k + 1 → isB (c :: r) (opT j) (opA j) = false) := fun j hj => if e : j = k then by rw [e]; exact hmk else HKk.out j (by omega)
     rw [hmk] at H75k
     clear hmk HCl
     generalize opT k = tx at *
     generalize opA k = ar at *
     go_wp2_with fail
     refine H75k.mono ?_
     rintro e w3 ⟨rfl, hw3⟩
     obtain rfl := hw3
     go_wp2_with fail
     go_roundw
     case rel => exact ⟨k + 1, by omega, by go_num, HN, HBa.out⟩
     case measure => simp [intOf]; omega
    ·have hlt' : ¬ ((k : Int) < 8) := by omega
     go_wp2_with fail
     exact bodyPost_ret (v := .tuple #[.int .i64 0, .int .u8 2, .slice none 0 0]) (by simp [results, Tryz.results34, go_sem]) rfl ⟨_, K, rfl, term_nil _ _, HL.out.below hbr, by simp, by simp, hb.trans (hbr.mono hsz), KeepT.of_below hbr⟩
  | @op _ c r _ i nums oo rr _ hk hi hmt hbf hs hok =>
   have HMt : Hid (isB (c :: r) (opT i) (opA i) = true) := hmt
   have HBf : Hid (∀ j, j < i → isB (c :: r) (opT j) (opA j) = false) := hbf
   have HSm : Hid (Sms m d (opA i).toNat r names [] 1 nums oo rr names') := hs
   have HOk : Hid (oo = 1 → (nums.length : Int) = opA i ∧ ∀ x ∈ nums, okI x) := hok
   clear hmt hbf hs hok
   obtain ⟨⟨hlm, htx⟩, hT0⟩ := hT
   have HT : Hid (TermAt w0 v (c :: r)) := ⟨⟨hlm, htx⟩, hT0⟩
   rcases hT0 with ⟨h, _⟩ | ⟨b, ob, cap, rfl, h2, h5, h3, h4⟩
   ·cases h
   have p0 : w.cell? ⟨b, ob, none⟩ = some (.int .u8 c.k) := (hb.cell (p := ⟨b, ob, none⟩) h4).trans (by have := (term_cells h3 0 (by simp)).1; simpa using this)
   have hTt := term_tail h3 h4 h2 h5 htx
   have hq : (c.k != 3) = false := by simp [hk]
   have hcap : r.length + 1 ≤ cap := by simpa using h2
   have HW1 : Hid (∀ x ∈ r, wfN (x.vn, x.vk)) := fun x hx => HW.out x (by simp [hx])
   have HOps : Hid (∀ W, Below w.heap.size w W → OpsAt W B g) := fun W hW => (HL.out.below hW).ops
   obtain ⟨M0, n0, nv0, hL0, _⟩ := HL.out
   obtain ⟨_, l1, _, _⟩ := hL0.cells
   clear hL0
   have H75 : Hid (∀ W, Below w.heap.size w W → ∀ k, Calls Tryz.prog 67 #[.slice (some ⟨b, ob, none⟩) (c :: r).length cap, .string (opT k), .int .i64 (opA k)] W fun e w' => e = .returned (.bool (isB (c :: r) (opT k) (opA k))) ∧ w' = W) := fun W hW k => c28 (c :: r) _ (opT k) (opA k) W (HT.out.below (hb.trans (hW.mono hsz)))
   clear hk h3 htx hlm
   unfold maxLen at h5
   obtain ⟨pp, hpp, HTt⟩ : ∃ pp, (if cap = 1 then some (⟨b, ob, none⟩ : Addr) else some ⟨b, ob + 5, none⟩) = pp ∧ Hid (TermAt w0 (.slice pp r.length (cap - 1)) r) := by
    by_cases hc1 : cap = 1
    ·subst hc1
     exact ⟨_, if_pos rfl, tail_one hTt⟩
    ·exact ⟨_, if_neg hc1, hTt⟩
   have hge : (1 : Int) ≤ (r.length : Int) + 1 := by omega
   obtain ⟨KK, hKK⟩ : ∃ KK, KK = K := ⟨_, rfl⟩
   subst hKK
   clear hTt
   simp only [List.length_cons] at *
   go_enter Tryz.func34, Tryz.ntmps34
   go_wp2_with fail
   go_loopw [30] (fun iv wr => ∃ k : Nat, k ≤ 8 ∧ iv = .int .i64 k ∧ Hid (∀ j, j < k → isB (c :: r) (opT j) (opA j) = false) ∧ Below w.heap.size w wr) (fun iv _ => 8 - (intOf iv).toNat)
   case atStart => exact ⟨0, by omega, rfl, fun j hj => by omega, Below.refl _ _⟩
   case round =>
    obtain ⟨k, hk8, rfl, HKk, hbr⟩ := hrel
    by_cases hlt : k < 8
    ·have hlt' : (k : Int) < 8 := by omega
     have hk0 : (0 : Int) ≤ (k : Int) := by omega
     obtain ⟨o0, o1, o2⟩ := (HOps.out wr hbr).at k hlt
     obtain ⟨f, fc, hcl⟩ := cloV_one B k
     have HCl : Hid (cloV B k = .func (Fn.func f) #[] fc) := hcl
     rw [hcl] at o2
     have HBa : Hid (Below w.heap.size w (wr.alloc (.cells #[.string (opT k), .int .i64 (opA k), .func (Fn.func f) #[] fc] 113))) := hbr.alloc hbr.size _
     have hbx := heap_alloc_new wr (.cells #[.string (opT k), .int .i64 (opA k), .func (Fn.func f) #[] fc] 113)
     have d0 : (wr.alloc (.cells #[.string (opT k), .int .i64 (opA k), .func (Fn.func f) #[] fc] 113)).cell? ⟨wr.heap.size, 0, none⟩ = some (.string (opT k)) := by rw [cell_of_row _ _ 0 _ 113 (0, 0) hbx]; rfl
     have d1 : (wr.alloc (.cells #[.string (opT k), .int .i64 (opA k), .func (Fn.func f) #[] fc] 113)).cell? ⟨wr.heap.size, 1, none⟩ = some (.int .i64 (opA k)) := by rw [cell_of_row _ _ 1 _ 113 (0, 0) hbx]; rfl
     have d2 : (wr.alloc (.cells #[.string (opT k), .int .i64 (opA k), .func (Fn.func f) #[] fc] 113)).cell? ⟨wr.heap.size, 2, none⟩ = some (.func (Fn.func f) #[] fc) := by rw [cell_of_row _ _ 2 _ 113 (0, 0) hbx]; rfl
     have H75k := H75.out _ HBa.out k
     clear hcl hbx
     cases hmk : isB (c :: r) (opT k) (opA k)
     ·have HN : Hid (∀ j, j < k + 1 → isB (c :: r) (opT j) (opA j) = false) := fun j hj => if e : j = k then by rw [e]; exact hmk else HKk.out j (by omega)
      rw [hmk] at H75k
      clear hmk HCl
      generalize opT k = tx at *
      generalize opA k = ar at *
      go_wp2_with fail
      refine H75k.mono ?_
      rintro e w3 ⟨rfl, hw3⟩
      obtain rfl := hw3
      go_wp2_with fail
      go_roundw
      case rel => exact ⟨k + 1, by omega, by go_num, HN, HBa.out⟩
      case measure => simp [intOf]; omega
     ·obtain rfl : k = i := by
       rcases Nat.lt_trichotomy k i with h | h | h
       ·rw [HBf.out k h] at hmk; cases hmk
       ·exact h
       ·rw [HKk.out i h] at HMt; exact absurd HMt.out (by simp)
      rw [hmk] at H75k
      have HUp : Hid (KeepT w (wr.alloc (.cells #[.string (opT k), .int .i64 (opA k), .func (Fn.func f) #[] fc] 113)).drew) := KeepT.of_below (HBa.out.drew)
      have HBx : Hid ((wr.alloc (.cells #[.string (opT k), .int .i64 (opA k), .func (Fn.func f) #[] fc] 113)).drew.heap[wr.heap.size]? = some (.cells #[.string (opT k), .int .i64 (opA k), .func (Fn.func f) #[] fc] 113 (0, 0))) := heap_alloc_new wr _
      have H76 : Hid (∀ W, Below (wr.alloc (.cells #[.string (opT k), .int .i64 (opA k), .func (Fn.func f) #[] fc] 113)).heap.size (wr.alloc (.cells #[.string (opT k), .int .i64 (opA k), .func (Fn.func f) #[] fc] 113)) W → Calls Tryz.prog 68 #[.pointer (some ⟨lb, 0, none⟩), .agg #[.string (opT k), .int .i64 (opA k), .func (Fn.func f) #[] fc], .slice pp r.length (cap - 1)] W (SumPost w0 lb p B g (opN k nums oo) (opO k nums oo) (opR k nums oo rr) names' (KK + r.length) W)) := fun W hW => by
       have hWw : Below w.heap.size w W := HBa.out.trans (hW.mono HBa.out.size)
       have := h76 m w0 lb p B g d HIH.out k hlt r names nums oo rr names' (.slice pp r.length (cap - 1)) W KK HSm.out HOk.out (hb.trans (hWw.mono hsz)) (HL.out.below hWw) HTt.out HW1.out (by omega)
       rw [HCl.out] at this
       exact this
      have hS8 : OpS8 wr.heap.size (opT k) (opA k) (.func (Fn.func f) #[] fc) (wr.alloc (.cells #[.string (opT k), .int .i64 (opA k), .func (Fn.func f) #[] fc] 113)).drew := ⟨d0, d1, d2⟩
      clear hmk HCl
      generalize opN k nums oo = nN at *
      generalize opO k nums oo = nO at *
      generalize opT k = tx at *
      generalize opA k = ar at *
      go_wp2_with fail
      refine H75k.mono ?_
      rintro e w3 ⟨rfl, hw3⟩
      obtain rfl := hw3
      clear H75k d0 d1 d2
      go_wp2_with fail
      refine wp_region_noPanic ?_
      refine wp_region_held_drew (S := fun w' => OpS8 wr.heap.size tx ar (.func (Fn.func f) #[] fc) w') (by kernel_rfl) hS8 (fun hHeld => ?_)
      refine wpAnyH_take (i := 0) (v := ?_) (by simp only [List.getElem?_toArray, List.getElem?_cons_zero]; rfl) (by kernel_rfl) (by kernel_rfl) (by kernel_rfl) (fun _ _ _ h => h) (Or.inl ⟨by rfl, ?_⟩) (by assumption) ?_
      rotate_left
      ·(intro w hSw; (try dsimp only at hSw); go_simp <;> with_reducible rfl)
      try simp only [Act.put, List.setIfInBounds_toArray, List.set_cons_zero, List.set_cons_succ]
      refine wpAnyH_take (i := 1) (v := ?_) (by simp only [List.getElem?_toArray, List.getElem?_cons_zero, List.getElem?_cons_succ]; rfl) (by kernel_rfl) (by kernel_rfl) (by kernel_rfl) (fun _ _ _ h => h) (Or.inl ⟨by rfl, ?_⟩) (by assumption) ?_
      rotate_left
      ·(intro w hSw; (try dsimp only at hSw); go_simp <;> with_reducible rfl)
      try simp only [Act.put, List.setIfInBounds_toArray, List.set_cons_zero, List.set_cons_succ]
      refine wpAnyH_take (i := 2) (v := ?_) (by simp only [List.getElem?_toArray, List.getElem?_cons_zero, List.getElem?_cons_succ]; rfl) (by kernel_rfl) (by kernel_rfl) (by kernel_rfl) (fun _ _ _ h => h) (Or.inl ⟨by rfl, ?_⟩) (by assumption) ?_
      rotate_left
      ·(intro w hSw; (try dsimp only at hSw); go_simp <;> with_reducible rfl)
      try simp only [Act.put, List.setIfInBounds_toArray, List.set_cons_zero, List.set_cons_succ]
      refine wpAnyH_take (i := 3) (v := ?_) (by simp only [List.getElem?_toArray, List.getElem?_cons_zero, List.getElem?_cons_succ]; rfl) (by kernel_rfl) (by kernel_rfl) (by kernel_rfl) (fun _ _ _ h => h) (Or.inl ⟨by rfl, ?_⟩) (by assumption) ?_
      rotate_left
      ·(intro w hSw; (try dsimp only at hSw); go_simp <;> with_reducible rfl)
      try simp only [Act.put, List.setIfInBounds_toArray, List.set_cons_zero, List.set_cons_succ]
      refine wpAnyH_ready (rs := [4]) (by kernel_rfl) (by simp) ?_
      refine AllReadyH.cons (by simp only [List.getElem?_toArray, List.getElem?_cons_zero, List.getElem?_cons_succ]; rfl) (fun K hK => ?_) AllReadyH.nil
      go_simp
      go_at_call 68
      refine (H76.out _ (Below.drew (Below.refl _ _))).mono ?_
      rintro e w5 hp5
      have hbx5 := hp5.keep.2 _ _ _ _ HBx.out (by decide) (by decide)
      have HP5 : Hid (SumPost w0 lb p B g nN nO (opR k nums oo rr) names' (KK + (r.length + 1)) w e w5) := SumPost.up hp5 HUp.out (by omega)
      obtain ⟨rv5, K5, rfl, hT5, _⟩ := hp5
      obtain ⟨a5, c5, hf5⟩ := hT5.form
      subst hf5
      clear hT5
      refine hK.out _ _ ?_ (fun hHeld => ?_)
      ·exact ⟨by rw [cell_of_row w5 _ 0 _ 113 (0, 0) hbx5]; rfl, by rw [cell_of_row w5 _ 1 _ 113 (0, 0) hbx5]; rfl, by rw [cell_of_row w5 _ 2 _ 113 (0, 0) hbx5]; rfl⟩
      clear hK K
      try simp only [Act.put, List.setIfInBounds_toArray, List.set_cons_zero, List.set_cons_succ]
      refine wpAnyH_take (i := 5) (v := ?_) (by simp only [List.getElem?_toArray, List.getElem?_cons_zero, List.getElem?_cons_succ]; rfl) (by kernel_rfl) (by kernel_rfl) (by kernel_rfl) (fun _ _ _ h => h) (Or.inl ⟨by rfl, ?_⟩) (by assumption) ?_
      rotate_left
      ·(intro w hSw; (try dsimp only at hSw); go_simp <;> with_reducible rfl)
      try simp only [Act.put, List.setIfInBounds_toArray, List.set_cons_zero, List.set_cons_succ]
      refine wpAnyH_take (i := 6) (v := ?_) (by simp only [List.getElem?_toArray, List.getElem?_cons_zero, List.getElem?_cons_succ]; rfl) (by kernel_rfl) (by kernel_rfl) (by kernel_rfl) (fun _ _ _ h => h) (Or.inl ⟨by rfl, ?_⟩) (by assumption) ?_
      rotate_left
      ·(intro w hSw; (try dsimp only at hSw); go_simp <;> with_reducible rfl)
      try simp only [Act.put, List.setIfInBounds_toArray, List.set_cons_zero, List.set_cons_succ]
      refine wpAnyH_take (i := 7) (v := ?_) (by simp only [List.getElem?_toArray, List.getElem?_cons_zero, List.getElem?_cons_succ]; rfl) (by kernel_rfl) (by kernel_rfl) (by kernel_rfl) (fun _ _ _ h => h) (Or.inl ⟨by rfl, ?_⟩) (by assumption) ?_
      rotate_left
      ·(intro w hSw; (try dsimp only at hSw); go_simp <;> with_reducible rfl)
      try simp only [Act.put, List.setIfInBounds_toArray, List.set_cons_zero, List.set_cons_succ]
      refine wpAnyH_take (i := 8) (v := ?_) (by simp only [List.getElem?_toArray, List.getElem?_cons_zero, List.getElem?_cons_succ]; rfl) (by kernel_rfl) (by kernel_rfl) (by kernel_rfl) (fun _ _ _ h => h) (Or.inl ⟨by rfl, ?_⟩) (by assumption) ?_
      rotate_left
      ·(intro w hSw; (try dsimp only at hSw); go_simp <;> with_reducible rfl)
      try simp only [Act.put, List.setIfInBounds_toArray, List.set_cons_zero, List.set_cons_succ]
      refine wpAnyH_take (i := 9) (v := ?_) (by simp only [List.getElem?_toArray, List.getElem?_cons_zero, List.getElem?_cons_succ]; rfl) (by kernel_rfl) (by kernel_rfl) (by kernel_rfl) (fun _ _ _ h => h) (Or.inl ⟨by rfl, ?_⟩) (by assumption) ?_
      rotate_left
      ·(intro w hSw; (try dsimp only at hSw); go_simp <;> with_reducible rfl)
      try simp only [Act.put, List.setIfInBounds_toArray, List.set_cons_zero, List.set_cons_succ]
      refine wpAnyH_take (i := 10) (v := ?_) (by simp only [List.getElem?_toArray, List.getElem?_cons_zero, List.getElem?_cons_succ]; rfl) (by kernel_rfl) (by kernel_rfl) (by kernel_rfl) (fun _ _ _ h => h) (Or.inl ⟨by rfl, ?_⟩) (by assumption) ?_
      rotate_left
      ·(intro w hSw; (try dsimp only at hSw); go_simp <;> with_reducible rfl)
      try simp only [Act.put, List.setIfInBounds_toArray, List.set_cons_zero, List.set_cons_succ]
      refine wpAnyH_done (by kernel_rfl) ?_ _
      refine NoPanic.normal ?_
      clear hHeld
      go_wp2_with fail
      exact bodyPost_ret (v := .tuple #[.int .i64 nN, .int .u8 nO, .slice a5 (opR k nums oo rr).length c5]) (by simp [results, Tryz.results34, go_sem]) rfl HP5.out
    ·exact absurd HMt.out (by rw [HKk.out i (by omega)]; simp)
end Go.Proofs.YtaehhophaaipdaaGreatDoor

namespace Go.Proofs.YtaehhophaaipdaaGreatDoor
open Go.RowKit
attribute [local go_sem ↓] Go.wp_at_zero Go.wp_at_succ
theorem Lk.made (w : World) (p : Value) (B g base : Nat) (ho : OpsAt w B g) (hb : base ≤ w.heap.size) : Lk ((w.alloc (.map #[] 0)).alloc (.cells #[p, .slice (some ⟨g, 0, none⟩) 8 8, .slice none 0 0, .map (some w.heap.size)] 85)) base (w.heap.size + 1) p B g [] 0 := by
 have hB : Below w.heap.size w ((w.alloc (.map #[] 0)).alloc (.cells #[p, .slice (some ⟨g, 0, none⟩) 8 8, .slice none 0 0, .map (some w.heap.size)] 85)) := ((Below.refl _ w).alloc (Nat.le_refl _) _).alloc (by simp) _
 refine ⟨w.heap.size, 0, .slice none 0 0, ⟨?_, by omega, hb, ho.below hB, ⟨rfl, .inl ⟨rfl, rfl⟩⟩, ?_, by simp⟩, Nat.le_refl _, Nat.le_refl _⟩
 ·have := heap_alloc_new (w.alloc (.map #[] 0)) (.cells #[p, .slice (some ⟨g, 0, none⟩) 8 8, .slice none 0 0, .map (some w.heap.size)] 85)
  simpa using this
 ·exact (World.ownsMap_made w Tryz.prog 60 (unitElem (H := Unit))).alloc _
set_option maxRecDepth 100000 in
theorem h61 (a : Option Addr) (base : Nat) (w : World) (hw : base ≤ w.heap.size) : Calls Tryz.prog 33 #[.pointer a] w fun e w' => ∃ lb B g, e = .returned (.pointer (some ⟨lb, 0, none⟩)) ∧ Lk w' base lb (.pointer a) B g [] 0 ∧ Below w.heap.size w w' := by
 have hmm := @run_makeMap Tryz.prog
 go_enter Tryz.func33, Tryz.ntmps33
 go_wp2_with fail
 refine (h36 w).mono ?_
 rintro e w1 ⟨rfl, ho, hb⟩
 have HB : Hid (Below w.heap.size w ((w1.alloc (.map #[] 0)).alloc (.cells #[.pointer a, .slice (some ⟨w.heap.size + 7, 0, none⟩) 8 8, .slice none 0 0, .map (some w1.heap.size)] 85))) := (hb.alloc hb.size _).alloc (by have := hb.size; simp; omega) _
 have HL : Hid (Lk ((w1.alloc (.map #[] 0)).alloc (.cells #[.pointer a, .slice (some ⟨w.heap.size + 7, 0, none⟩) 8 8, .slice none 0 0, .map (some w1.heap.size)] 85)) base (w1.heap.size + 1) (.pointer a) w.heap.size (w.heap.size + 7) [] 0) := Lk.made w1 _ _ _ _ ho (Nat.le_trans hw hb.size)
 clear ho
 go_wp2_with fail
 exact bodyPost_ret (v := .pointer (some ⟨w1.heap.size + 1, 0, none⟩)) (by simp [results, Tryz.results33, go_sem]) rfl ⟨_, _, _, rfl, HL.out, HB.out⟩
/-- A row of names that a call told. -/
def NamesR (w : World) (v : Value) (ns : List Nm) : Prop := ∃ base, w.ownsRow base 60 2 v ns.length (flatN ns)
def valN (n o : Int) : Int := if o = 2 then 0 else n
def valM (o : Int) (names : List Nm) : List Nm := if o = 2 then [] else names
/-- What a call of Value tells. -/
def ValPost (n o : Int) (names : List Nm) (w : World) (e : Ending) (w' : World) : Prop := ∃ nv, e = .returned (.tuple #[.int .i64 n, .int .u8 o, nv]) ∧ NamesR w' nv names ∧ Below w.heap.size w w'
set_option maxRecDepth 100000 in
set_option maxHeartbeats 4000000 in
theorem h39 (m : Hp) (hm : HpOk m) (a : Option Addr) (cells : List C) (v : Value) (w : World) (d : Nat) (n o : Int) (rest : List C) (names : List Nm) (hT : TermAt w v cells) (hS : Signs w) (hr : rightB cells = true) (hp : HpV w (.pointer a) m) (hs : Sm m d cells [] n o rest names) (hW : ∀ c ∈ cells, wfN (c.vn, c.vk)) (hl : cells.length < 999999999) : Calls Tryz.prog 9 #[.pointer a, v] w (ValPost (valN n o) o (valM o names) w) := by
 have H24 := c22 cells v w hT hS
 rw [hr] at H24
 have H61 : Hid (∀ W, Below w.heap.size w W → Calls Tryz.prog 33 #[.pointer a] W fun e w' => ∃ lb B g, e = .returned (.pointer (some ⟨lb, 0, none⟩)) ∧ Lk w' w.heap.size lb (.pointer a) B g [] 0 ∧ Below W.heap.size W w') := fun W hW => h61 a w.heap.size W hW.size
 have H62 : Hid (∀ lb B g W, Below w.heap.size w W → Lk W w.heap.size lb (.pointer a) B g [] 0 → Calls Tryz.prog 34 #[.pointer (some ⟨lb, 0, none⟩), v] W (SumPost w lb (.pointer a) B g n o rest names (0 + cells.length) W)) := fun lb B g W hb hL => h62 m hm w lb (.pointer a) B g hp d cells [] n o rest names v W 0 hs hb hL hT hW (by omega)
 obtain ⟨a0, c0, hf0⟩ := hT.form
 subst hf0
 clear hT hS hs hW hp hm
 go_enter Tryz.func9, Tryz.ntmps9
 go_wp2_with fail
 refine H24.mono ?_
 rintro e w1 ⟨rfl, hb1⟩
 go_wp2_with fail
 refine (H61.out w1 hb1).mono ?_
 rintro e w2 ⟨lb, B, g, rfl, hL2, hb2⟩
 have hb2' : Below w.heap.size w w2 := hb1.trans (hb2.mono hb1.size)
 have H62 := H62.out lb B g w2 hb2' hL2
 clear hL2
 go_wp2_with fail
 refine H62.mono ?_
 rintro e w3 ⟨rv, K', rfl, hT3, ⟨M, k3, nv, hL3, hk3⟩, hK3, hw3, hb3, hkk3⟩
 have HR : Hid (NamesR w3 nv names) := ⟨_, hL3.row⟩
 have HB3 : Hid (Below w.heap.size w w3) := hb3
 obtain ⟨_, _, l2, _⟩ := hL3.cells
 obtain ⟨a3, c3, hf3⟩ := hT3.form
 obtain ⟨a4, c4, hf4⟩ := owns_form hL3.row
 subst hf3 hf4
 clear hT3 hL3 hk3 hK3 hw3 hb3 hkk3 H62
 by_cases ho : o = 2
 ·subst ho
  go_wp2_with fail
  exact bodyPost_ret (v := .tuple #[.int .i64 0, .int .u8 2, .slice none 0 0]) (by simp [results, Tryz.results9, go_sem]) rfl ⟨_, rfl, ⟨0, rfl, .inl ⟨rfl, rfl⟩⟩, HB3.out⟩
 ·have hq : (o == 2) = false := by simpa using ho
  have HV : Hid (valN n o = n ∧ valM o names = names) := ⟨if_neg ho, if_neg ho⟩
  clear ho
  go_wp2_with fail
  go_quiet (fail)
  go_wp2_with fail
  exact bodyPost_ret (v := .tuple #[.int .i64 n, .int .u8 o, .slice a4 names.length c4]) (by simp [results, Tryz.results9, go_sem]) rfl ⟨_, by rw [HV.out.1], (by rw [HV.out.2]; obtain ⟨bs, h⟩ := HR.out; exact ⟨bs, owns_below h (below_drewN (Below.refl _ _) nq)⟩), below_drewN HB3.out nq⟩
end Go.Proofs.YtaehhophaaipdaaGreatDoor

namespace Go.Proofs.YtaehhophaaipdaaGreatDoor
open Go.RowKit
def argN (c : C) : Nat := (argsOf c.k c.n).toNat
/-- Are the cells just so many whole terms? -/
def compQ : List C → Nat → Bool
 | [], q => q == 0
 | _ :: _, 0 => false
 | c :: r, q + 1 => compQ r (q + argN c)
theorem compQ_le : ∀ {l : List C} {q : Nat}, compQ l q = true → q ≤ l.length
 | [], q, h => by
  have : q = 0 := by simpa [compQ] using h
  omega
 | _ :: _, 0, _ => by simp
 | c :: r, q + 1, h => by
  have := compQ_le (l := r) (q := q + argN c) h
  simp only [List.length_cons]
  omega
theorem compQ_zero {l : List C} (h : compQ l 0 = true) : l = [] := by
 cases l with
 | nil => rfl
 | cons c r => cases h
theorem argN_int (c : C) : (argN c : Int) = argsOf c.k c.n := by
 have := argsOf_nonneg c.k c.n
 unfold argN
 omega
theorem endF_of {len : Int} : ∀ (l : List C) (i : Int) (q : Nat), 0 ≤ i → i + (l.length : Int) ≤ len → 1 ≤ q → compQ l q = true → endF len l i q = i + (l.length : Int)
 | [], i, q, _, _, h1, h => by
  have : q = 0 := by simpa [compQ] using h
  omega
 | c :: r, i, q + 1, h0, hl, h1, h => by
  have h2 : compQ r (q + argN c) = true := h
  have h3 := compQ_le h2
  have h4 := argN_int c
  simp only [List.length_cons] at hl
  unfold endF
  rw [if_neg (by omega)]
  split
  ·next e =>
   have e2 : q + argN c = 0 := by omega
   rw [e2] at h2
   rw [compQ_zero h2]
   simp
  ·next e =>
   have e2 : ((q + 1 : Nat) : Int) + (argsOf c.k c.n - 1) = ((q + argN c : Nat) : Int) := by omega
   rw [e2, endF_of r (i + 1) (q + argN c) (by omega) (by omega) (by omega) h2]
   simp only [List.length_cons]
   omega
theorem comp_of {len : Int} : ∀ (l : List C) (i : Int) (q : Nat), 0 ≤ i → l ≠ [] → 1 ≤ q → endF len l i q = i + (l.length : Int) → compQ l q = true
 | [], _, _, _, h, _, _ => absurd rfl h
 | c :: r, i, 0, _, _, h1, _ => by omega
 | c :: r, i, q + 1, h0, _, _, h => by
  have h4 := argN_int c
  show compQ r (q + argN c) = true
  unfold endF at h
  simp only [List.length_cons] at h
  split at h
  ·omega
  ·split at h
   ·next e =>
    have e2 : q + argN c = 0 := by omega
    have e3 : r = [] := List.eq_nil_of_length_eq_zero (by omega)
    rw [e2, e3]
    rfl
   ·next e =>
    have e2 : ((q + 1 : Nat) : Int) + (argsOf c.k c.n - 1) = ((q + argN c : Nat) : Int) := by omega
    rw [e2] at h
    cases r with
    | nil =>
     unfold endF at h
     simp at h
     omega
    | cons d s => exact comp_of (d :: s) (i + 1) (q + argN c) (by omega) (by simp) (by omega) (by rw [h]; simp only [List.length_cons]; omega)
theorem right_iff (l : List C) : rightB l = true ↔ 1 ≤ l.length ∧ l.length ≤ 256 ∧ l.all C.ok = true ∧ compQ l 1 = true := by
 unfold rightB
 simp only [Bool.and_eq_true, decide_eq_true_eq, beq_iff_eq, cellsB]
 have key : 1 ≤ l.length → (endS l 0 = (l.length : Int) ↔ compQ l 1 = true) := fun h1 => by
  have e : endS l 0 = endF l.length l 0 1 := by
   unfold endS
   rw [if_neg (by omega)]
   simp
  rw [e]
  constructor
  ·intro h
   exact comp_of l 0 1 (by omega) (fun e => by rw [e] at h1; simp at h1) (by omega) (by rw [show ((1 : Nat) : Int) = 1 by rfl, h]; omega)
  ·intro h
   have := endF_of (len := l.length) l 0 1 (by omega) (by omega) (by omega) h
   rw [show ((1 : Nat) : Int) = 1 by rfl] at this
   rw [this]
   omega
 constructor
 ·rintro ⟨⟨⟨h1, h2⟩, h3⟩, h4⟩
  exact ⟨by omega, by omega, h3, (key (by omega)).1 h4⟩
 ·rintro ⟨h1, h2, h3, h4⟩
  exact ⟨⟨⟨by omega, by omega⟩, h3⟩, (key h1).2 h4⟩
theorem compQ_append : ∀ {a b : List C} {p q : Nat}, compQ a p = true → compQ b q = true → compQ (a ++ b) (p + q) = true
 | [], b, p, q, ha, hb => by
  have : p = 0 := by simpa [compQ] using ha
  subst this
  simpa using hb
 | c :: r, b, 0, q, ha, _ => by cases ha
 | c :: r, b, p + 1, q, ha, hb => by
  have h1 : compQ r (p + argN c) = true := ha
  have h2 := compQ_append h1 hb
  have e : p + 1 + q = (p + q) + 1 := by omega
  rw [e]
  show compQ (r ++ b) (p + q + argN c) = true
  rw [show p + q + argN c = p + argN c + q by omega]
  exact h2
/-- All values are right. -/
def RgH (m : Hp) : Prop := ∀ x l, lookH m x = some l → l ≠ [] ∧ rightB l = true
theorem fol_right {m : Hp} (hR : RgH m) {l l' : List C} (h : Fol m l l') : l' = l ∨ (isVarL l = true ∧ rightB l' = true) := by
 induction h with
 | here => exact .inl rfl
 | @step l l1 l2 h _ ih =>
  unfold nextH at h
  split at h
  ·next hv =>
   have h2 := (hR _ _ h).2
   rcases ih with rfl | ⟨_, h3⟩
   ·exact .inr ⟨hv, h2⟩
   ·exact .inr ⟨hv, h3⟩
  ·cases h
theorem var_arg {c : C} (h : isVarL [c] = true) : argN c = 0 := by
 have : c.k = 4 := by simpa [isVarL] using h
 simp [argN, argsOf, this]
theorem resR_ok {i : Nat} {ns : List Int} (h : (resR i ns).2 = true) : okI (resR i ns).1 := by
 have h1 : ((rawR i ns).2 && !greatB (rawR i ns).1) = true := h
 have h2 : (resR i ns).1 = (rawR i ns).1 := by
  show finN (rawR i ns).1 (rawR i ns).2 = _
  unfold finN
  rw [if_pos h1]
 rw [h2]
 simp only [Bool.and_eq_true, Bool.not_eq_true'] at h1
 have h3 := h1.2
 unfold greatB at h3
 simp only [Bool.or_eq_false_iff, decide_eq_false_iff_not] at h3
 exact ⟨by omega, by omega⟩
theorem okI_wf {n : Int} (h : okI n) : (Lit.int .i64 n).wf = true := by
 unfold okI at h
 have h1 : IntKind.i64.min = -9223372036854775808 := by decide
 have h2 : IntKind.i64.max = 9223372036854775807 := by decide
 simp only [Lit.wf, h1, h2, Bool.and_eq_true, decide_eq_true_eq]
 omega
theorem least_of {P : Nat → Bool} : ∀ n, (∃ i, i < n ∧ P i = true) → ∃ i, i < n ∧ P i = true ∧ ∀ j, j < i → P j = false
 | 0, h => by obtain ⟨i, h, _⟩ := h; omega
 | n + 1, h => by
  by_cases hq : ∃ i, i < n ∧ P i = true
  ·obtain ⟨i, h1, h2, h3⟩ := least_of n hq
   exact ⟨i, by omega, h2, h3⟩
  ·obtain ⟨i, h1, h2⟩ := h
   have hi : i = n := by
    by_cases e : i < n
    ·exact absurd ⟨i, e, h2⟩ hq
    ·omega
   refine ⟨i, h1, h2, fun j hj => ?_⟩
   cases hp : P j
   ·rfl
   ·exact absurd ⟨j, by omega, hp⟩ hq
theorem isB_args {c : C} {r : List C} {i : Nat} (hi : i < 8) (hk : c.k = 3) (h : isB (c :: r) (opT i) (opA i) = true) : argN c = (opA i).toNat := by
 have hn : c.n = opA i := by
  simp only [isB, hk, Bool.and_eq_true, Bool.or_eq_true, beq_iff_eq] at h
  rcases h.2 with h | h
  ·exact h.2
  ·exact absurd h.2 (by decide)
 have hp : 0 ≤ opA i := by
  unfold opA
  split <;> decide
 unfold argN argsOf
 rw [if_pos hk, hn]
 omega
theorem ok_int {c : C} (h : c.ok = true) (hk : c.k = 1) : okI c.n := by
 unfold C.ok cellB at h
 rw [if_pos hk] at h
 simp only [Bool.and_eq_true] at h
 have h2 := h.2
 simp only [between, Bool.and_eq_true, decide_eq_true_eq] at h2
 exact ⟨by omega, by omega⟩
theorem sms_tot {m : Hp} {d : Nat} (ih : ∀ (l : List C) (q : Nat) (names : List Nm), l.length ≤ d → compQ l (q + 1) = true → l.all C.ok = true → ∃ n o rest names', Sm m d l names n o rest names' ∧ (o = 1 ∨ o = 2 ∨ o = 3) ∧ (o = 1 → okI n) ∧ (Lit.int .i64 n).wf = true ∧ (o ≠ 2 → compQ rest q = true ∧ rest.all C.ok = true ∧ rest.length < l.length)) :
  ∀ (k : Nat) (cells : List C) (q : Nat) (names : List Nm) (nums : List Int) (o0 : Int), cells.length ≤ d → compQ cells (q + k) = true → cells.all C.ok = true → (o0 = 1 ∨ o0 = 3) → (o0 = 1 → ∀ x ∈ nums, okI x) →
   ∃ R1 R2 R3 R4, Sms m d k cells names nums o0 R1 R2 R3 R4 ∧ (R2 = 1 ∨ R2 = 2 ∨ R2 = 3) ∧ (R2 ≠ 2 → compQ R3 q = true ∧ R3.all C.ok = true ∧ R3.length ≤ cells.length) ∧ (R2 = 1 → R1.length = nums.length + k ∧ ∀ x ∈ R1, okI x)
 | 0, cells, q, names, nums, o0, _, hc, ha, ho, hn => ⟨nums, o0, cells, names, .done, by omega, fun _ => ⟨hc, ha, Nat.le_refl _⟩, fun h => ⟨rfl, hn h⟩⟩
 | k + 1, cells, q, names, nums, o0, hl, hc, ha, ho, hn => by
  obtain ⟨n, o, rest, names', h1, h2, h3, h4, h5⟩ := ih cells (q + k) names hl hc ha
  by_cases e2 : o = 2
  ·subst e2
   exact ⟨[], 2, [], names', .fail h1, by omega, fun h => absurd rfl h, fun h => by omega⟩
  ·obtain ⟨g1, g2, g3⟩ := h5 e2
   obtain ⟨R1, R2, R3, R4, k1, k2, k3, k4⟩ := sms_tot ih k rest q names' (nums ++ [n]) (if o = 3 then 3 else o0) (by omega) g1 g2 (by split <;> omega) (fun e x hx => by
    have e3 : o ≠ 3 := fun e3 => by rw [if_pos e3] at e; omega
    rw [if_neg e3] at e
    rcases List.mem_append.1 hx with hx | hx
    ·exact hn e x hx
    ·simp at hx
     subst hx
     exact h3 (by omega))
   refine ⟨R1, R2, R3, R4, .next h1 e2 h4 k1, k2, fun h => ⟨(k3 h).1, (k3 h).2.1, by have := (k3 h).2.2; omega⟩, fun h => ⟨by have := (k4 h).1; simp at this; omega, (k4 h).2⟩⟩
/-- Each whole term of right cells is a sum, or none, or waits. -/
theorem sm_tot {m : Hp} (hR : RgH m) (hD : DescH m) : ∀ (d : Nat) (l : List C) (q : Nat) (names : List Nm), l.length ≤ d → compQ l (q + 1) = true → l.all C.ok = true → ∃ n o rest names', Sm m d l names n o rest names' ∧ (o = 1 ∨ o = 2 ∨ o = 3) ∧ (o = 1 → okI n) ∧ (Lit.int .i64 n).wf = true ∧ (o ≠ 2 → compQ rest q = true ∧ rest.all C.ok = true ∧ rest.length < l.length)
 | 0, l, q, names, hl, hc, _ => by
  have : l = [] := List.eq_nil_of_length_eq_zero (by omega)
  rw [this] at hc
  simp [compQ] at hc
 | d + 1, [], q, names, _, hc, _ => by simp [compQ] at hc
 | d + 1, c :: r, q, names, hl, hc, ha => by
  have hc' : compQ r (q + argN c) = true := hc
  simp only [List.all_cons, Bool.and_eq_true] at ha
  simp only [List.length_cons] at hl
  by_cases hk : c.k = 3
  ·by_cases hq : ∃ i, i < 8 ∧ isB (c :: r) (opT i) (opA i) = true
   ·obtain ⟨i, hi, hb, hj⟩ := least_of (P := fun i => isB (c :: r) (opT i) (opA i)) 8 hq
    rw [isB_args hi hk hb] at hc'
    obtain ⟨R1, R2, R3, R4, k1, k2, k3, k4⟩ := sms_tot (sm_tot hR hD d) (opA i).toNat r q names [] 1 (by omega) hc' ha.2 (.inl rfl) (fun _ x hx => by cases hx)
    have hp : 0 ≤ opA i := by
     unfold opA
     split <;> decide
    refine ⟨_, _, _, _, .op hk hi hb hj k1 (fun h => ⟨by have := (k4 h).1; simp at this; omega, (k4 h).2⟩), ?_, ?_, ?_, ?_⟩
    ·unfold opO
     split
     ·split <;> omega
     ·exact k2
    ·intro h
     unfold opO at h
     unfold opN
     split at h
     ·next e =>
      rw [if_pos e]
      split at h
      ·next e2 => exact resR_ok e2
      ·omega
     ·next e => exact absurd h e
    ·unfold opN
     split
     ·cases e2 : (resR i R1).2
      ·have : (resR i R1).1 = 0 := by
        show finN (rawR i R1).1 (rawR i R1).2 = 0
        unfold finN
        have e3 : ((rawR i R1).2 && !greatB (rawR i R1).1) = false := e2
        rw [e3]
        rfl
       rw [this]
       exact okI_wf ⟨by omega, by omega⟩
      ·exact okI_wf (resR_ok e2)
     ·exact okI_wf ⟨by omega, by omega⟩
    ·intro h
     have h2 : R2 ≠ 2 := fun e => by
      subst e
      exact h rfl
     have h3 : ¬ (R2 = 1 ∧ (resR i R1).2 = false) := fun e => by
      apply h
      unfold opO
      rw [if_pos e.1, if_neg (by rw [e.2]; decide)]
     unfold opR
     rw [if_neg h3]
     obtain ⟨g1, g2, g3⟩ := k3 h2
     exact ⟨g1, g2, by simp only [List.length_cons]; omega⟩
   ·exact ⟨0, 2, [], names, .none hk (fun i hi => by
     cases e : isB (c :: r) (opT i) (opA i)
     ·rfl
     ·exact absurd ⟨i, hi, e⟩ hq), by omega, fun h => by omega, okI_wf ⟨by omega, by omega⟩, fun h => absurd rfl h⟩
  ·have h0 : argN c = 0 := by simp [argN, argsOf, hk]
   rw [h0] at hc'
   obtain ⟨l', hf⟩ := fol_end hD _ [c] (Nat.le_refl _)
   obtain ⟨e, r', rfl, hok⟩ : ∃ e r', l' = e :: r' ∧ e.ok = true := by
    rcases fol_right hR hf.1 with rfl | ⟨_, hr⟩
    ·exact ⟨c, [], rfl, ha.1⟩
    ·obtain ⟨h1, _, h3, _⟩ := (right_iff l').1 hr
     cases l' with
     | nil => simp at h1
     | cons e r' =>
      simp only [List.all_cons, Bool.and_eq_true] at h3
      exact ⟨e, r', rfl, h3.1⟩
   refine ⟨_, _, _, _, .leaf hk hf, ?_, ?_, ?_, fun _ => ⟨hc', ha.2, by simp⟩⟩
   ·unfold numS
    split
    ·exact .inl rfl
    ·split
     ·exact .inr (.inr rfl)
     ·exact .inr (.inl rfl)
   ·unfold numS
    split
    ·next e1 => exact fun _ => ok_int hok e1
    ·split
     ·exact fun h => by cases h
     ·exact fun h => by cases h
   ·unfold numS
    split
    ·next e1 => exact okI_wf (ok_int hok e1)
    ·split
     ·exact okI_wf (show okI 0 from ⟨by decide, by decide⟩)
     ·exact okI_wf (show okI 0 from ⟨by decide, by decide⟩)
theorem pre_uniq : ∀ {p p' r r' : List C} {q : Nat}, compQ p q = true → compQ p' q = true → p ++ r = p' ++ r' → p = p' ∧ r = r'
 | [], p', r, r', q, h, h', e => by
  have hq : q = 0 := by simpa [compQ] using h
  subst hq
  have := compQ_zero h'
  subst this
  exact ⟨rfl, e⟩
 | c :: p, [], r, r', 0, h, _, _ => by cases h
 | c :: p, [], r, r', q + 1, _, h', _ => by simp [compQ] at h'
 | c :: p, c' :: p', r, r', 0, h, _, _ => by cases h
 | c :: p, c' :: p', r, r', q + 1, h, h', e => by
  simp only [List.cons_append, List.cons.injEq] at e
  obtain ⟨rfl, e⟩ := e
  have h1 : compQ p (q + argN c) = true := h
  have h2 : compQ p' (q + argN c) = true := h'
  obtain ⟨rfl, rfl⟩ := pre_uniq h1 h2 e
  exact ⟨rfl, rfl⟩
end Go.Proofs.YtaehhophaaipdaaGreatDoor

namespace Go.Proofs.YtaehhophaaipdaaGreatDoor
open Go.RowKit
/-- How many cells so many terms take, from the beginning on. -/
def eat : List C → Nat → Option Nat
 | _, 0 => some 0
 | [], _ + 1 => none
 | c :: r, q + 1 => (eat r (q + (argsOf c.k c.n).toNat)).map (· + 1)
theorem eat_zero (l : List C) : eat l 0 = some 0 := by cases l <;> rfl
theorem eat_le : ∀ (l : List C) (q m : Nat), eat l q = some m → q ≤ m ∧ m ≤ l.length
 | l, 0, m, h => by rw [eat_zero] at h; cases h; simp
 | [], q + 1, m, h => by simp [eat] at h
 | c :: r, q + 1, m, h => by
  simp only [eat, Option.map_eq_some_iff] at h
  obtain ⟨m', h', rfl⟩ := h
  have := eat_le r _ _ h'
  simp; omega
theorem eat_split : ∀ (l : List C) (p q m : Nat), eat l (p + q) = some m → ∃ m1 m2, eat l p = some m1 ∧ eat (l.drop m1) q = some m2 ∧ m = m1 + m2
 | l, 0, q, m, h => ⟨0, m, eat_zero l, by simpa using h, by simp⟩
 | [], p + 1, q, m, h => by rw [show p + 1 + q = (p + q) + 1 by omega] at h; simp [eat] at h
 | c :: r, p + 1, q, m, h => by
  rw [show p + 1 + q = (p + q) + 1 by omega] at h
  simp only [eat, Option.map_eq_some_iff] at h
  obtain ⟨m', h', rfl⟩ := h
  rw [show p + q + (argsOf c.k c.n).toNat = (p + (argsOf c.k c.n).toNat) + q by omega] at h'
  obtain ⟨m1, m2, e1, e2, rfl⟩ := eat_split r _ _ _ h'
  exact ⟨m1 + 1, m2, by simp [eat, e1], by simpa using e2, by omega⟩
theorem eat_take : ∀ (l : List C) (q m : Nat), eat l q = some m → eat (l.take m) q = some m
 | l, 0, m, h => by rw [eat_zero] at h; cases h; simp [eat_zero]
 | [], q + 1, m, h => by simp [eat] at h
 | c :: r, q + 1, m, h => by
  simp only [eat, Option.map_eq_some_iff] at h
  obtain ⟨m', h', rfl⟩ := h
  simp [eat, eat_take r _ _ h']
theorem refF_eat (len : Int) : ∀ (l : List C) (i : Int) (q : Nat), (l.length : Int) ≤ len → refF len l i q = (match eat l q with | some m => i + m | none => 0)
 | [], i, 0, _ => by simp [refF, eat]
 | c :: r, i, 0, _ => by simp [refF, eat]
 | [], i, q + 1, _ => by
  have hq : (0 : Int) < ((q + 1 : Nat) : Int) := by omega
  simp only [refF, hq, if_true, eat]
 | c :: r, i, q + 1, hl => by
  have ha := argsOf_nonneg c.k c.n
  simp at hl
  have hq : (0 : Int) < ((q + 1 : Nat) : Int) := by omega
  simp only [refF, hq, if_true, eat]
  have hr := refF_eat len r (i + 1) (q + (argsOf c.k c.n).toNat) (by omega)
  rw [show ((q + (argsOf c.k c.n).toNat : Nat) : Int) = ((q + 1 : Nat) : Int) - 1 + argsOf c.k c.n by omega] at hr
  by_cases hb : len < argsOf c.k c.n
  ·rw [if_pos hb]
   cases he : eat r (q + (argsOf c.k c.n).toNat) with
   | none => rfl
   | some m => have := eat_le _ _ _ he; omega
  ·rw [if_neg hb, hr]
   cases he : eat r (q + (argsOf c.k c.n).toNat) with
   | none => rfl
   | some m =>
    show i + 1 + (m : Int) = i + ((m + 1 : Nat) : Int)
    omega
theorem endS_eat (l : List C) (p : Nat) (hp : p < l.length) : endS l p = (match eat (l.drop p) 1 with | some m => (p : Int) + m | none => 0) := by
 rw [← refF_eat l.length (l.drop p) p 1 (by simp)]
 rw [show ((1 : Nat) : Int) = 1 from rfl, refF_eq _ _ _ _ (by omega) (by simp)]
 unfold endS
 rw [if_neg (by omega)]; simp
theorem right_eat {l : List C} : rightB l = (decide (1 ≤ l.length) && decide (l.length ≤ 256) && cellsB l && (eat l 1 == some l.length)) := by
 unfold rightB
 by_cases h1 : 1 ≤ l.length
 ·have h := endS_eat l 0 (by omega)
  rw [List.drop_zero] at h
  have h0 : endS l 0 = (match eat l 1 with | some m => ((0 : Nat) : Int) + m | none => 0) := h
  have e : (endS l 0 == (l.length : Int)) = (eat l 1 == some l.length) := by
   rw [h0]
   cases he : eat l 1 with
   | none => simp; omega
   | some m =>
    rw [Bool.eq_iff_iff]
    simp
    omega
  rw [e]
  have e1 : decide (1 ≤ (l.length : Int)) = decide (1 ≤ l.length) := by simp; omega
  have e2 : decide ((l.length : Int) ≤ 256) = decide (l.length ≤ 256) := by
   rw [Bool.eq_iff_iff]; simp; omega
  rw [e1, e2]
 ·have e1 : decide (1 ≤ (l.length : Int)) = false := by simp; omega
  rw [e1, decide_eq_false h1]; simp
/-- The terms of which a row of cells is made. -/
def cutF : Nat → List C → List (List C)
 | 0, _ => []
 | _ + 1, [] => []
 | f + 1, c :: r => match eat (c :: r) 1 with
  | some m => (c :: r).take m :: cutF f ((c :: r).drop m)
  | none => []
theorem cut_step (f : Nat) (r : List C) (q : Nat) (hr : 0 < r.length) (h : eat r q = some r.length) : ∃ m q', q = q' + 1 ∧ eat r 1 = some m ∧ 1 ≤ m ∧ m ≤ r.length ∧ eat (r.drop m) q' = some (r.drop m).length ∧ cutF (f + 1) r = r.take m :: cutF f (r.drop m) := by
 cases q with
 | zero =>
  rw [eat_zero] at h
  have := Option.some.inj h
  omega
 | succ q' =>
  rw [Nat.add_comm] at h
  obtain ⟨m1, m2, e1, e2, e3⟩ := eat_split r 1 q' _ h
  have hle := eat_le _ _ _ e1
  refine ⟨m1, q', rfl, e1, hle.1, hle.2, ?_, ?_⟩
  ·rw [e2]; simp; omega
  ·match r, hr with
   | c :: r', _ => simp only [cutF, e1]
theorem cut_spec : ∀ (f : Nat) (r : List C) (q : Nat), r.length ≤ f → eat r q = some r.length → (cutF f r).flatten = r ∧ (cutF f r).length = q ∧ ∀ s ∈ cutF f r, eat s 1 = some s.length ∧ 1 ≤ s.length ∧ s.length ≤ r.length ∧ ∀ c ∈ s, c ∈ r
 | f, [], q, hf, h => by
  have hle := eat_le _ _ _ h
  simp at hle
  subst hle
  cases f <;> simp [cutF]
 | 0, c :: r, q, hf, h => by simp at hf
 | f + 1, c :: r, q, hf, h => by
  obtain ⟨m, q', rfl, e1, h1, hm, e2, e3⟩ := cut_step f (c :: r) q (by simp) h
  obtain ⟨i1, i2, i3⟩ := cut_spec f ((c :: r).drop m) q' (by simp at hf ⊢; omega) e2
  rw [e3]
  refine ⟨by rw [List.flatten_cons, i1, List.take_append_drop], by rw [List.length_cons, i2], ?_⟩
  intro s hs
  rcases List.mem_cons.1 hs with rfl | hs
  ·have ht := eat_take _ _ _ e1
   have hl : ((c :: r).take m).length = m := by rw [List.length_take]; omega
   exact ⟨by rw [hl]; exact ht, by omega, by omega, fun d hd => List.mem_of_mem_take hd⟩
  ·obtain ⟨j1, j2, j3, j4⟩ := i3 s hs
   exact ⟨j1, j2, by simp at j3; simp; omega, fun d hd => List.mem_of_mem_drop (j4 d hd)⟩
theorem cut_fuel : ∀ (f g : Nat) (r : List C), r.length ≤ f → r.length ≤ g → cutF f r = cutF g r
 | 0, g, r, hf, _ => by
  have : r = [] := List.eq_nil_of_length_eq_zero (by omega)
  subst this; cases g <;> rfl
 | f + 1, 0, r, _, hg => by
  have : r = [] := List.eq_nil_of_length_eq_zero (by omega)
  subst this; rfl
 | f + 1, g + 1, [], _, _ => rfl
 | f + 1, g + 1, c :: r, hf, hg => by
  simp only [cutF]
  cases he : eat (c :: r) 1 with
  | none => rfl
  | some m =>
   have hle := eat_le _ _ _ he
   simp only
   rw [cut_fuel f g ((c :: r).drop m) (by simp at hf ⊢; omega) (by simp at hg ⊢; omega)]
def headK (l : List C) : Int := match l with | [] => 0 | c :: _ => c.k
/-- The arguments of a structure. -/
def argsL (l : List C) : List (List C) := if rightB l && (headK l == 3) then cutF l.length l.tail else []
end Go.Proofs.YtaehhophaaipdaaGreatDoor

namespace Go.Proofs.YtaehhophaaipdaaGreatDoor
open Go.RowKit
theorem flat_drop (l : List C) (k : Nat) : flat (l.drop k) = (flat l).drop (5 * k) := by
 induction l generalizing k with
 | nil => simp [flat]
 | cons a r ih =>
  cases k with
  | zero => simp
  | succ k =>
   rw [List.drop_succ_cons, ih k]
   have e : flat (a :: r) = a.vals ++ flat r := by simp [flat]
   rw [e, show 5 * (k + 1) = 5 * k + 5 by omega, Nat.add_comm, ← List.drop_drop]
   rfl
theorem flat_take (l : List C) (k : Nat) : flat (l.take k) = (flat l).take (5 * k) := by
 induction l generalizing k with
 | nil => simp [flat]
 | cons a r ih =>
  cases k with
  | zero => simp [flat]
  | succ k =>
   rw [List.take_succ_cons]
   have e : ∀ x : List C, flat (a :: x) = a.vals ++ flat x := fun x => by simp [flat]
   rw [e, e, ih k, show 5 * (k + 1) = a.vals.length + 5 * k by simp [C.vals]; omega, List.take_length_add_append]
theorem range_sub {w : World} {b o : Nat} {l : List C} (h : w.rangeAt b o (flat l)) (k m : Nat) : w.rangeAt b (o + k * 5) (flat ((l.drop k).take m)) := by
 intro j v hv
 rw [flat_take, flat_drop, List.getElem?_take] at hv
 split at hv
 ·rw [List.getElem?_drop] at hv
  have := h _ v hv
  rw [show o + (5 * k + j) = o + k * 5 + j by omega] at this
  exact this
 ·cases hv
set_option maxHeartbeats 1000000 in
theorem c52_in (l : List C) (b o cap : Nat) (w : World) (hr : w.rangeAt b o (flat l)) (hby47 : l.length * 48 ≤ 140737488355328) :
  Calls Tryz.prog 78 #[.slice (some ⟨b, o, none⟩) l.length cap] w fun e w' => ∃ u, e = .returned u ∧ OwnT w' w.heap.size u l ∧ Below w.heap.size w w' := by
 obtain ⟨i0, hi, hz, hs, hby⟩ := info60
 have hnews : Hid (∀ j u, (flat l)[j]? = some u → w.cell? ((⟨b, o, none⟩ : Addr).add j) = some u) := fun j u hu => by rw [Addr.add_mid]; exact hr j u hu
 have hlen : Hid ((flat l).length = l.length * 5) := by
  show (flat l).length = l.length * 5
  rw [flat_length]; omega
 clear hr
 go_enter Tryz.func78, Tryz.ntmps78
 go_wp2_with (at_builtin; refine wpList_append_own _ rfl _ _ 24 rfl w.heap.size 69 i0 zero60 5 48 Tryz.underlying24 hi hz hs hby rfl (by decide) _ _ _ rfl (World.ownsRow_nil w w.heap.size 69 5) ⟨b, o, none⟩ l.length cap (flat l) rfl hlen.out hnews.out (flat_one _) (by unfold maxLen; omega) (by omega) (Nat.le_refl _) ?_)
 intro v' w' hown' hgrow hnil
 have hown' : Hid (OwnT w' w.heap.size v' l) := hown'
 have hb : Hid (Below w.heap.size w w') := (Below.refl _ _).grown hgrow (Nat.le_refl _) (fun g hg => by simp [Value.ownBlock] at hg)
 clear hgrow hnil
 go_wp2_with fail
 go_ret
 exact ⟨_, rfl, hown'.out, hb.out⟩
end Go.Proofs.YtaehhophaaipdaaGreatDoor

namespace Go.Proofs.YtaehhophaaipdaaGreatDoor
open Go.RowKit
theorem headK_get {l : List C} (h : 0 < l.length) : headK l = l[0].k := by
 match l, h with
 | c :: r, _ => rfl
theorem right_cell {l : List C} (hr : rightB l = true) : ∀ c ∈ l, c.ok = true := by
 unfold rightB at hr
 simp only [Bool.and_eq_true] at hr
 have := hr.1.2
 unfold cellsB at this
 rw [List.all_eq_true] at this
 exact this
theorem struct_n {c : C} (h : c.ok = true) (hk : c.k = 3) : 1 ≤ c.n ∧ c.n ≤ 8 := by
 obtain ⟨k, t, n, vn, vk⟩ := c
 simp only at hk
 subst hk
 have h1 : structFits 1 8 t.data.toList n = true := by
  simp only [C.ok, cellB, if_neg (show ¬ ((3 : Int) = 1) by decide), if_neg (show ¬ ((3 : Int) = 2) by decide), if_true, Bool.and_eq_true] at h
  exact h.2
 simp only [structFits, between, Bool.and_eq_true, Bool.or_eq_true, decide_eq_true_eq, beq_iff_eq] at h1
 show 1 ≤ n ∧ n ≤ 8
 omega
theorem head_n {l : List C} (hr : rightB l = true) (h1 : 0 < l.length) (hk : l[0].k = 3) : 1 ≤ l[0].n ∧ l[0].n ≤ 8 := struct_n (right_cell hr _ (List.getElem_mem _)) hk
theorem head_eat {l : List C} (hr : rightB l = true) (h1 : 0 < l.length) : eat (l.drop 1) (argsOf l[0].k l[0].n).toNat = some (l.drop 1).length := by
 rw [right_eat] at hr
 simp only [Bool.and_eq_true, beq_iff_eq] at hr
 have h := hr.2
 match l, h1 with
 | c :: r, _ =>
  simp only [eat, Option.map_eq_some_iff] at h
  obtain ⟨m, h2, h3⟩ := h
  simp at h3
  subst h3
  simpa using h2

theorem argsL_spec (l : List C) (hr : rightB l = true) (h1 : 0 < l.length) (hk : headK l = 3) : (argsL l).flatten = l.tail ∧ (argsL l).length = (argsOf l[0].k l[0].n).toNat ∧ ∀ s ∈ argsL l, eat s 1 = some s.length ∧ 1 ≤ s.length ∧ s.length ≤ l.length ∧ ∀ c ∈ s, c ∈ l := by
 have e : argsL l = cutF l.length l.tail := by unfold argsL; rw [hr, hk]; rfl
 have he := head_eat hr h1
 rw [List.drop_one] at he
 obtain ⟨i1, i2, i3⟩ := cut_spec l.length l.tail _ (by simp) he
 rw [e]
 refine ⟨i1, i2, fun s hs => ?_⟩
 obtain ⟨j1, j2, j3, j4⟩ := i3 s hs
 exact ⟨j1, j2, by simp at j3; omega, fun c hc => List.mem_of_mem_tail (j4 c hc)⟩
theorem argsL_none (l : List C) (h : ¬ (rightB l = true ∧ 0 < l.length ∧ headK l = 3)) : argsL l = [] := by
 unfold argsL
 by_cases hr : rightB l = true
 ·have := (right_len hr).1
  have hk : ¬ headK l = 3 := fun e => h ⟨hr, by omega, e⟩
  rw [if_neg (by simp [hk])]
 ·rw [if_neg (by simp [hr])]
theorem argsL_len (l : List C) : (argsL l).length ≤ 8 := by
 by_cases h : rightB l = true ∧ 0 < l.length ∧ headK l = 3
 ·obtain ⟨hr, h1, hk⟩ := h
  rw [(argsL_spec l hr h1 hk).2.1]
  rw [headK_get h1] at hk
  have hn := head_n hr h1 hk
  unfold argsOf; rw [if_pos hk]; omega
 ·rw [argsL_none l h]; simp
theorem argsL_mem (l : List C) (s : List C) (hs : s ∈ argsL l) : s.length ≤ 256 ∧ ∀ c ∈ s, c ∈ l := by
 by_cases h : rightB l = true ∧ 0 < l.length ∧ headK l = 3
 ·obtain ⟨hr, h1, hk⟩ := h
  obtain ⟨j1, j2, j3, j4⟩ := (argsL_spec l hr h1 hk).2.2 s hs
  have := (right_len hr).2
  exact ⟨by omega, j4⟩
 ·rw [argsL_none l h] at hs; cases hs
end Go.Proofs.YtaehhophaaipdaaGreatDoor

namespace Go.Proofs.YtaehhophaaipdaaGreatDoor
open Go.RowKit
def bothN (a b : List Nm) : List Nm := b.foldl addN a
theorem has_add {a : List Nm} {x y : Nm} : hasN (addN a x) y = (hasN a y || eqN x y) := by
 unfold addN
 split
 ·next h =>
  cases e : eqN x y
  ·simp
  ·have e2 : x = y := by
    unfold eqN at e
    simp only [Bool.and_eq_true, beq_iff_eq] at e
    exact Prod.ext e.1 e.2
   subst e2
   rw [h]
   rfl
 ·unfold hasN
  simp
theorem has_both {y : Nm} : ∀ (b a : List Nm), hasN a y = true → hasN (bothN a b) y = true
 | [], _, h => h
 | x :: b, a, h => has_both b (addN a x) (by rw [has_add, h]; rfl)
theorem has_in {y : Nm} : ∀ (b a : List Nm), hasN b y = true → hasN (bothN a b) y = true
 | [], _, h => by cases h
 | x :: b, a, h => by
  show hasN (bothN (addN a x) b) y = true
  unfold hasN at h
  simp only [List.any_cons, Bool.or_eq_true] at h
  rcases h with h | h
  ·exact has_both b _ (by rw [has_add, h]; simp)
  ·exact has_in b _ h
theorem both_add (a b : List Nm) (x : Nm) : bothN a (addN b x) = addN (bothN a b) x := by
 unfold addN
 cases h : hasN b x
 ·simp only [Bool.false_eq_true, if_false]
  show List.foldl addN a (b ++ [x]) = _
  rw [List.foldl_append]
  rfl
 ·simp only [if_true]
  rw [if_pos (has_in b a h)]
theorem both_assoc (a : List Nm) : ∀ (c b : List Nm), bothN a (bothN b c) = bothN (bothN a b) c
 | [], _ => rfl
 | x :: c, b => by
  show bothN a (bothN (addN b x) c) = bothN (addN (bothN a b) x) c
  rw [both_assoc a c, both_add]
theorem both_nil (a : List Nm) : bothN a [] = a := rfl
theorem both_ne (a b : List Nm) (h : a ≠ []) : bothN a b ≠ [] := by
 cases a with
 | nil => exact absurd rfl h
 | cons x r =>
  intro e
  have := has_both (y := x) b (x :: r) (by simp [hasN, eqN])
  rw [e] at this
  cases this
theorem both_ne2 (a b : List Nm) (h : b ≠ []) : bothN a b ≠ [] := by
 cases b with
 | nil => exact absurd rfl h
 | cons x r =>
  intro e
  have := has_in (y := x) (x :: r) a (by simp [hasN, eqN])
  rw [e] at this
  cases this
abbrev V3 := Int × Int × List Nm
def leafR (e : C) : V3 := if e.k = 1 then (e.n, 1, []) else if e.k = 4 then (0, 3, [(e.vn, e.vk)]) else (0, 2, [])
def waitsF (a : List Nm) (rs : List V3) : List Nm := rs.foldl (fun a q => bothN a q.2.2) a
def failsR (rs : List V3) : Bool := rs.any fun q => q.2.1 == 2
def finR (i : Nat) (rs : List V3) : V3 := if failsR rs then (0, 2, []) else if waitsF [] rs = [] then (if (resR i (rs.map (·.1))).2 then ((resR i (rs.map (·.1))).1, 1, []) else (0, 2, [])) else (0, 3, waitsF [] rs)
theorem waits_both (a : List Nm) : ∀ (rs : List V3) (b : List Nm), waitsF (bothN a b) rs = bothN a (waitsF b rs)
 | [], _ => rfl
 | q :: rs, b => by
  show waitsF (bothN (bothN a b) q.2.2) rs = bothN a (waitsF (bothN b q.2.2) rs)
  rw [← waits_both a rs, both_assoc]
theorem waits_of (a : List Nm) (rs : List V3) : waitsF a rs = bothN a (waitsF [] rs) := by
 have := waits_both a rs []
 rw [both_nil] at this
 exact this
theorem waits_ne : ∀ (rs : List V3) (a : List Nm), a ≠ [] → waitsF a rs ≠ []
 | [], _, h => h
 | _ :: rs, a, h => waits_ne rs _ (both_ne a _ h)
/-- What the document's sum tells. -/
inductive Rs (m : Hp) : Nat → List C → V3 → Prop
 | leaf {d : Nat} {c e : C} {r' : List C} (hk : c.k ≠ 3) (hf : IsFol m [c] (e :: r')) : Rs m (d + 1) [c] (leafR e)
 | none {d : Nat} {c : C} {r : List C} (hk : c.k = 3) (hn : ∀ i, i < 8 → isB (c :: r) (opT i) (opA i) = false) : Rs m (d + 1) (c :: r) (0, 2, [])
 | op {d : Nat} {c : C} {r : List C} {i : Nat} {rs : List V3} (hk : c.k = 3) (hi : i < 8) (hm : isB (c :: r) (opT i) (opA i) = true) (hl : rs.length = (argsL (c :: r)).length)
   (hw : ∀ v ∈ rs, (Lit.int .i64 v.1).wf = true) (hok : failsR rs = false → waitsF [] rs = [] → ∀ v ∈ rs, okI v.1) (hs : ∀ (j : Nat) (p : List C) (v : V3), (argsL (c :: r))[j]? = some p → rs[j]? = some v → Rs m d p v) : Rs m (d + 1) (c :: r) (finR i rs)
/-- A value that may be told. -/
def OkV (v : V3) : Prop := (v.2.1 = 1 ∧ v.2.2 = [] ∧ okI v.1) ∨ v = (0, 2, []) ∨ (v.2.1 = 3 ∧ v.1 = 0 ∧ v.2.2 ≠ [] ∧ bothN [] v.2.2 = v.2.2)
theorem eat_comp : ∀ (l : List C) (q : Nat), eat l q = some l.length → compQ l q = true
 | l, 0, h => by
  rw [eat_zero] at h
  have : l = [] := List.eq_nil_of_length_eq_zero (by simpa using h.symm)
  rw [this]
  rfl
 | [], q + 1, h => by cases h
 | c :: r, q + 1, h => by
  have h' : (eat r (q + (argsOf c.k c.n).toNat)).map (· + 1) = some (r.length + 1) := h
  obtain ⟨n, h1, h2⟩ := Option.map_eq_some_iff.1 h'
  have : n = r.length := by omega
  subst this
  exact eat_comp r _ h1
theorem flat_uniq : ∀ {ps ps' : List (List C)}, ps.flatten = ps'.flatten → (∀ p ∈ ps, compQ p 1 = true) → (∀ p ∈ ps', compQ p 1 = true) → ps = ps'
 | [], [], _, _, _ => rfl
 | [], p :: r, h, _, h2 => by
  have := compQ_le (h2 p List.mem_cons_self)
  simp at h
  rw [h.1] at this
  simp at this
 | p :: r, [], h, h1, _ => by
  have := compQ_le (h1 p List.mem_cons_self)
  simp at h
  rw [h.1] at this
  simp at this
 | p :: r, p' :: r', h, h1, h2 => by
  simp only [List.flatten_cons] at h
  obtain ⟨e1, e2⟩ := pre_uniq (h1 p List.mem_cons_self) (h2 p' List.mem_cons_self) h
  rw [e1, flat_uniq e2 (fun q hq => h1 q (List.mem_cons_of_mem _ hq)) (fun q hq => h2 q (List.mem_cons_of_mem _ hq))]
theorem comp_flat : ∀ {ps : List (List C)}, (∀ p ∈ ps, compQ p 1 = true) → compQ ps.flatten ps.length = true
 | [], _ => rfl
 | p :: r, h => by
  rw [List.flatten_cons, List.length_cons, show r.length + 1 = 1 + r.length by omega]
  exact compQ_append (h p List.mem_cons_self) (comp_flat fun q hq => h q (List.mem_cons_of_mem _ hq))
theorem args_uniq {c : C} {ps : List (List C)} (hr : rightB (c :: ps.flatten) = true) (hk : c.k = 3) (h : ∀ p ∈ ps, compQ p 1 = true) : argsL (c :: ps.flatten) = ps := by
 obtain ⟨h1, _, h3⟩ := argsL_spec (c :: ps.flatten) hr (by simp) hk
 exact flat_uniq h1 (fun s hs => eat_comp s 1 (h3 s hs).1) h
theorem comp_split : ∀ (l : List C) (a b : Nat), compQ l (b + a) = true → ∃ p rest, l = p ++ rest ∧ compQ p a = true ∧ compQ rest b = true
 | l, 0, b, h => ⟨[], l, rfl, rfl, h⟩
 | [], a + 1, b, h => by simp [compQ] at h
 | c :: r, a + 1, b, h => by
  have h' : compQ r (b + a + argN c) = true := h
  rw [Nat.add_assoc] at h'
  obtain ⟨p, rest, rfl, h1, h2⟩ := comp_split r _ _ h'
  exact ⟨c :: p, rest, rfl, h1, h2⟩
/-- Both sums of a whole term. -/
def BothS (m : Hp) (d : Nat) : Prop := ∀ (l : List C) (q : Nat), l.length ≤ d → l.length ≤ 256 → compQ l (q + 1) = true → l.all C.ok = true → ∃ (p rest : List C) (v : V3), l = p ++ rest ∧ compQ p 1 = true ∧ compQ rest q = true ∧ Rs m d p v ∧ OkV v ∧
 ∀ names, ∃ n rest' names', Sm m d l names n v.2.1 rest' names' ∧ (Lit.int .i64 n).wf = true ∧ (v.2.1 ≠ 2 → rest' = rest ∧ n = v.1 ∧ names' = bothN names v.2.2)
theorem bothSs {m : Hp} {d : Nat} (ih : BothS m d) : ∀ (k : Nat) (cells : List C) (q : Nat), cells.length ≤ d → cells.length ≤ 256 → compQ cells (q + k) = true → cells.all C.ok = true →
  ∃ (ps : List (List C)) (rest : List C) (rs : List V3), cells = ps.flatten ++ rest ∧ ps.length = k ∧ rs.length = k ∧ (∀ p ∈ ps, compQ p 1 = true) ∧ compQ rest q = true ∧ (∀ v ∈ rs, OkV v) ∧ (∀ (j : Nat) (p : List C) (v : V3), ps[j]? = some p → rs[j]? = some v → Rs m d p v) ∧
   ∀ (names : List Nm) (nums : List Int) (o0 : Int), (o0 = 1 ∨ o0 = 3) → ∃ R1 R2 R3 R4, Sms m d k cells names nums o0 R1 R2 R3 R4 ∧ (failsR rs = true → R2 = 2) ∧ (failsR rs = false → R3 = rest ∧ R4 = waitsF names rs ∧ R1 = nums ++ rs.map (·.1) ∧ R2 = if waitsF [] rs = [] then o0 else 3)
 | 0, cells, q, _, _, hc, _ => ⟨[], cells, [], rfl, rfl, rfl, fun p h => (by cases h), hc, fun v h => (by cases h), fun j p v h => (by simp at h), fun names nums o0 _ => ⟨nums, o0, cells, names, .done, fun h => (by cases h), fun _ => ⟨rfl, rfl, by simp, by simp [waitsF]⟩⟩⟩
 | k + 1, cells, q, hl, hl2, hc, ha => by
  obtain ⟨p, rest1, v, rfl, h2, h3, h4, h5, h6⟩ := ih cells (q + k) hl hl2 hc ha
  rw [List.all_append, Bool.and_eq_true] at ha
  rw [List.length_append] at hl hl2
  obtain ⟨ps, rest, rs, rfl, g2, g3, g4, g5, g6, g7, g8⟩ := bothSs ih k rest1 q (by omega) (by omega) h3 ha.2
  refine ⟨p :: ps, rest, v :: rs, by simp, by simp [g2], by simp [g3], ?_, g5, ?_, ?_, ?_⟩
  ·intro s hs
   rcases List.mem_cons.1 hs with rfl | hs
   ·exact h2
   ·exact g4 s hs
  ·intro s hs
   rcases List.mem_cons.1 hs with rfl | hs
   ·exact h5
   ·exact g6 s hs
  ·intro j p' v' hp hv
   cases j with
   | zero => simp at hp hv; subst hp hv; exact h4
   | succ j => exact g7 j p' v' (by simpa using hp) (by simpa using hv)
  ·intro names nums o0 ho
   obtain ⟨n, rest', names', s1, s2, s3⟩ := h6 names
   by_cases e2 : v.2.1 = 2
   ·refine ⟨[], 2, [], names', .fail (e2 ▸ s1), fun _ => rfl, fun h => ?_⟩
    simp [failsR, e2] at h
   ·obtain ⟨rfl, rfl, rfl⟩ := s3 e2
    obtain ⟨R1, R2, R3, R4, k1, k2, k3⟩ := g8 (bothN names v.2.2) (nums ++ [v.1]) (if v.2.1 = 3 then 3 else o0) (by split <;> first | exact .inr rfl | exact ho)
    have hf : failsR (v :: rs) = failsR rs := by
     unfold failsR
     rw [List.any_cons]
     have : (v.2.1 == 2) = false := by simpa using e2
     rw [this]
     rfl
    refine ⟨R1, R2, R3, R4, .next s1 e2 s2 k1, fun h => k2 (hf ▸ h), fun h => ?_⟩
    obtain ⟨j1, j2, j3, j4⟩ := k3 (hf ▸ h)
    refine ⟨j1, j2, by rw [j3]; simp, ?_⟩
    have hw : waitsF [] (v :: rs) = bothN (bothN [] v.2.2) (waitsF [] rs) := by
     show waitsF (bothN [] v.2.2) rs = _
     exact waits_of _ _
    rw [j4, hw]
    rcases h5 with ⟨e1, e3, _⟩ | e1 | ⟨e1, _, e3, _⟩
    ·rw [e3, if_neg (show ¬ v.2.1 = 3 by rw [e1]; decide)]
     by_cases hw0 : waitsF [] rs = []
     ·rw [hw0]
      simp [bothN]
     ·rw [if_neg hw0, if_neg (both_ne2 _ _ hw0)]
    ·exact absurd (by rw [e1]) e2
    ·rw [if_pos e1, if_neg (both_ne _ _ (both_ne2 _ _ e3))]
     split <;> rfl
theorem bothS {m : Hp} (hR : RgH m) (hD : DescH m) : ∀ d, BothS m d
 | 0, l, q, hl, _, hc, _ => by
  have : l = [] := List.eq_nil_of_length_eq_zero (by omega)
  rw [this] at hc
  simp [compQ] at hc
 | d + 1, [], q, _, _, hc, _ => by simp [compQ] at hc
 | d + 1, c :: r, q, hl, hl2, hc, ha => by
  have hc' : compQ r (q + argN c) = true := hc
  simp only [List.all_cons, Bool.and_eq_true] at ha
  simp only [List.length_cons] at hl hl2
  by_cases hk : c.k = 3
  ·by_cases hq : ∃ i, i < 8 ∧ isB (c :: r) (opT i) (opA i) = true
   ·obtain ⟨i, hi, hb, hj⟩ := least_of (P := fun i => isB (c :: r) (opT i) (opA i)) 8 hq
    have hargs := isB_args hi hk hb
    rw [hargs] at hc'
    obtain ⟨ps, rest, rs, rfl, g2, g3, g4, g5, g6, g7, g8⟩ := bothSs (bothS hR hD d) (opA i).toNat r q (by omega) (by omega) hc' ha.2
    rw [List.all_append, Bool.and_eq_true] at ha
    rw [List.length_append] at hl2
    have hcp : compQ (c :: ps.flatten) 1 = true := by
     show compQ ps.flatten (0 + argN c) = true
     rw [hargs, Nat.zero_add, ← g2]
     exact comp_flat g4
    have hrp : rightB (c :: ps.flatten) = true := (right_iff _).2 ⟨by simp, by rw [List.length_cons]; omega, by simp only [List.all_cons, Bool.and_eq_true]; exact ⟨ha.1, ha.2.1⟩, hcp⟩
    have hargL := args_uniq hrp hk g4
    have hisb : isB (c :: ps.flatten) (opT i) (opA i) = true := hb
    have hp : 0 ≤ opA i := by
     unfold opA
     split <;> decide
    have hokn : failsR rs = false → waitsF [] rs = [] → ∀ v ∈ rs, okI v.1 := fun hf hw v hv => by
     rcases g6 v hv with e | e | e
     ·exact e.2.2
     ·exfalso
      have : failsR rs = true := by
       unfold failsR
       rw [List.any_eq_true]
       exact ⟨v, hv, by rw [e]; rfl⟩
      rw [this] at hf
      cases hf
     ·exfalso
      obtain ⟨a, b, rfl⟩ := List.append_of_mem hv
      have h1 : waitsF [] (a ++ v :: b) = waitsF (bothN (waitsF [] a) v.2.2) b := by simp [waitsF]
      rw [h1] at hw
      exact waits_ne b _ (both_ne2 _ _ e.2.2.1) hw
    refine ⟨c :: ps.flatten, rest, finR i rs, by simp, hcp, g5, .op hk hi hisb (by rw [hargL, g2, g3]) ?_ hokn (by rw [hargL]; exact g7), ?_, ?_⟩
    ·intro v hv
     rcases g6 v hv with e | e | e
     ·exact okI_wf e.2.2
     ·rw [e]; exact okI_wf (show okI 0 from ⟨by decide, by decide⟩)
     ·rw [e.2.1]; exact okI_wf ⟨by omega, by omega⟩
    ·unfold finR
     split
     ·exact .inr (.inl rfl)
     ·split
      ·split
       ·next e => exact .inl ⟨rfl, rfl, resR_ok e⟩
       ·exact .inr (.inl rfl)
      ·next e =>
       refine .inr (.inr ⟨rfl, rfl, e, ?_⟩)
       show bothN [] (waitsF [] rs) = waitsF [] rs
       rw [← waits_of]
    ·intro names
     obtain ⟨R1, R2, R3, R4, k1, k2, k3⟩ := g8 names [] 1 (.inl rfl)
     cases hf : failsR rs
     ·obtain ⟨rfl, rfl, j3, j4⟩ := k3 hf
      simp only [List.nil_append] at j3
      subst j3
      by_cases hw : waitsF [] rs = []
      ·rw [if_pos hw] at j4
       subst j4
       have hS : Sm m (d + 1) (c :: (ps.flatten ++ R3)) names _ _ _ _ := .op hk hi hb hj k1 (fun _ => ⟨by simp [g3]; omega, fun x hx => by
        obtain ⟨v, hv, rfl⟩ := List.mem_map.1 hx
        exact hokn hf hw v hv⟩)
       have e1 : opO i (rs.map (·.1)) 1 = (finR i rs).2.1 := by
        unfold opO finR
        rw [if_pos rfl, hf, if_pos hw]
        simp only [Bool.false_eq_true, if_false]
        split <;> rfl
       rw [e1] at hS
       refine ⟨_, _, _, hS, ?_, fun h => ?_⟩
       ·unfold opN
        rw [if_pos rfl]
        cases e2 : (resR i (rs.map (·.1))).2
        ·have : (resR i (rs.map (·.1))).1 = 0 := by
          show finN (rawR i _).1 (rawR i _).2 = 0
          unfold finN
          have e3 : ((rawR i (rs.map (·.1))).2 && !greatB (rawR i (rs.map (·.1))).1) = false := e2
          rw [e3]
          rfl
         rw [this]
         exact okI_wf ⟨by omega, by omega⟩
        ·exact okI_wf (resR_ok e2)
       ·have e2 : (resR i (rs.map (·.1))).2 = true := by
         cases e2 : (resR i (rs.map (·.1))).2
         ·exfalso
          apply h
          unfold finR
          rw [hf, if_pos hw, e2]
          rfl
         ·rfl
        have e3 : finR i rs = ((resR i (rs.map (·.1))).1, 1, []) := by
         unfold finR
         rw [hf, if_pos hw, e2]
         rfl
        rw [e3, waits_of, hw]
        refine ⟨?_, ?_, rfl⟩
        ·unfold opR
         rw [if_neg (by rw [e2]; simp)]
        ·unfold opN
         rw [if_pos rfl]
      ·rw [if_neg hw] at j4
       subst j4
       have hS : Sm m (d + 1) (c :: (ps.flatten ++ R3)) names _ _ _ _ := .op hk hi hb hj k1 (fun h => by omega)
       have e3 : finR i rs = (0, 3, waitsF [] rs) := by
        unfold finR
        rw [hf, if_neg hw]
        rfl
       rw [e3]
       refine ⟨_, _, _, hS, okI_wf (show okI 0 from ⟨by decide, by decide⟩), fun _ => ⟨rfl, rfl, ?_⟩⟩
       exact waits_of _ _
     ·have e2 := k2 hf
      subst e2
      have hS : Sm m (d + 1) (c :: (ps.flatten ++ rest)) names _ _ _ _ := .op hk hi hb hj k1 (fun h => by omega)
      have e3 : finR i rs = (0, 2, []) := by
       unfold finR
       rw [hf]
       rfl
      rw [e3]
      exact ⟨_, _, _, hS, okI_wf (show okI 0 from ⟨by decide, by decide⟩), fun h => absurd rfl h⟩
   ·obtain ⟨p, rest, e, h1, h2⟩ := comp_split (c :: r) 1 q hc
    cases p with
    | nil => cases h1
    | cons c' p =>
     simp only [List.cons_append, List.cons.injEq] at e
     obtain ⟨rfl, rfl⟩ := e
     have hn : ∀ i, i < 8 → isB (c :: (p ++ rest)) (opT i) (opA i) = false := fun i hi => by
      cases e : isB (c :: (p ++ rest)) (opT i) (opA i)
      ·rfl
      ·exact absurd ⟨i, hi, e⟩ hq
     exact ⟨c :: p, rest, (0, 2, []), rfl, h1, h2, .none hk hn, .inr (.inl rfl), fun names => ⟨0, [], names, .none hk hn, okI_wf ⟨by decide, by decide⟩, fun h => absurd rfl h⟩⟩
  ·have h0 : argN c = 0 := by simp [argN, argsOf, hk]
   rw [h0] at hc'
   obtain ⟨l', hf⟩ := fol_end hD _ [c] (Nat.le_refl _)
   obtain ⟨e, r', rfl, hok⟩ : ∃ e r', l' = e :: r' ∧ e.ok = true := by
    rcases fol_right hR hf.1 with rfl | ⟨_, hr⟩
    ·exact ⟨c, [], rfl, ha.1⟩
    ·obtain ⟨h1, _, h3, _⟩ := (right_iff l').1 hr
     cases l' with
     | nil => simp at h1
     | cons e r' =>
      simp only [List.all_cons, Bool.and_eq_true] at h3
      exact ⟨e, r', rfl, h3.1⟩
   refine ⟨[c], r, leafR e, rfl, ?_, hc', .leaf hk hf, ?_, fun names => ?_⟩
   ·show compQ [] (0 + argN c) = true
    rw [h0]
    rfl
   ·unfold leafR
    split
    ·next e1 => exact .inl ⟨rfl, rfl, ok_int hok e1⟩
    ·split
     ·exact .inr (.inr ⟨rfl, rfl, by simp, rfl⟩)
     ·exact .inr (.inl rfl)
   ·have hS : Sm m (d + 1) (c :: r) names _ _ _ _ := .leaf hk hf
    have e1 : (numS e names).2.1 = (leafR e).2.1 := by
     unfold numS leafR
     split
     ·rfl
     ·split <;> rfl
    rw [e1] at hS
    refine ⟨_, _, _, hS, ?_, fun h => ?_⟩
    ·unfold numS
     split
     ·next e1 => exact okI_wf (ok_int hok e1)
     ·split <;> exact okI_wf (show okI 0 from ⟨by decide, by decide⟩)
    ·unfold leafR at h ⊢
     unfold numS
     split
     ·exact ⟨rfl, rfl, rfl⟩
     ·split
      ·exact ⟨rfl, rfl, rfl⟩
      ·next e1 e2 =>
       rw [if_neg e1, if_neg e2] at h
       exact absurd rfl h
end Go.Proofs.YtaehhophaaipdaaGreatDoor
