/- Contract of operation. -/
import Derived.Test.YtaehhophaaipdabDoorAR8
namespace Go.Proofs.YtaehhophaaipdabDoor
open Go.RowKit
attribute [local go_sem ↓] Go.wp_at_zero Go.wp_at_succ
theorem opA_nat (i : Nat) : opA i = ((opA i).toNat : Int) ∧ (opA i).toNat ≤ 2 := by
  unfold opA
  split <;> decide
theorem Lk.ops {w : World} {base lb : Nat} {p : Value} {B g : Nat} {names : List Nm} {K : Nat} (h : Lk w base lb p B g names K) : OpsAt w B g := by
  obtain ⟨M, n, nv, h1, _⟩ := h
  exact h1.ops
set_option maxRecDepth 100000 in
set_option maxHeartbeats 4000000 in
theorem h76 (m : Hp) (w0 : World) (lb : Nat) (p : Value) (B g : Nat) (d : Nat) (hC : SumC m w0 lb p B g d) (i : Nat) (hi8 : i < 8) (cells : List C) (names : List Nm) (nums : List Int) (o : Int) (rest : List C) (names' : List Nm) (v : Value) (w : World) (K : Nat) (hs : Sms m d (opA i).toNat cells names [] 1 nums o rest names') (hok : o = 1 → (nums.length : Int) = opA i ∧ ∀ x ∈ nums, okI x) (hb : Below w0.heap.size w0 w) (hL : Lk w w0.heap.size lb p B g names K) (hT : TermAt w0 v cells) (hW : ∀ c ∈ cells, wfN (c.vn, c.vk)) (hK : K + cells.length < 999999999) :
    Calls Tryd.prog 30 #[.pointer (some ⟨lb, 0, none⟩), .agg #[.string (opT i), .int .i64 (opA i), cloV B i], v] w (SumPost w0 lb p B g (opN i nums o) (opO i nums o) (opR i nums o rest) names' (K + cells.length) w) := by
  obtain ⟨f, fc, hcl⟩ := cloV_one B i
  obtain ⟨hA, hA2⟩ := opA_nat i
  have hba : Below w.heap.size w (w.alloc (.cells #[.string (opT i), .int .i64 (opA i), cloV B i] 77)) := (Below.refl _ w).alloc (Nat.le_refl _) _
  have H93 := h93 m w0 lb p B g d hC (opA i).toNat hA2 cells names nums o rest names' v (w.alloc (.cells #[.string (opT i), .int .i64 (opA i), cloV B i] 77)) K hs (hb.trans (hba.mono hb.size)) (hL.below hba) hT hW hK
  rw [← hA] at H93
  have HKa : Hid (KeepT w (w.alloc (.cells #[.string (opT i), .int .i64 (opA i), cloV B i] 77))) := KeepT.of_below hba
  have HBx : Hid ((w.alloc (.cells #[.string (opT i), .int .i64 (opA i), cloV B i] 77)).heap[w.heap.size]? = some (.cells #[.string (opT i), .int .i64 (opA i), cloV B i] 77 (0, 0))) := heap_alloc_new w _
  have c1 : (w.alloc (.cells #[.string (opT i), .int .i64 (opA i), cloV B i] 77)).cell? ⟨w.heap.size, 1, none⟩ = some (.int .i64 (opA i)) := by rw [cell_of_row _ _ 1 _ 77 (0, 0) HBx.out]; rfl
  have H37 : Hid (∀ W, OpsAt W B g → ∀ nv, IntsR W nv nums → o = 1 → Calls Tryd.prog 50 #[.agg #[.string (opT i), .int .i64 (opA i), cloV B i], nv] W fun e w' => e = .returned (.tuple #[.int .i64 (resR i nums).1, .bool (resR i nums).2]) ∧ Below W.heap.size W w') := fun W hO nv hI he => h37 i hi8 nums B g nv W hO hI (hok he).1 (hok he).2
  have HN : Hid (opN i nums o = if o = 1 then (resR i nums).1 else 0) := rfl
  have HO : Hid (opO i nums o = if o = 1 then (if (resR i nums).2 = true then 1 else 2) else o) := rfl
  have HR : Hid (opR i nums o rest = if o = 1 ∧ (resR i nums).2 = false then [] else rest) := rfl
  obtain ⟨a0, c0, hf0⟩ := hT.form
  subst hf0
  rw [hcl] at H93 HKa HBx H37 c1 ⊢
  clear hs hL hT hW hok hC hba hA hA2 hcl
  generalize opT i = tx at *
  generalize opA i = ar at *
  go_enter Tryd.func30, Tryd.ntmps30
  go_wp2_with fail
  refine H93.mono ?_
  rintro e w1 ⟨nv, rv, K', rfl, hI1, hT1, hL1, hK1, hw1, hb1, hk1⟩
  have hbx1 : w1.heap[w.heap.size]? = some (.cells #[.string tx, .int .i64 ar, .func (Fn.func f) #[] fc] 77 (0, 0)) := hk1.2 _ _ _ _ HBx.out (by decide) (by decide)
  have d0 : w1.cell? ⟨w.heap.size, 0, none⟩ = some (.string tx) := by rw [cell_of_row _ _ 0 _ 77 (0, 0) hbx1]; rfl
  have d1 : w1.cell? ⟨w.heap.size, 1, none⟩ = some (.int .i64 ar) := by rw [cell_of_row _ _ 1 _ 77 (0, 0) hbx1]; rfl
  have d2 : w1.cell? ⟨w.heap.size, 2, none⟩ = some (.func (Fn.func f) #[] fc) := by rw [cell_of_row _ _ 2 _ 77 (0, 0) hbx1]; rfl
  have HF : Hid (TermAt w0 rv rest ∧ Lk w1 w0.heap.size lb p B g names' K' ∧ K' + rest.length ≤ K + cells.length ∧ (∀ c ∈ rest, wfN (c.vn, c.vk)) ∧ Below w0.heap.size w0 w1 ∧ KeepT w w1) := ⟨hT1, hL1, hK1, hw1, hb1, HKa.out.trans hk1⟩
  have H37 : Hid (o = 1 → Calls Tryd.prog 50 #[.agg #[.string tx, .int .i64 ar, .func (Fn.func f) #[] fc], nv] w1 fun e w' => e = .returned (.tuple #[.int .i64 (resR i nums).1, .bool (resR i nums).2]) ∧ Below w1.heap.size w1 w') := H37.out w1 hL1.ops nv hI1
  obtain ⟨an, cn, hnf⟩ := hI1.form
  obtain ⟨ar', cr, hrf⟩ := hT1.form
  subst hnf hrf
  clear hI1 hT1 hL1 hK1 hw1 hb1 hk1 hbx1 H93 c1
  by_cases ho : o = 1
  · have H37 := H37.out ho
    have hq : (o != 1) = false := by simp [ho]
    cases hr : (resR i nums).2
    · have HN1 : Hid (opN i nums o = 0) := by
        show opN i nums o = 0
        rw [HN.out, if_pos ho]
        have : (resR i nums).2 = finB (rawR i nums).1 (rawR i nums).2 := rfl
        have h2 : (resR i nums).1 = finN (rawR i nums).1 (rawR i nums).2 := rfl
        rw [hr] at this
        rw [h2]
        unfold finN
        unfold finB at this
        rw [← this]
        rfl
      have HO1 : Hid (opO i nums o = 2) := by show opO i nums o = 2; rw [HO.out, if_pos ho, hr]; rfl
      have HR1 : Hid (opR i nums o rest = []) := by show opR i nums o rest = []; rw [HR.out, if_pos ⟨ho, hr⟩]
      rw [hr] at H37
      clear ho hr
      go_wp2_with fail
      refine H37.mono ?_
      rintro e w2 ⟨rfl, hb2⟩
      have HP : Hid (SumPost w0 lb p B g (opN i nums o) (opO i nums o) (opR i nums o rest) names' (K + cells.length) w (.returned (.tuple #[.int .i64 0, .int .u8 2, .slice none 0 0])) w2) := by
        refine ⟨.slice none 0 0, K', by rw [HN1.out, HO1.out], by rw [HR1.out]; exact term_nil _ _, HF.out.2.1.below hb2, ?_, by rw [HR1.out]; simp, HF.out.2.2.2.2.1.trans (hb2.mono HF.out.2.2.2.2.1.size), HF.out.2.2.2.2.2.trans (KeepT.of_below hb2)⟩
        rw [HR1.out]
        have := HF.out.2.2.1
        simp; omega
      go_wp2_with fail
      exact bodyPost_ret (v := .tuple #[.int .i64 0, .int .u8 2, .slice none 0 0]) (by simp [results, Tryd.results30, go_sem]) rfl HP.out
    · have HN1 : Hid (opN i nums o = (resR i nums).1) := by show opN i nums o = _; rw [HN.out, if_pos ho]
      have HO1 : Hid (opO i nums o = 1) := by show opO i nums o = 1; rw [HO.out, if_pos ho, hr]; rfl
      have HR1 : Hid (opR i nums o rest = rest) := by show opR i nums o rest = rest; rw [HR.out, if_neg (fun h => by rw [hr] at h; cases h.2)]
      rw [hr] at H37
      clear ho hr
      generalize (resR i nums).1 = rn at *
      go_wp2_with fail
      refine H37.mono ?_
      rintro e w2 ⟨rfl, hb2⟩
      have HP : Hid (SumPost w0 lb p B g (opN i nums o) (opO i nums o) (opR i nums o rest) names' (K + cells.length) w (.returned (.tuple #[.int .i64 rn, .int .u8 1, .slice ar' rest.length cr])) w2) := by
        rw [HN1.out, HO1.out, HR1.out]
        exact ⟨_, K', rfl, HF.out.1, HF.out.2.1.below hb2, HF.out.2.2.1, HF.out.2.2.2.1, HF.out.2.2.2.2.1.trans (hb2.mono HF.out.2.2.2.2.1.size), HF.out.2.2.2.2.2.trans (KeepT.of_below hb2)⟩
      go_wp2_with fail
      exact bodyPost_ret (v := .tuple #[.int .i64 rn, .int .u8 1, .slice ar' rest.length cr]) (by simp [results, Tryd.results30, go_sem]) rfl HP.out
  · have hq : (o != 1) = true := by simp [ho]
    have HP : Hid (SumPost w0 lb p B g (opN i nums o) (opO i nums o) (opR i nums o rest) names' (K + cells.length) w (.returned (.tuple #[.int .i64 0, .int .u8 o, .slice ar' rest.length cr])) w1) := by
      have e1 : opN i nums o = 0 := by rw [HN.out, if_neg ho]
      have e2 : opO i nums o = o := by rw [HO.out, if_neg ho]
      have e3 : opR i nums o rest = rest := by rw [HR.out, if_neg (fun h => ho h.1)]
      rw [e1, e2, e3]
      exact ⟨_, K', rfl, HF.out⟩
    go_wp2_with fail
    exact bodyPost_ret (v := .tuple #[.int .i64 0, .int .u8 o, .slice ar' rest.length cr]) (by simp [results, Tryd.results30, go_sem]) rfl HP.out
end Go.Proofs.YtaehhophaaipdabDoor
