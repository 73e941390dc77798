/- Contract of the program's Got. -/
import Derived.Test.YtdonclnjgopmbaaPB
import Derived.Test.YtdonclnjgopmbaaOD
namespace Go.Proofs.Ytdonclnjgopmbaa
open Go.RowKit
attribute [local go_sem ↓] Go.wp_at_zero Go.wp_at_succ
theorem want_upd0 (q : Nm → Bool) (x : Nm) (u : Value) : updF (fun y => if q y = true then some u else none) x none = fun y => if setAt q x false y = true then some u else none := by
  funext y
  by_cases e : y = x
  · subst e; simp [updF, setAt]
  · simp [updF, setAt, e]
theorem tb_got {w w' : World} {B tb rb wb n : Nat} {s : Nm → Sl} {m : Nm → List Int} {q : Nm → Bool} {x : Nm} (h : TbAt w B tb rb wb n s m q) (hm : MpAt nmK w' wb n (updF (fun x => if q x = true then some (.agg #[]) else none) x none)) (hg : w.grownBy w' (some wb)) :
    TbAt w' B tb rb wb n s m (setAt q x false) ∧ TbTo w w' rb wb s s := by
  rw [want_upd0] at hm
  have hk : ∀ k, k < w.heap.size → k ≠ wb → w'.heap[k]? = w.heap[k]? := fun k hk hne => hg.block k hk (by simpa using hne)
  have hr : ∀ x g, wfN x → blk (s x).a = some g → w'.heap[g]? = w.heap[g]? := fun x g hx hg' => hk g ((h.row x hx).lt hg').2 (by
    obtain ⟨cu, h1⟩ := (h.row x hx).type hg'
    exact h.want.ne_cells h1)
  exact ⟨⟨(hk tb h.lt (h.want.ne_cells h.blk)).trans h.blk, h.rows.keeps (hk rb h.rows.lt h.rw), hm, fun x hx => (h.row x hx).keeps fun g hg' => hr x g hx hg', h.nil, h.apart, h.rw, h.hb⟩, hg.os, hg.tape, hg.output, hg.size, fun k hk' _ h2 _ => hk k hk' h2, fun x g hx e => .inl ⟨x, hx, e⟩⟩
/-- What is wanted behind Got. -/
def gotQ (q : Nm → Bool) : List Nm → Nm → Bool
  | [] => q
  | x :: r => gotQ (setAt q x false) r
theorem gotQ_at (x : Nm) : ∀ (xs : List Nm) (q : Nm → Bool), gotQ q xs x = (q x && !hasN xs x)
  | [], q => by simp [gotQ, hasN]
  | y :: r, q => by
    rw [gotQ, gotQ_at x r]
    by_cases e : x = y
    · subst e; simp [setAt_same, hasN]
    · rw [setAt_other _ _ e]; simp [hasN, e]
/-- In a round. -/
def QI (w : World) (B tb rb wb n : Nat) (s : Nm → Sl) (m : Nm → List Int) (q : Nm → Bool) (xs : List Nm) (k : Nat) (wr : World) : Prop := TbAt wr B tb rb wb n s m (gotQ q (xs.take k)) ∧ TbTo w wr rb wb s s
theorem gotQ_snoc (x : Nm) : ∀ (xs : List Nm) (q : Nm → Bool), gotQ q (xs ++ [x]) = setAt (gotQ q xs) x false
  | [], q => rfl
  | y :: r, q => by simp only [List.cons_append, gotQ]; exact gotQ_snoc x r _
set_option maxRecDepth 100000 in
set_option maxHeartbeats 4000000 in
theorem o18 (B tb rb wb n : Nat) (s : Nm → Sl) (m : Nm → List Int) (q : Nm → Bool) (a : Option Addr) (k0 c : Nat) (xs : List Nm) (w : World) (h : TbAt w B tb rb wb n s m q) (hx : Ns w a k0 xs) (hwf : ∀ x ∈ xs, wfN x) (hk0 : k0 ≤ 9223372036854775807) (hBw : B ≤ w.heap.size) (hfree : k0 = 0 ∨ ∀ g, blk a = some g → g < B) :
    Calls Try.prog 18 #[.pointer (some ⟨tb, 0, none⟩), .slice a k0 c] w fun e w' => e = .returned (.tuple #[]) ∧ TbAt w' B tb rb wb n s m (gotQ q xs) ∧ TbTo w w' rb wb s s := by
  have HL : Hid (Ns w a k0 xs ∧ (∀ x ∈ xs, wfN x) ∧ TbAt w B tb rb wb n s m q ∧ B ≤ w.heap.size ∧ (k0 = 0 ∨ ∀ g, blk a = some g → g < B)) := ⟨hx, hwf, h, hBw, hfree⟩
  clear h hx hwf hBw hfree
  go_enter Try.func18, Try.ntmps18
  go_wp2_with fail
  go_loopw [5, 10] (fun _ i wr => ∃ k : Nat, k ≤ k0 ∧ i = .int .i64 k ∧ Hid (QI w B tb rb wb n s m q xs k wr)) (fun _ i _ => k0 - (intOf i).toNat)
  case atStart => exact ⟨0, Nat.zero_le _, rfl, HL.out.2.2.1, TbTo.of (Below.refl _ _)⟩
  case round =>
    obtain ⟨k, hk, rfl, HK⟩ := hrel
    by_cases hlt : k < k0
    · have hlt1 : (k : Int) < (k0 : Int) := by omega
      have hk00 : (0 : Int) ≤ (k : Int) := by omega
      have hNs : Ns wr a k0 xs := HL.out.1.keeps fun g e => (TbTo.below HL.out.2.2.1 HK.out.2 HL.out.2.2.2.1).block g (HL.out.2.2.2.2.resolve_left (by omega) g e)
      obtain ⟨b1, o1, hk1, rfl, hbl, c0, c1⟩ := hNs.at hlt
      have HD : Hid (gotQ q (xs.take (k + 1)) = setAt (gotQ q (xs.take k)) xs[k] false ∧ wfN xs[k]) := ⟨by rw [List.take_succ_eq_append_getElem hk1, gotQ_snoc], HL.out.2.1 _ (List.getElem_mem hk1)⟩
      generalize xs[k] = y at *
      obtain ⟨y1, y2⟩ := y
      simp only at c0 c1
      clear hk1 hNs hbl
      obtain ⟨W, hW⟩ : ∃ W, (wr.alloc (.cells #[.int .i64 0, .int .i64 0] 28)) = W := ⟨_, rfl⟩
      obtain ⟨vb, hvb⟩ : ∃ vb, wr.heap.size = vb := ⟨_, rfl⟩
      have hc : W.heap[vb]? = some (.cells #[.int .i64 0, .int .i64 0] 28 (0, 0)) := by rw [← hW, ← hvb]; exact heap_alloc_new wr _
      have e1 := heap_setCell_same W vb 0 _ 28 (.int .i64 y1) hc
      have e2 := heap_setCell_same _ vb 1 _ 28 (.int .i64 y2) e1
      have g0 := frozen_of_row W vb 0 _ 28 hc
      have g1 := frozen_of_row W vb 1 _ 28 hc
      obtain ⟨d0, d1⟩ := box_cells hc
      have hbV : Below wr.heap.size wr ((W.setCell ⟨vb, 0, none⟩ (.int .i64 y1)).setCell ⟨vb, 1, none⟩ (.int .i64 y2)) := by
        have b1 : Below wr.heap.size wr W := by rw [← hW]; exact (Below.refl _ _).alloc (Nat.le_refl _) _
        exact (b1.setCell (p := ⟨vb, 0, none⟩) (by simp [hvb]) _).setCell (p := ⟨vb, 1, none⟩) (by simp [hvb]) _
      obtain ⟨V, hV⟩ : ∃ V, (W.setCell ⟨vb, 0, none⟩ (.int .i64 y1)).setCell ⟨vb, 1, none⟩ (.int .i64 y2) = V := ⟨_, rfl⟩
      rw [hV] at hbV
      have h1 := HK.out.1.below hbV
      have h2 := h1.below ((Below.refl V.heap.size V).drew)
      obtain ⟨w2, hrun, hm2, hg2⟩ := h2.want.del Try.underlying45 (x := (y1, y2)) HD.out.2 0
      obtain ⟨z1, z2⟩ := tb_got h2 hm2 hg2
      have HF : Hid (QI w B tb rb wb n s m q xs (k + 1) w2) := ⟨by rw [HD.out.1]; exact z1, HK.out.2.trans ((TbTo.of hbV.drew).trans z2)⟩
      have hrun' : (Builtin.delete_ #[45, 28] 0 #[.map (some wb), .agg #[.int .i64 y1, .int .i64 y2]]).run Try.prog V.drew = .ok (.tuple #[]) w2 := hrun
      obtain ⟨_, t1⟩ := h1.cells
      have e3 : V.heap[vb]? = some (.cells #[.int .i64 y1, .int .i64 y2] 28 (0, 0)) := by rw [← hV]; exact e2
      obtain ⟨u0, u1⟩ := box_cells e3
      clear h1 h2 hm2 hg2 z1 z2 hrun hbV e1 e2 e3 hc
      go_wp2_with fail
      go_region
      go_wp2_with fail
      go_roundw
      case rel => exact ⟨k + 1, by omega, by go_num, HF.out⟩
      case measure => simp [intOf]; omega
    · have hlt1 : ¬ (k : Int) < (k0 : Int) := by omega
      obtain rfl : k = k0 := by omega
      have HF : Hid (TbAt wr B tb rb wb n s m (gotQ q xs) ∧ TbTo w wr rb wb s s) := by
        have := HK.out.1
        rw [List.take_of_length_le (by rw [HL.out.1.len]; exact Nat.le_refl _)] at this
        exact ⟨this, HK.out.2⟩
      go_wp2_with fail
      exact bodyPost_end (v := .tuple #[]) (by simp [results, Try.results18, go_sem]) rfl ⟨rfl, HF.out⟩
end Go.Proofs.Ytdonclnjgopmbaa
