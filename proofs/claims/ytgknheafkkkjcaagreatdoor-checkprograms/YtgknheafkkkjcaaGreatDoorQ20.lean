/- Contracts of Where and Program, of programs without guards. Contracts of Contains at names, hasMore, and of the step that looks at guards. Contracts of Where and Program, of any program whose numbers fit. What the check says of a program in another order, and of one without the clauses of a predicate. The fixed program that the law asks about: what the check says of it. Contracts of the law's helpers as the fixed program calls them; live. The contract of CheckOrder: rotated programs, and programs without the clauses of a predicate. Programs that are handed in, opened: clauses, their terms, and that their numbers fit. Contracts of the reference's HasName, Vars, VarsOf. -/
import Derived.Test.YtgknheafkkkjcaaGreatDoorQ19
import Derived.Test.YtgknheafkkkjcaaGreatDoorQ16
import Derived.Test.YtgknheafkkkjcaaGreatDoorQ11
import Derived.Test.YtgknheafkkkjcaaGreatDoorQ13
namespace Go.Proofs.YtgknheafkkkjcaaGreatDoor
open Go.RowKit
attribute [local go_sem ↓] Go.wp_at_zero Go.wp_at_succ
theorem below_dN {n : Nat} {w w' : World} (h : Below n w w') (m : Nat) : Below n w (w'.drewN m) := by
  exact below_drewN h m
def moreS (g hd : List C) : Bool := (nubN (varsOf g)).any fun v => !hasN (nubN (varsOf hd)) v
def step3 (c : Cl) : Bool := c.gs.any fun g => !isGuardS g || moreS g c.hd
def stp (cs : List Cl) : Nat → Cl → Bool
  | 0 => step0 cs
  | 1 => misS
  | 2 => step2
  | 3 => step3
  | 4 => step4
  | _ => step5 cs
def errS : Nat → Int
  | 0 => 5
  | 1 => 6
  | 2 => 40
  | 3 => 41
  | 4 => 42
  | _ => 43
def stpG : Nat → Nat
  | 0 => 52
  | 1 => 54
  | 2 => 55
  | 3 => 57
  | 4 => 61
  | _ => 63
def stpB (B Hb : Nat) : Nat → Array Value
  | 0 => #[.pointer (some ⟨B, 0, none⟩)]
  | 1 => #[]
  | 2 => #[]
  | 3 => #[]
  | 4 => #[]
  | _ => #[.pointer (some ⟨Hb, 0, none⟩)]
theorem step_cells (B Hb k : Nat) (hk : k < 6) : (stepVals B Hb)[k * 2]? = some (.int .i64 (errS k)) ∧ (stepVals B Hb)[k * 2 + 1]? = some (.func (.func (stpG k)) #[] (stpB B Hb k)) := by
  match k, hk with
  | 0, _ => exact ⟨rfl, rfl⟩
  | 1, _ => exact ⟨rfl, rfl⟩
  | 2, _ => exact ⟨rfl, rfl⟩
  | 3, _ => exact ⟨rfl, rfl⟩
  | 4, _ => exact ⟨rfl, rfl⟩
  | 5, _ => exact ⟨rfl, rfl⟩
theorem step_enters (k : Nat) (hk : k < 6) : ∀ args w, (callFunc (stpG k) args).run Tryz.prog w = .ok (.enter (stpG k) args) w := by
  match k, hk with
  | 0, _ => exact enters_of Tryz.func52 (by kernel_rfl) rfl
  | 1, _ => exact enters_of Tryz.func54 (by kernel_rfl) rfl
  | 2, _ => exact enters_of Tryz.func55 (by kernel_rfl) rfl
  | 3, _ => exact enters_of Tryz.func57 (by kernel_rfl) rfl
  | 4, _ => exact enters_of Tryz.func61 (by kernel_rfl) rfl
  | 5, _ => exact enters_of Tryz.func63 (by kernel_rfl) rfl
/-- What is asked of a program ahead of its check. -/
structure Fine (cs : List Cl) : Prop where
  len : cs.length ≤ 1759218604441
  cw : ∀ c ∈ cs, ClW c
  gl : ∀ c ∈ cs, c.gs = []
  bl : ∀ c ∈ cs, c.bs.length ≤ 5864062014805
  hw : ∀ c ∈ cs, hasNameS c.hd = true → wfP (predS c.hd)
  pw : ∀ c ∈ cs, ∀ y ∈ calledS c.bs, wfP y
theorem idxK_neg {p : Cl → Bool} {ls : List Cl} (h : idxK p ls = -1) : ∀ c ∈ ls, p c = false := by
  unfold idxK at h
  cases hq : ls.findIdx? p with
  | none => rw [List.findIdx?_eq_none_iff] at hq; exact hq
  | some i => rw [hq] at h; simp only at h; omega
theorem idxK_form (p : Cl → Bool) (ls : List Cl) : idxK p ls = -1 ∨ ∃ i : Nat, i < ls.length ∧ idxK p ls = (i : Int) := by
  unfold idxK
  cases hq : ls.findIdx? p with
  | none => exact .inl rfl
  | some i => exact .inr ⟨i, (List.findIdx?_eq_some_iff_getElem.1 hq).1, rfl⟩
theorem mis_head {c : Cl} (h : misS c = false) : rightB c.hd = true := by
  unfold misS wrongS at h
  cases hr : rightB c.hd
  · rw [hr] at h; simp at h
  · rfl
theorem step_call (cs : List Cl) (F : Fine cs) (v : Value) (w : World) (hP : ProgAt w v cs) (hS : Signs w) {B Hb SB M : Nat} {D : DataW Unit} (hA : StepsAt w cs v B Hb SB M D) (k : Nat) (hk : k < 6) (hn : ∀ j, j < k → idxK (stp cs j) cs = -1) :
    Calls Tryz.prog 30 #[v, .func (.func (stpG k)) #[] (stpB B Hb k)] w fun e w' => e = .returned (.int .i64 (idxK (stp cs k) cs)) ∧ Below w.heap.size w w' := by
  refine k54 (stpG k) (stpB B Hb k) (step_enters k hk) (stp cs k) cs v w hP F.len ?_
  intro W x c hW hm hC
  have hS' := hS.below hW
  have hA' := hA.below hW
  obtain ⟨ap, cp, hv⟩ := hP.form
  match k, hk, hn with
  | 0, _, _ => exact k63 cs c x W hC B ap cp (by rw [← hv]; exact hA'.box) hA'.boxLt
  | 1, _, _ => exact k65 c x W hC hS' (F.cw c hm) (by rw [F.gl c hm]; simp) (F.bl c hm)
  | 2, _, hn =>
    have hr := mis_head (idxK_neg (hn 1 (by omega)) c hm)
    have hl := right_len hr
    exact k66 c x W hC (by omega) hl.2 (F.cw c hm _ (.inl rfl))
  | 3, _, _ =>
    have e : step3 c = false := by unfold step3; rw [F.gl c hm]; rfl
    show Calls Tryz.prog 57 _ W fun e w' => e = .returned (.bool (step3 c)) ∧ _
    rw [e]
    exact k68_nil c x W hC (F.gl c hm)
  | 4, _, _ => exact k72 c x W hC hS' (F.bl c hm)
  | 5, _, _ => exact k74 cs c x W hC hS' (F.bl c hm) (F.pw c hm) M Hb D F.len hA'.grp hA'.isG hA'.hds hA'.hdsLt
/-- What Where tells of a program. -/
def IsWhere (cs : List Cl) (n e : Int) : Prop :=
  (∃ k, k < 6 ∧ (∀ j, j < k → idxK (stp cs j) cs = -1) ∧ 0 ≤ idxK (stp cs k) cs ∧ n = idxK (stp cs k) cs ∧ e = errS k) ∨ ((∀ j, j < 6 → idxK (stp cs j) cs = -1) ∧ n = 0 ∧ e = 0)
set_option maxRecDepth 100000 in
set_option maxHeartbeats 2000000 in
theorem k37 (cs : List Cl) (F : Fine cs) (v : Value) (w : World) (hP : ProgAt w v cs) (hS : Signs w) :
    Calls Tryz.prog 7 #[v] w fun e w' => ∃ n er, e = .returned (.tuple #[.int .i64 n, .int .i64 er]) ∧ IsWhere cs n er ∧ Below w.heap.size w w' := by
  have HP : Hid (ProgAt w v cs) := hP
  have HS : Hid (Signs w) := hS
  have H53 := k53 cs v w hP F.len F.hw
  have HStep : Hid (∀ W, Below w.heap.size w W → ∀ B Hb SB M D, StepsAt W cs v B Hb SB M D → ∀ k, k < 6 → (∀ j, j < k → idxK (stp cs j) cs = -1) → Calls Tryz.prog 30 #[v, .func (.func (stpG k)) #[] (stpB B Hb k)] W fun e w' => e = .returned (.int .i64 (idxK (stp cs k) cs)) ∧ Below W.heap.size W w') := fun W hW B Hb SB M D hA k hk hn => step_call cs F v W (HP.out.below hW) (HS.out.below hW) hA k hk hn
  have HLen : Hid (cs.length ≤ 1759218604441) := F.len
  obtain ⟨ad, cap, hv⟩ := hP.form
  subst hv
  clear hP hS F
  go_enter Tryz.func7, Tryz.ntmps7
  go_wp2_with fail
  refine H53.mono ?_
  rintro e w1 ⟨B, Hb, SB, M, D, rfl, hA, hb1⟩
  have HA : Hid (StepsAt w1 cs (.slice ad cs.length cap) B Hb SB M D) := hA
  clear hA H53
  go_wp2_with fail
  go_loopw [10] (fun i wr => ∃ k : Nat, k ≤ 6 ∧ i = .int .i64 k ∧ Hid (∀ j, j < k → idxK (stp cs j) cs = -1) ∧ Below w1.heap.size w1 wr) (fun i _ => 6 - (intOf i).toNat)
  case atStart => exact ⟨0, by omega, rfl, fun j hj => by omega, Below.refl _ _⟩
  case round =>
    obtain ⟨k, hk, rfl, HI, hbr⟩ := hrel
    by_cases hlt : k < 6
    · have hlt' : (k : Int) < 6 := by omega
      have hk0 : (0 : Int) ≤ (k : Int) := by omega
      obtain ⟨q0, q1⟩ := step_cells B Hb k hlt
      have hA := HA.out.below hbr
      have p0 := hA.row _ _ q0
      have p1 := hA.row _ _ q1
      rw [Nat.zero_add] at p0 p1
      have hbw := hb1.trans (hbr.mono hb1.size)
      have HB2 : Hid (∀ o : Obj, Below w.heap.size w (wr.alloc o)) := fun o => hbw.alloc hbw.size o
      have HB3 : Hid (∀ o : Obj, Below w1.heap.size w1 (wr.alloc o)) := fun o => hbr.alloc hbr.size o
      have HC := HStep.out (wr.alloc (.cells #[.int .i64 (errS k), .func (.func (stpG k)) #[] (stpB B Hb k)] 72)) (HB2.out _) B Hb SB M D (hA.below ((Below.refl _ wr).alloc (Nat.le_refl _) _)) k hlt HI.out
      have HCell : Hid (∀ W, Below (wr.alloc (.cells #[.int .i64 (errS k), .func (.func (stpG k)) #[] (stpB B Hb k)] 72)).heap.size (wr.alloc (.cells #[.int .i64 (errS k), .func (.func (stpG k)) #[] (stpB B Hb k)] 72)) W → W.cell? ⟨wr.heap.size, 0, none⟩ = some (.int .i64 (errS k))) := fun W hW => by
        rw [hW.cell (by simp), cell_of_row _ wr.heap.size 0 _ 72 (0, 0) (heap_alloc_new wr _)]; rfl
      have hform := idxK_form (stp cs k) cs
      have HNext : Hid (idxK (stp cs k) cs = -1 → ∀ j, j < k + 1 → idxK (stp cs j) cs = -1) := fun h j hj => if e : j = k then by subst e; exact h else HI.out j (by omega)
      have HDone : Hid (0 ≤ idxK (stp cs k) cs → IsWhere cs (idxK (stp cs k) cs) (errS k)) := fun h => .inl ⟨k, hlt, HI.out, h, rfl, rfl⟩
      clear hA q0 q1
      generalize idxK (stp cs k) cs = i at *
      generalize errS k = er at *
      generalize stpG k = g at *
      generalize stpB B Hb k = lb at *
      go_wp2_with fail
      refine HC.mono ?_
      rintro e w2 ⟨rfl, hb2⟩
      have c0 := HCell.out w2 hb2
      rcases hform with h1 | ⟨m, hm, h1⟩
      · have HN : Hid (∀ j, j < k + 1 → idxK (stp cs j) cs = -1) := HNext.out h1
        subst h1
        clear HCell HC
        go_wp2_with fail
        go_roundw
        case rel => exact ⟨k + 1, by omega, by go_num, HN, (HB3.out _).trans (hb2.mono (HB3.out _).size)⟩
        case measure => simp [intOf]; omega
      · have HN : Hid (IsWhere cs i er) := HDone.out (by omega)
        subst h1
        have hm0 : (0 : Int) ≤ (m : Int) := by omega
        clear HCell HC HNext HDone
        go_wp2_with fail
        have hbw2 := (HB2.out _).trans (hb2.mono (HB2.out _).size)
        go_quiet (fail)
        go_wp2_with fail
        exact bodyPost_ret (v := .tuple #[.int .i64 (m : Int), .int .i64 er]) (by simp [results, Tryz.results7, go_sem]) rfl ⟨_, _, rfl, HN.out, below_dN hbw2 _⟩
    · have hlt' : ¬ ((k : Int) < 6) := by omega
      have HN : Hid (IsWhere cs 0 0) := .inr ⟨fun j hj => HI.out j (by omega), rfl, rfl⟩
      have hbw := hb1.trans (hbr.mono hb1.size)
      go_wp2_with fail
      exact bodyPost_ret (v := .tuple #[.int .i64 0, .int .i64 0]) (by simp [results, Tryz.results7, go_sem]) rfl ⟨_, _, rfl, HN.out, hbw⟩
set_option maxRecDepth 100000 in
theorem k15 (cs : List Cl) (F : Fine cs) (v : Value) (w : World) (hP : ProgAt w v cs) (hS : Signs w) :
    Calls Tryz.prog 10 #[v] w fun e w' => ∃ n er, e = .returned (.int .i64 er) ∧ IsWhere cs n er ∧ Below w.heap.size w w' := by
  have H := k37 cs F v w hP hS
  obtain ⟨ad, cap, hv⟩ := hP.form
  subst hv
  clear hP hS F
  go_enter Tryz.func10, Tryz.ntmps10
  go_wp2_with fail
  refine H.mono ?_
  rintro e w1 ⟨n, er, rfl, hI, hb1⟩
  have HI : Hid (IsWhere cs n er) := hI
  clear hI
  go_wp2_with fail
  go_ret
  exact ⟨n, er, rfl, HI.out, hb1⟩
theorem where_ok {cs : List Cl} {n e : Int} (h : IsWhere cs n e) (hn : ∀ j, j < 6 → idxK (stp cs j) cs = -1) : e = 0 := by
  rcases h with ⟨k, hk, _, h0, _, _⟩ | ⟨_, _, h⟩
  · rw [hn k hk] at h0; omega
  · exact h
theorem where_at {cs : List Cl} {n e : Int} (h : IsWhere cs n e) (k : Nat) (hk : k < 6) (hn : ∀ j, j < k → idxK (stp cs j) cs = -1) (h0 : 0 ≤ idxK (stp cs k) cs) : e = errS k := by
  rcases h with ⟨i, hi, h1, h2, _, h3⟩ | ⟨h1, _, _⟩
  · rcases Nat.lt_trichotomy i k with h | h | h
    · rw [hn i h] at h2; omega
    · rw [h3, h]
    · rw [h1 k h] at h0; omega
  · rw [h1 k hk] at h0; omega
end Go.Proofs.YtgknheafkkkjcaaGreatDoor
namespace Go.Proofs.YtgknheafkkkjcaaGreatDoor
open Go.RowKit
set_option maxRecDepth 100000 in
set_option maxHeartbeats 1000000 in
theorem k103 (ls : List Nm) (y : Nm) (v : Value) (w : World) (hR : NamesAt w v ls) (hl : ls.length ≤ 1000000000) :
    Calls Tryz.prog 113 #[v, .agg #[.int .i64 y.1, .int .i64 y.2]] w fun e w' => e = .returned (.int .i64 (idxA (fun x => eqN y x) ls)) ∧ Below w.heap.size w w' := by
  have HRow : Hid (NamesAt w v ls) := hR
  obtain ⟨ad, cap, hv⟩ := hR.form
  subst hv
  clear hR
  have HB0 : Hid (Below w.heap.size w (w.alloc (.cells #[.int .i64 y.1, .int .i64 y.2] 80))) := (Below.refl _ w).alloc (Nat.le_refl _) _
  have HBox : Hid (∀ W, Below (w.alloc (.cells #[.int .i64 y.1, .int .i64 y.2] 80)).heap.size (w.alloc (.cells #[.int .i64 y.1, .int .i64 y.2] 80)) W → W.cell? ⟨w.heap.size, 0, none⟩ = some (.int .i64 y.1) ∧ W.cell? ⟨w.heap.size, 1, none⟩ = some (.int .i64 y.2)) := fun W hW => by
    have e1 : W.heap[w.heap.size]? = some (.cells #[.int .i64 y.1, .int .i64 y.2] 80 (0, 0)) := (hW.block w.heap.size (by simp)).trans (heap_alloc_new w _)
    constructor
    · rw [cell_of_row W _ 0 _ 80 (0, 0) e1]; rfl
    · rw [cell_of_row W _ 1 _ 80 (0, 0) e1]; rfl
  obtain ⟨y1, y2⟩ := y
  simp only at HB0 HBox
  go_enter Tryz.func113, Tryz.ntmps113
  go_wp2_with fail
  go_loopw [8] (fun i wr => ∃ k : Nat, k ≤ ls.length ∧ i = .int .i64 k ∧ Hid (noneA (fun x => eqN (y1, y2) x) ls k) ∧ Below (w.heap.size + 1) (w.alloc (.cells #[.int .i64 y1, .int .i64 y2] 80)) wr) (fun i _ => ls.length - (intOf i).toNat)
  case atStart => exact ⟨0, by omega, rfl, fun j _ hj => by omega, Below.refl _ _⟩
  case round =>
    obtain ⟨k, hk, rfl, HI, hbr0⟩ := hrel
    have hbr : Below w.heap.size w wr := HB0.out.trans (hbr0.mono (by omega))
    have hsz := hbr.size
    obtain ⟨b0, b1⟩ := HBox.out wr (hbr0.mono (by simp))
    by_cases hlt : k < ls.length
    · have hlt' : (k : Int) < (ls.length : Int) := by omega
      have hk0 : (0 : Int) ≤ (k : Int) := by omega
      obtain ⟨b, o, cap', hv', hc, hc1⟩ := names_at (HRow.out.below hbr) k hlt
      simp only [Value.slice.injEq] at hv'
      obtain ⟨rfl, _, rfl⟩ := hv'
      have hE := eql23b y1 y2 ls[k].1 ls[k].2
      have HE : Hid ((y1 == ls[k].1 && y2 == ls[k].2) = eqN (y1, y2) ls[k]) := rfl
      cases hq : eqN (y1, y2) ls[k]
      · rw [HE.out, hq] at hE
        have HN : Hid (noneA (fun x => eqN (y1, y2) x) ls (k + 1)) := fun j hj h => if e : j = k then by subst e; exact hq else HI.out j hj (by omega)
        clear hq HE
        generalize ls[k] = x at *
        go_wp2_with fail
        go_quiet (fail)
        go_wp2_with fail
        go_roundw
        case rel => exact ⟨k + 1, by omega, by go_num, HN, below_dN hbr0 _⟩
        case measure => simp [intOf]; omega
      · rw [HE.out, hq] at hE
        have HN : Hid (idxA (fun x => eqN (y1, y2) x) ls = (k : Int)) := idxA_at _ ls k hlt HI.out hq
        clear hq HE
        generalize ls[k] = x at *
        go_wp2_with fail
        go_quiet (fail)
        go_wp2_with fail
        go_ret
        exact ⟨by rw [HN.out]; rfl, below_dN hbr _⟩
    · have hlt' : ¬ ((k : Int) < (ls.length : Int)) := by omega
      have HN : Hid (idxA (fun x => eqN (y1, y2) x) ls = -1) := idxA_none _ ls (fun j hj _ => HI.out j hj (by omega))
      go_wp2_with fail
      go_ret
      exact ⟨by rw [HN.out]; rfl, hbr⟩
theorem idx_has (ls : List Nm) (y : Nm) : decide ((0 : Int) ≤ idxA (fun x => eqN y x) ls) = hasN ls y := by
  rw [idxA_any]
  unfold hasN
  congr 1
  funext x
  rw [Bool.eq_iff_iff, eqN_iff, eqN_iff]
  exact eq_comm
set_option maxRecDepth 100000 in
theorem k96 (ls : List Nm) (y : Nm) (v : Value) (w : World) (hR : NamesAt w v ls) (hl : ls.length ≤ 1000000000) :
    Calls Tryz.prog 92 #[v, .agg #[.int .i64 y.1, .int .i64 y.2]] w fun e w' => e = .returned (.bool (hasN ls y)) ∧ Below w.heap.size w w' := by
  have HB0 : Hid (Below w.heap.size w (w.alloc (.cells #[.int .i64 y.1, .int .i64 y.2] 80))) := (Below.refl _ w).alloc (Nat.le_refl _) _
  have H103 := k103 ls y v _ (hR.below HB0.out) hl
  have HE : Hid (decide ((0 : Int) ≤ idxA (fun x => eqN y x) ls) = hasN ls y) := idx_has ls y
  obtain ⟨ad, cap, hv⟩ := hR.form
  subst hv
  clear hR
  generalize idxA (fun x => eqN y x) ls = i at *
  obtain ⟨y1, y2⟩ := y
  simp only at HB0 H103
  go_enter Tryz.func92, Tryz.ntmps92
  go_wp2_with fail
  refine H103.mono ?_
  rintro e w1 ⟨rfl, hb1⟩
  go_wp2_with fail
  go_ret
  exact ⟨by rw [← HE.out]; rfl, HB0.out.trans (hb1.mono HB0.out.size)⟩
set_option maxRecDepth 100000 in
theorem k95 (ls : List Nm) (y : Nm) (v : Value) (B : Nat) (w : World) (hR : NamesAt w v ls) (hl : ls.length ≤ 1000000000) (hB : w.cell? ⟨B, 0, none⟩ = some v) (hBl : B < w.heap.size) :
    Calls Tryz.prog 91 #[.agg #[.int .i64 y.1, .int .i64 y.2], .pointer (some ⟨B, 0, none⟩)] w fun e w' => e = .returned (.bool (!hasN ls y)) ∧ Below w.heap.size w w' := by
  have HB0 : Hid (Below w.heap.size w (w.alloc (.cells #[.int .i64 y.1, .int .i64 y.2] 80))) := (Below.refl _ w).alloc (Nat.le_refl _) _
  have H96 := k96 ls y v _ (hR.below HB0.out) hl
  have hBa : ∀ o : Obj, (w.alloc o).cell? ⟨B, 0, none⟩ = some v := fun o => cell_alloc hBl hB
  obtain ⟨ad, cap, hv⟩ := hR.form
  subst hv
  clear hR hB
  generalize hasN ls y = r at *
  obtain ⟨y1, y2⟩ := y
  simp only at HB0 H96
  go_enter Tryz.func91, Tryz.ntmps91
  go_wp2_with fail
  refine H96.mono ?_
  rintro e w1 ⟨rfl, hb1⟩
  go_wp2_with fail
  go_ret
  exact ⟨rfl, HB0.out.trans (hb1.mono HB0.out.size)⟩
theorem vars_call (l : List C) (v : Value) (w W : World) (h : TermAt w v l) (hl : l.length ≤ 256) (hW : ∀ x ∈ varsOf l, wfN x) (hb : Below w.heap.size w W) :
    Calls Tryz.prog 89 #[.slice (some ⟨W.heap.size, 0, none⟩) 1 1] (W.alloc (.cells #[v] 64)) fun e w' => ∃ u, e = .returned u ∧ NamesAt w' u (nubN (varsOf l)) ∧ Below w.heap.size w w' := by
  have hv : (varsOf l).length ≤ 256 := by
    unfold varsOf
    rw [List.length_map]
    exact Nat.le_trans (List.length_filter_le _ _) hl
  have H := c34 [l] _ _ (row_one W v l (h.below hb)) (by rw [varsAll_one]; omega) (by rw [varsAll_one]; exact hW)
  rw [varsAll_one] at H
  refine H.mono ?_
  rintro e w1 ⟨u, rfl, hO, hb1⟩
  have hb2 := hb.alloc hb.size (.cells #[v] 64)
  have hnl : (nubN (varsOf l)).length ≤ 256 := Nat.le_trans (nubN_len _) hv
  exact ⟨u, rfl, namesAt_of_owns hO (by unfold maxLen; omega), hb2.trans (hb1.mono hb2.size)⟩
theorem nub_small (l : List C) (hl : l.length ≤ 256) : (nubN (varsOf l)).length ≤ 256 := by
  refine Nat.le_trans (nubN_len _) ?_
  unfold varsOf
  rw [List.length_map]
  exact Nat.le_trans (List.length_filter_le _ _) hl
set_option maxRecDepth 100000 in
set_option maxHeartbeats 1000000 in
theorem k71 (l o : List C) (v vo : Value) (w : World) (h : TermAt w v l) (ho : TermAt w vo o) (hl : l.length ≤ 256) (hol : o.length ≤ 256) (hW : ∀ x ∈ varsOf l, wfN x) (hWo : ∀ x ∈ varsOf o, wfN x) :
    Calls Tryz.prog 60 #[v, vo] w fun e w' => e = .returned (.bool (moreS l o)) ∧ Below w.heap.size w w' := by
  have H1 := vars_call o vo w w ho hol hWo (Below.refl _ _)
  have H2 : Hid (∀ W, Below w.heap.size w W → Calls Tryz.prog 89 #[.slice (some ⟨W.heap.size, 0, none⟩) 1 1] (W.alloc (.cells #[v] 64)) fun e w' => ∃ u, e = .returned u ∧ NamesAt w' u (nubN (varsOf l)) ∧ Below W.heap.size W w') := fun W hb => vars_call l v W W (h.below hb) hl hW (Below.refl _ _)
  have HM : Hid (moreS l o = (nubN (varsOf l)).any fun x => !hasN (nubN (varsOf o)) x) := rfl
  have HN1 := nub_small l hl
  have HN2 := nub_small o hol
  obtain ⟨ad, cap, hv⟩ := h.form
  obtain ⟨ado, capo, hvo⟩ := ho.form
  subst hv hvo
  clear h ho hW hWo
  generalize nubN (varsOf l) = vl at *
  generalize nubN (varsOf o) = vo at *
  go_enter Tryz.func60, Tryz.ntmps60
  go_wp2_with fail
  refine H1.mono ?_
  rintro e w1 ⟨u, rfl, hN, hb1⟩
  have HB1 : Hid (Below w.heap.size w (w1.alloc (.cells #[u] 105))) := hb1.alloc hb1.size _
  have H2' := H2.out _ HB1.out
  have HNo : Hid (∀ W, Below (w1.alloc (.cells #[u] 105)).heap.size (w1.alloc (.cells #[u] 105)) W → NamesAt W u vo ∧ W.cell? ⟨w1.heap.size, 0, none⟩ = some u ∧ w1.heap.size < W.heap.size) := fun W hW => by
    have hb0 : Below w1.heap.size w1 (w1.alloc (.cells #[u] 105)) := (Below.refl _ w1).alloc (Nat.le_refl _) _
    refine ⟨hN.below (hb0.trans (hW.mono hb0.size)), ?_, by have := hW.size; simp at this; omega⟩
    rw [hW.cell (by simp), cell_of_row _ w1.heap.size 0 _ 105 (0, 0) (heap_alloc_new w1 _)]; rfl
  obtain ⟨adu, cu, hu⟩ := hN.form
  subst hu
  simp only [World.size_alloc] at H2'
  clear hN hb1 H1 H2
  go_wp2_with fail
  refine H2'.mono ?_
  rintro e w2 ⟨u2, rfl, hN2, hb2⟩
  have hb2' : Below (w1.alloc (.cells #[.slice adu vo.length cu] 105)).heap.size (w1.alloc (.cells #[.slice adu vo.length cu] 105)) w2 := hb2.mono (by simp)
  have H92 := k92 91 #[.pointer (some ⟨w1.heap.size, 0, none⟩)] (enters_of Tryz.func91 (by kernel_rfl) rfl) (fun x => !hasN vo x) vl u2 w2 hN2 (by omega) (fun W x hW _ => by
    obtain ⟨q1, q2, q3⟩ := HNo.out W (hb2'.trans (hW.mono hb2'.size))
    exact k95 vo x _ w1.heap.size W q1 (by omega) q2 q3)
  have HB2 : Hid (Below w.heap.size w w2) := HB1.out.trans (hb2'.mono HB1.out.size)
  obtain ⟨ad2, c2, hu2⟩ := hN2.form
  subst hu2
  clear hN2 hb2 hb2' H2' HB1
  generalize (vl.any fun x => !hasN vo x) = r at *
  go_wp2_with fail
  refine H92.mono ?_
  rintro e w3 ⟨rfl, hb3⟩
  go_wp2_with fail
  go_ret
  exact ⟨by rw [HM.out]; rfl, HB2.out.trans (hb3.mono HB2.out.size)⟩
set_option maxRecDepth 100000 in
theorem k70 (l hd : List C) (v hv : Value) (B : Nat) (w : World) (h : TermAt w v l) (hh : TermAt w hv hd) (hS : Signs w) (hl : l.length ≤ 256) (hhl : hd.length ≤ 256) (hW : ∀ x ∈ varsOf l, wfN x) (hWh : ∀ x ∈ varsOf hd, wfN x) (hB : w.cell? ⟨B, 0, none⟩ = some hv) (hBl : B < w.heap.size) :
    Calls Tryz.prog 59 #[v, .pointer (some ⟨B, 0, none⟩)] w fun e w' => e = .returned (.bool (!isGuardS l || moreS l hd)) ∧ Below w.heap.size w w' := by
  have H10 := k10 l v w h hS
  have H71 : Hid (∀ W, Below w.heap.size w W → Calls Tryz.prog 60 #[v, hv] W fun e w' => e = .returned (.bool (moreS l hd)) ∧ Below W.heap.size W w') := fun W hb => k71 l hd v hv W (h.below hb) (hh.below hb) hl hhl hW hWh
  have HC : Hid (∀ W, Below w.heap.size w W → W.cell? ⟨B, 0, none⟩ = some hv) := fun W hb => (hb.cell (p := ⟨B, 0, none⟩) hBl).trans hB
  obtain ⟨ad, cap, e1⟩ := h.form
  obtain ⟨adh, caph, e2⟩ := hh.form
  subst e1 e2
  clear h hh hS hW hWh hB
  generalize moreS l hd = r at *
  cases hg : isGuardS l
  · rw [hg] at H10
    go_enter Tryz.func59, Tryz.ntmps59
    go_wp2_with fail
    refine H10.mono ?_
    rintro e w1 ⟨rfl, hb1⟩
    go_wp2_with fail
    go_ret
    exact ⟨rfl, hb1⟩
  · rw [hg] at H10
    go_enter Tryz.func59, Tryz.ntmps59
    go_wp2_with fail
    refine H10.mono ?_
    rintro e w1 ⟨rfl, hb1⟩
    have c0 := HC.out w1 hb1
    go_wp2_with fail
    refine (H71.out w1 hb1).mono ?_
    rintro e w2 ⟨rfl, hb2⟩
    go_wp2_with fail
    go_ret
    exact ⟨rfl, hb1.trans (hb2.mono hb1.size)⟩
set_option maxRecDepth 100000 in
theorem k68 (c : Cl) (x : ClV) (w : World) (h : ClAt w x c) (hS : Signs w) (hgl : c.gs.length ≤ 5864062014805) (hR : ∀ l ∈ c.gs, l.length ≤ 256) (hRh : c.hd.length ≤ 256) (hW : ClW c) :
    Calls Tryz.prog 57 #[.agg #[x.hv, x.gv, x.bv, .int .i64 x.n]] w fun e w' => e = .returned (.bool (step3 c)) ∧ Below w.heap.size w w' := by
  obtain ⟨hd, gs, bs, n⟩ := c
  obtain ⟨hv, gv, bv, xn⟩ := x
  obtain ⟨ht, hg, hb, hn⟩ := h
  simp only at ht hg hb hn hgl hR hRh
  subst hn
  have HM : Hid (step3 ⟨hd, gs, bs, xn⟩ = gs.any fun g => !isGuardS g || moreS g hd) := rfl
  obtain ⟨ag, cg, eg⟩ := hg.form
  obtain ⟨ab, cb, eb⟩ := hb.form
  obtain ⟨ah, ch, eh⟩ := ht.form
  subst eh eg eb
  have HB1 : Hid (∀ o : Obj, Below w.heap.size w (w.alloc o)) := fun o => (Below.refl _ w).alloc (Nat.le_refl _) o
  have H69 := k69 59 #[.pointer (some ⟨w.heap.size, 0, none⟩)] (enters_of Tryz.func59 (by kernel_rfl) rfl) (fun g => !isGuardS g || moreS g hd) gs _ _ (hg.below (HB1.out (.cells #[.slice ah hd.length ch, .slice ag gs.length cg, .slice ab bs.length cb, .int .i64 xn] 66))) hgl (fun W y l hW2 hm hT => by
    have hbw := (HB1.out _).trans (hW2.mono (HB1.out _).size)
    obtain ⟨c0, _⟩ := box_cells w _ _ _ _ W hW2
    exact k70 l hd y _ w.heap.size W hT (ht.below hbw) (hS.below hbw) (hR l hm) hRh (hW l (.inr (.inl hm))) (hW hd (.inl rfl)) c0 (by have := hW2.size; simp at this; omega))
  clear ht hg hb hS hW hR
  generalize (gs.any fun g => !isGuardS g || moreS g hd) = r at *
  go_enter Tryz.func57, Tryz.ntmps57
  go_wp2_with fail
  refine H69.mono ?_
  rintro e w1 ⟨rfl, hb1⟩
  go_wp2_with fail
  go_ret
  exact ⟨by rw [HM.out]; rfl, (HB1.out _).trans (hb1.mono (HB1.out _).size)⟩
end Go.Proofs.YtgknheafkkkjcaaGreatDoor
namespace Go.Proofs.YtgknheafkkkjcaaGreatDoor
open Go.RowKit
attribute [local go_sem ↓] Go.wp_at_zero Go.wp_at_succ
/-- What is asked of a program ahead of its check. -/
structure Fits (cs : List Cl) : Prop where
  len : cs.length ≤ 1759218604441
  cw : ∀ c ∈ cs, ClW c
  gl : ∀ c ∈ cs, c.gs.length ≤ 5864062014805
  bl : ∀ c ∈ cs, c.bs.length ≤ 5864062014805
  hw : ∀ c ∈ cs, hasNameS c.hd = true → wfP (predS c.hd)
  pw : ∀ c ∈ cs, ∀ y ∈ calledS c.bs, wfP y
theorem mis_guard {c : Cl} (h : misS c = false) : ∀ l ∈ c.gs, rightB l = true := by
  intro l hl
  unfold misS at h
  simp only [Bool.or_eq_false_iff] at h
  have h2 := h.1.2
  rw [List.any_eq_false] at h2
  have h3 := h2 l hl
  unfold wrongS at h3
  cases hr : rightB l
  · rw [hr] at h3; simp at h3
  · rfl
theorem step_callg (cs : List Cl) (F : Fits cs) (v : Value) (w : World) (hP : ProgAt w v cs) (hS : Signs w) {B Hb SB M : Nat} {D : DataW Unit} (hA : StepsAt w cs v B Hb SB M D) (k : Nat) (hk : k < 6) (hn : ∀ j, j < k → idxK (stp cs j) cs = -1) :
    Calls Tryz.prog 30 #[v, .func (.func (stpG k)) #[] (stpB B Hb k)] w fun e w' => e = .returned (.int .i64 (idxK (stp cs k) cs)) ∧ Below w.heap.size w w' := by
  refine k54 (stpG k) (stpB B Hb k) (step_enters k hk) (stp cs k) cs v w hP F.len ?_
  intro W x c hW hm hC
  have hS' := hS.below hW
  have hA' := hA.below hW
  obtain ⟨ap, cp, hv⟩ := hP.form
  match k, hk, hn with
  | 0, _, _ => exact k63 cs c x W hC B ap cp (by rw [← hv]; exact hA'.box) hA'.boxLt
  | 1, _, _ => exact k65 c x W hC hS' (F.cw c hm) (F.gl c hm) (F.bl c hm)
  | 2, _, hn =>
    have hr := mis_head (idxK_neg (hn 1 (by omega)) c hm)
    have hl := right_len hr
    exact k66 c x W hC (by omega) hl.2 (F.cw c hm _ (.inl rfl))
  | 3, _, hn =>
    have hm1 := idxK_neg (hn 1 (by omega)) c hm
    exact k68 c x W hC hS' (F.gl c hm) (fun l hl => (right_len (mis_guard hm1 l hl)).2) (right_len (mis_head hm1)).2 (F.cw c hm)
  | 4, _, _ => exact k72 c x W hC hS' (F.bl c hm)
  | 5, _, _ => exact k74 cs c x W hC hS' (F.bl c hm) (F.pw c hm) M Hb D F.len hA'.grp hA'.isG hA'.hds hA'.hdsLt
set_option maxRecDepth 100000 in
set_option maxHeartbeats 2000000 in
theorem k37g (cs : List Cl) (F : Fits cs) (v : Value) (w : World) (hP : ProgAt w v cs) (hS : Signs w) :
    Calls Tryz.prog 7 #[v] w fun e w' => ∃ n er, e = .returned (.tuple #[.int .i64 n, .int .i64 er]) ∧ IsWhere cs n er ∧ Below w.heap.size w w' := by
  have HP : Hid (ProgAt w v cs) := hP
  have HS : Hid (Signs w) := hS
  have H53 := k53 cs v w hP F.len F.hw
  have HStep : Hid (∀ W, Below w.heap.size w W → ∀ B Hb SB M D, StepsAt W cs v B Hb SB M D → ∀ k, k < 6 → (∀ j, j < k → idxK (stp cs j) cs = -1) → Calls Tryz.prog 30 #[v, .func (.func (stpG k)) #[] (stpB B Hb k)] W fun e w' => e = .returned (.int .i64 (idxK (stp cs k) cs)) ∧ Below W.heap.size W w') := fun W hW B Hb SB M D hA k hk hn => step_callg cs F v W (HP.out.below hW) (HS.out.below hW) hA k hk hn
  have HLen : Hid (cs.length ≤ 1759218604441) := F.len
  obtain ⟨ad, cap, hv⟩ := hP.form
  subst hv
  clear hP hS F
  go_enter Tryz.func7, Tryz.ntmps7
  go_wp2_with fail
  refine H53.mono ?_
  rintro e w1 ⟨B, Hb, SB, M, D, rfl, hA, hb1⟩
  have HA : Hid (StepsAt w1 cs (.slice ad cs.length cap) B Hb SB M D) := hA
  clear hA H53
  go_wp2_with fail
  go_loopw [10] (fun i wr => ∃ k : Nat, k ≤ 6 ∧ i = .int .i64 k ∧ Hid (∀ j, j < k → idxK (stp cs j) cs = -1) ∧ Below w1.heap.size w1 wr) (fun i _ => 6 - (intOf i).toNat)
  case atStart => exact ⟨0, by omega, rfl, fun j hj => by omega, Below.refl _ _⟩
  case round =>
    obtain ⟨k, hk, rfl, HI, hbr⟩ := hrel
    by_cases hlt : k < 6
    · have hlt' : (k : Int) < 6 := by omega
      have hk0 : (0 : Int) ≤ (k : Int) := by omega
      obtain ⟨q0, q1⟩ := step_cells B Hb k hlt
      have hA := HA.out.below hbr
      have p0 := hA.row _ _ q0
      have p1 := hA.row _ _ q1
      rw [Nat.zero_add] at p0 p1
      have hbw := hb1.trans (hbr.mono hb1.size)
      have HB2 : Hid (∀ o : Obj, Below w.heap.size w (wr.alloc o)) := fun o => hbw.alloc hbw.size o
      have HB3 : Hid (∀ o : Obj, Below w1.heap.size w1 (wr.alloc o)) := fun o => hbr.alloc hbr.size o
      have HC := HStep.out (wr.alloc (.cells #[.int .i64 (errS k), .func (.func (stpG k)) #[] (stpB B Hb k)] 72)) (HB2.out _) B Hb SB M D (hA.below ((Below.refl _ wr).alloc (Nat.le_refl _) _)) k hlt HI.out
      have HCell : Hid (∀ W, Below (wr.alloc (.cells #[.int .i64 (errS k), .func (.func (stpG k)) #[] (stpB B Hb k)] 72)).heap.size (wr.alloc (.cells #[.int .i64 (errS k), .func (.func (stpG k)) #[] (stpB B Hb k)] 72)) W → W.cell? ⟨wr.heap.size, 0, none⟩ = some (.int .i64 (errS k))) := fun W hW => by
        rw [hW.cell (by simp), cell_of_row _ wr.heap.size 0 _ 72 (0, 0) (heap_alloc_new wr _)]; rfl
      have hform := idxK_form (stp cs k) cs
      have HNext : Hid (idxK (stp cs k) cs = -1 → ∀ j, j < k + 1 → idxK (stp cs j) cs = -1) := fun h j hj => if e : j = k then by subst e; exact h else HI.out j (by omega)
      have HDone : Hid (0 ≤ idxK (stp cs k) cs → IsWhere cs (idxK (stp cs k) cs) (errS k)) := fun h => .inl ⟨k, hlt, HI.out, h, rfl, rfl⟩
      clear hA q0 q1
      generalize idxK (stp cs k) cs = i at *
      generalize errS k = er at *
      generalize stpG k = g at *
      generalize stpB B Hb k = lb at *
      go_wp2_with fail
      refine HC.mono ?_
      rintro e w2 ⟨rfl, hb2⟩
      have c0 := HCell.out w2 hb2
      rcases hform with h1 | ⟨m, hm, h1⟩
      · have HN : Hid (∀ j, j < k + 1 → idxK (stp cs j) cs = -1) := HNext.out h1
        subst h1
        clear HCell HC
        go_wp2_with fail
        go_roundw
        case rel => exact ⟨k + 1, by omega, by go_num, HN, (HB3.out _).trans (hb2.mono (HB3.out _).size)⟩
        case measure => simp [intOf]; omega
      · have HN : Hid (IsWhere cs i er) := HDone.out (by omega)
        subst h1
        have hm0 : (0 : Int) ≤ (m : Int) := by omega
        clear HCell HC HNext HDone
        go_wp2_with fail
        have hbw2 := (HB2.out _).trans (hb2.mono (HB2.out _).size)
        go_quiet (fail)
        go_wp2_with fail
        exact bodyPost_ret (v := .tuple #[.int .i64 (m : Int), .int .i64 er]) (by simp [results, Tryz.results7, go_sem]) rfl ⟨_, _, rfl, HN.out, below_dN hbw2 _⟩
    · have hlt' : ¬ ((k : Int) < 6) := by omega
      have HN : Hid (IsWhere cs 0 0) := .inr ⟨fun j hj => HI.out j (by omega), rfl, rfl⟩
      have hbw := hb1.trans (hbr.mono hb1.size)
      go_wp2_with fail
      exact bodyPost_ret (v := .tuple #[.int .i64 0, .int .i64 0]) (by simp [results, Tryz.results7, go_sem]) rfl ⟨_, _, rfl, HN.out, hbw⟩
set_option maxRecDepth 100000 in
theorem k15g (cs : List Cl) (F : Fits cs) (v : Value) (w : World) (hP : ProgAt w v cs) (hS : Signs w) :
    Calls Tryz.prog 10 #[v] w fun e w' => ∃ n er, e = .returned (.int .i64 er) ∧ IsWhere cs n er ∧ Below w.heap.size w w' := by
  have H := k37g cs F v w hP hS
  obtain ⟨ad, cap, hv⟩ := hP.form
  subst hv
  clear hP hS F
  go_enter Tryz.func10, Tryz.ntmps10
  go_wp2_with fail
  refine H.mono ?_
  rintro e w1 ⟨n, er, rfl, hI, hb1⟩
  have HI : Hid (IsWhere cs n er) := hI
  clear hI
  go_wp2_with fail
  go_ret
  exact ⟨n, er, rfl, HI.out, hb1⟩
end Go.Proofs.YtgknheafkkkjcaaGreatDoor
namespace Go.Proofs.YtgknheafkkkjcaaGreatDoor
open Go.RowKit
theorem idxG_nil (cs : List Cl) (x : Pd) (n : Nat) : idxG cs x n = [] ↔ ∀ i c, i < n → cs[i]? = some c → hasK c x = false := by
  induction n with
  | zero => simp [idxG]
  | succ k ih =>
    have e : idxG cs x (k + 1) = match cs[k]? with | some c => if hasK c x then idxG cs x k ++ [(k : Int)] else idxG cs x k | none => idxG cs x k := rfl
    rw [e]
    constructor
    · intro h i c hi hc
      cases hq : cs[k]? with
      | none =>
        rw [hq] at h
        by_cases hik : i = k
        · subst hik; rw [hq] at hc; cases hc
        · exact ih.1 h i c (by omega) hc
      | some d =>
        rw [hq] at h
        simp only at h
        split at h
        · simp at h
        · next hd =>
          by_cases hik : i = k
          · subst hik; rw [hq] at hc; cases hc; simpa using hd
          · exact ih.1 h i c (by omega) hc
    · intro h
      have h1 : idxG cs x k = [] := ih.2 fun i c hi hc => h i c (by omega) hc
      cases hq : cs[k]? with
      | none => exact h1
      | some d => simp only; rw [h k d (by omega) hq]; simpa using h1
theorem noneG_iff (cs : List Cl) (x : Pd) : noneG cs x = true ↔ ∀ c ∈ cs, hasK c x = false := by
  unfold noneG
  have : ((((idxG cs x cs.length).length : Nat) : Int) == 0) = true ↔ idxG cs x cs.length = [] := by
    rw [beq_iff_eq]
    constructor
    · intro h; exact List.eq_nil_of_length_eq_zero (by omega)
    · intro h; rw [h]; rfl
  rw [this, idxG_nil]
  constructor
  · intro h c hc
    obtain ⟨i, hi, rfl⟩ := List.getElem_of_mem hc
    exact h i _ hi (List.getElem?_eq_getElem hi)
  · intro h i c hi hc
    exact h c (List.mem_of_getElem? hc)
theorem idxK_all {p : Cl → Bool} {ls : List Cl} : idxK p ls = -1 ↔ ∀ c ∈ ls, p c = false := by
  constructor
  · exact idxK_neg
  · intro h
    exact idxK_none p ls fun j hj _ => h _ (List.getElem_mem hj)
theorem idxK_some {p : Cl → Bool} {ls : List Cl} {c : Cl} (hc : c ∈ ls) (hp : p c = true) : 0 ≤ idxK p ls := by
  rcases idxK_form p ls with h | ⟨i, _, h⟩
  · have := idxK_neg h c hc
    rw [hp] at this; cases this
  · omega
/-- The same clauses, as many: what each step looks for is the same. -/
theorem stp_same {cs ds : List Cl} (hl : cs.length = ds.length) (hm : ∀ c, c ∈ cs ↔ c ∈ ds) (k : Nat) : stp cs k = stp ds k := by
  have hn : ∀ x, noneG cs x = noneG ds x := fun x => by
    rw [Bool.eq_iff_iff, noneG_iff, noneG_iff]
    exact ⟨fun h c hc => h c ((hm c).2 hc), fun h c hc => h c ((hm c).1 hc)⟩
  have hn' : noneG cs = noneG ds := funext hn
  match k with
  | 0 => funext c; show step0 cs c = step0 ds c; unfold step0; rw [hl]
  | 1 => rfl
  | 2 => rfl
  | 3 => rfl
  | 4 => rfl
  | k + 5 => funext c; show step5 cs c = step5 ds c; unfold step5; rw [hn']
theorem where_same {cs ds : List Cl} (hl : cs.length = ds.length) (hm : ∀ c, c ∈ cs ↔ c ∈ ds) {n e m f : Int} (h : IsWhere cs n e) (g : IsWhere ds m f) : e = f := by
  have hk : ∀ k, idxK (stp cs k) cs = -1 ↔ idxK (stp ds k) ds = -1 := fun k => by
    rw [idxK_all, idxK_all, stp_same hl hm k]
    exact ⟨fun h c hc => h c ((hm c).2 hc), fun h c hc => h c ((hm c).1 hc)⟩
  have h0 : ∀ k, 0 ≤ idxK (stp cs k) cs → 0 ≤ idxK (stp ds k) ds := fun k h => by
    rcases idxK_form (stp ds k) ds with g | ⟨i, _, g⟩
    · rw [(hk k).2 g] at h; omega
    · omega
  rcases h with ⟨k, hk6, h1, h2, _, h3⟩ | ⟨h1, _, h3⟩
  · rw [h3, where_at g k hk6 (fun j hj => (hk j).1 (h1 j hj)) (h0 k h2)]
  · rw [h3, where_ok g (fun j hj => (hk j).1 (h1 j hj))]
theorem where_zero {cs : List Cl} {n : Int} (h : IsWhere cs n 0) : ∀ j, j < 6 → idxK (stp cs j) cs = -1 := by
  rcases h with ⟨k, hk, _, _, _, h3⟩ | ⟨h1, _, _⟩
  · match k, hk, h3 with
    | 0, _, h3 => simp [errS] at h3
    | 1, _, h3 => simp [errS] at h3
    | 2, _, h3 => simp [errS] at h3
    | 3, _, h3 => simp [errS] at h3
    | 4, _, h3 => simp [errS] at h3
    | 5, _, h3 => simp [errS] at h3
  · exact h1
theorem pred_is {l : List C} {x : Pd} (hn : hasNameS l = true) (hx : predS l = x) : isB l x.1 x.2 = true := by
  have h0 : 0 < l.length := by
    cases l with
    | nil => simp [hasNameS] at hn
    | cons _ _ => simp
  have hk : l[0].k = 2 ∨ l[0].k = 3 := by
    match l, h0, hn with
    | c :: r, _, hn =>
      simp [hasNameS] at hn
      exact hn.1
  rw [isB_get h0, ← hx]
  unfold predS
  rw [headC_get h0]
  rcases hk with hk | hk <;> simp [hk]
/-- The program without the clauses of a predicate. -/
def lessS (cs : List Cl) (x : Pd) : List Cl := cs.filter fun c => !isB c.hd x.1 x.2
theorem where_less {cs : List Cl} {n : Int} (h : IsWhere cs n 0) {c : Cl} {x : Pd} (hc : c ∈ cs) (hx : x ∈ calledS c.bs) (ho : isB c.hd x.1 x.2 = false) {m f : Int} (g : IsWhere (lessS cs x) m f) : f = 43 := by
  have h1 := where_zero h
  have hsub : ∀ d ∈ lessS cs x, d ∈ cs := fun d hd => (List.mem_filter.1 hd).1
  have hlen : (lessS cs x).length ≤ cs.length := List.length_filter_le _ _
  have hcl : c ∈ lessS cs x := List.mem_filter.2 ⟨hc, by simp [ho]⟩
  have hnone : noneG (lessS cs x) x = true := by
    rw [noneG_iff]
    intro d hd
    have hd2 := (List.mem_filter.1 hd).2
    simp only [Bool.not_eq_true'] at hd2
    unfold hasK
    cases hn : hasNameS d.hd
    · rfl
    · cases hp : hasP [predS d.hd] x
      · rfl
      · rw [hasP_iff] at hp
        simp at hp
        rw [pred_is hn hp.symm] at hd2
        cases hd2
  refine where_at g 5 (by omega) (fun j hj => ?_) ?_
  · rw [idxK_all]
    intro d hd
    have h2 := idxK_neg (h1 j (by omega)) d (hsub d hd)
    match j, hj, h2 with
    | 0, _, h2 =>
      have h2' : step0 cs d = false := h2
      show step0 (lessS cs x) d = false
      unfold step0 at h2' ⊢
      simp only [Bool.or_eq_false_iff, decide_eq_false_iff_not] at h2' ⊢
      exact ⟨by omega, h2'.2⟩
    | 1, _, h2 => exact h2
    | 2, _, h2 => exact h2
    | 3, _, h2 => exact h2
    | 4, _, h2 => exact h2
  · refine idxK_some hcl ?_
    show step5 (lessS cs x) c = true
    unfold step5
    exact List.any_eq_true.2 ⟨x, hx, hnone⟩
end Go.Proofs.YtgknheafkkkjcaaGreatDoor
namespace Go.Proofs.YtgknheafkkkjcaaGreatDoor
open Go.RowKit
def lvQ : List C := ofL ⟨#[113]⟩ [[localC 1]] 1
def lvF : List C := ofL ⟨#[102]⟩ [[localC 1]] 1
def lvH : List C := ofL ⟨#[112]⟩ [[localC 0]] 1
def lvB0 : List C := ofL ⟨#[61]⟩ [[localC 0], lvF] 2
def lvI : List C := [⟨1, ⟨#[]⟩, 1, 0, 0⟩]
def lvB1 : List C := ofL ⟨#[64]⟩ [lvQ, lvI] 2
def lvA : List C := [⟨2, ⟨#[97]⟩, 0, 0, 0⟩]
def lvH1 : List C := ofL ⟨#[113]⟩ [lvA] 1
def lvC0 : Cl := ⟨lvH, [], [lvB0, lvB1], 2⟩
def lvC1 : Cl := ⟨lvH1, [], [], 0⟩
theorem lv_calls : callsS [lvC0, lvC1] 0 = [(⟨#[113]⟩, 1)] := by kernel_rfl
theorem lv_goal : isGoalS lvB1 = true := by kernel_rfl
theorem lv_guard : isGuardS lvB1 = false := by kernel_rfl
theorem lv0 : idxK (stp [lvC0, lvC1] 0) [lvC0, lvC1] = -1 := by kernel_rfl
theorem lv1 : idxK (stp [lvC0, lvC1] 1) [lvC0, lvC1] = -1 := by kernel_rfl
theorem lv2 : idxK (stp [lvC0, lvC1] 2) [lvC0, lvC1] = -1 := by kernel_rfl
theorem lv3 : idxK (stp [lvC0, lvC1] 3) [lvC0, lvC1] = -1 := by kernel_rfl
theorem lv4 : idxK (stp [lvC0, lvC1] 4) [lvC0, lvC1] = -1 := by kernel_rfl
theorem lv5 : idxK (stp [lvC0, lvC1] 5) [lvC0, lvC1] = -1 := by kernel_rfl
theorem lu0 : idxK (stp [lvC0] 0) [lvC0] = -1 := by kernel_rfl
theorem lu1 : idxK (stp [lvC0] 1) [lvC0] = -1 := by kernel_rfl
theorem lu2 : idxK (stp [lvC0] 2) [lvC0] = -1 := by kernel_rfl
theorem lu3 : idxK (stp [lvC0] 3) [lvC0] = -1 := by kernel_rfl
theorem lu4 : idxK (stp [lvC0] 4) [lvC0] = -1 := by kernel_rfl
theorem lu5 : idxK (stp [lvC0] 5) [lvC0] = 0 := by kernel_rfl
theorem lv_ok {n e : Int} (h : IsWhere [lvC0, lvC1] n e) : e = 0 := where_ok h fun j hj => by
  match j, hj with
  | 0, _ => exact lv0
  | 1, _ => exact lv1
  | 2, _ => exact lv2
  | 3, _ => exact lv3
  | 4, _ => exact lv4
  | 5, _ => exact lv5
theorem lu_at {n e : Int} (h : IsWhere [lvC0] n e) : e = 43 := where_at h 5 (by omega) (fun j hj => by
  match j, hj with
  | 0, _ => exact lu0
  | 1, _ => exact lu1
  | 2, _ => exact lu2
  | 3, _ => exact lu3
  | 4, _ => exact lu4) (by rw [lu5]; exact Int.le_refl 0)
theorem nm_wf (a b : Int) (ha : (Lit.int .i64 a).wf = true) (hb : (Lit.int .i64 b).wf = true) : wfN (a, b) := ⟨ha, hb⟩
theorem lv_w0 : ClW lvC0 := by
  intro l hl
  have : ∀ l ∈ [lvH, lvB0, lvB1], ∀ x ∈ varsOf l, x = (-1, 0) ∨ x = (-1, 1) := by
    have e1 : varsOf lvH = [(-1, 0)] := by kernel_rfl
    have e2 : varsOf lvB0 = [(-1, 0), (-1, 1)] := by kernel_rfl
    have e3 : varsOf lvB1 = [(-1, 1)] := by kernel_rfl
    intro l hl x hx
    simp at hl
    rcases hl with rfl | rfl | rfl
    · rw [e1] at hx; simp at hx; exact .inl hx
    · rw [e2] at hx; simp at hx; exact hx
    · rw [e3] at hx; simp at hx; exact .inr hx
  intro x hx
  have hm : l ∈ [lvH, lvB0, lvB1] := by
    rcases hl with rfl | hl | hl
    · simp [lvC0]
    · simp [lvC0] at hl
    · simp [lvC0] at hl; rcases hl with rfl | rfl <;> simp
  rcases this l hm x hx with rfl | rfl <;> exact ⟨rfl, rfl⟩
theorem lv_w1 : ClW lvC1 := by
  intro l hl x hx
  have e1 : varsOf lvH1 = [] := by kernel_rfl
  rcases hl with rfl | hl | hl
  · have : x ∈ varsOf lvH1 := hx
    rw [e1] at this; simp at this
  · simp [lvC1] at hl
  · simp [lvC1] at hl
theorem lv_p0 : ∀ y ∈ calledS lvC0.bs, wfP y := by
  have e : calledS lvC0.bs = [(⟨#[113]⟩, 1)] := by kernel_rfl
  rw [e]; intro y hy; simp at hy; subst hy; exact ⟨by decide, rfl⟩
theorem lv_p1 : ∀ y ∈ calledS lvC1.bs, wfP y := by
  have e : calledS lvC1.bs = [] := by kernel_rfl
  rw [e]; intro y hy; simp at hy
theorem lv_h0 : wfP (predS lvC0.hd) := by
  have e : predS lvC0.hd = (⟨#[112]⟩, 1) := by kernel_rfl
  rw [e]; exact ⟨by decide, rfl⟩
theorem lv_h1 : wfP (predS lvC1.hd) := by
  have e : predS lvC1.hd = (⟨#[113]⟩, 1) := by kernel_rfl
  rw [e]; exact ⟨by decide, rfl⟩
theorem lv_fine : Fine [lvC0, lvC1] := by
  refine ⟨by simp, ?_, ?_, ?_, ?_, ?_⟩
  · intro c hc; simp at hc; rcases hc with rfl | rfl
    · exact lv_w0
    · exact lv_w1
  · intro c hc; simp at hc; rcases hc with rfl | rfl <;> rfl
  · intro c hc; simp at hc; rcases hc with rfl | rfl <;> simp [lvC0, lvC1]
  · intro c hc; simp at hc; rcases hc with rfl | rfl
    · intro _; exact lv_h0
    · intro _; exact lv_h1
  · intro c hc; simp at hc; rcases hc with rfl | rfl
    · exact lv_p0
    · exact lv_p1
theorem lu_fine : Fine [lvC0] := by
  refine ⟨by simp, ?_, ?_, ?_, ?_, ?_⟩
  · intro c hc; simp at hc; subst hc; exact lv_w0
  · intro c hc; simp at hc; subst hc; rfl
  · intro c hc; simp at hc; subst hc; simp [lvC0]
  · intro c hc; simp at hc; subst hc; intro _; exact lv_h0
  · intro c hc; simp at hc; subst hc; exact lv_p0
end Go.Proofs.YtgknheafkkkjcaaGreatDoor
namespace Go.Proofs.YtgknheafkkkjcaaGreatDoor
open Go.RowKit
theorem small_sizes {l : List C} (h : l.all (fun c => decide (c.t.size ≤ 100)) = true) : ∀ c ∈ l, c.t.size ≤ maxLen := fun c hc => by
  have := List.all_eq_true.1 h c hc
  simp at this
  unfold maxLen; omega
theorem t23 (k : Int) (w : World) :
    Calls Tryz.prog 33 #[.int .i64 k] w fun e w' => ∃ ad n cap, e = .returned (.slice ad n cap) ∧ TermAt w' (.slice ad n cap) [localC k] ∧ Below w.heap.size w w' := by
  refine (k23 k w).mono ?_
  rintro e w' ⟨u, rfl, hO, hb⟩
  have hT : TermAt w' u [localC k] := ownT_term hO (by simp [maxLen]) (small_sizes rfl)
  obtain ⟨ad, cap, hu⟩ := hT.form
  subst hu
  exact ⟨ad, _, cap, rfl, hT, hb⟩
theorem row_two (w : World) (v1 v2 : Value) (l1 l2 : List C) (h1 : TermAt w v1 l1) (h2 : TermAt w v2 l2) : RowAt (w.alloc (.cells #[v1, v2] 64)) (.slice (some ⟨w.heap.size, 0, none⟩) 2 2) [l1, l2] := by
  refine ⟨by simp [maxLen], .inr ⟨w.heap.size, 0, 2, [v1, v2], rfl, by simp, by simp [maxLen], by simp, rfl, range_new w [v1, v2] 64, ?_⟩⟩
  intro i u x hu hx
  match i, hu, hx with
  | 0, hu, hx => simp at hu hx; subst hu hx; exact h1.below (below_alloc _ _)
  | 1, hu, hx => simp at hu hx; subst hu hx; exact h2.below (below_alloc _ _)
theorem t22_one (text : ByteArray) (l : List C) (v : Value) (w : World) (h : TermAt w v l) (h0 : 0 < l.length) (hl : l.length ≤ 100) (hs : (ofL text [l] 1).all (fun c => decide (c.t.size ≤ 100)) = true) :
    Calls Tryz.prog 32 #[.string text, .slice (some ⟨w.heap.size, 0, none⟩) 1 1] (w.alloc (.cells #[v] 64)) fun e w' => ∃ ad n cap, e = .returned (.slice ad n cap) ∧ TermAt w' (.slice ad n cap) (ofL text [l] 1) ∧ Below w.heap.size w w' := by
  refine (k22 text [l] _ _ (row_one w v l h) (by simpa using h0) (by simp; omega) (by simp)).mono ?_
  rintro e w' ⟨u, rfl, hO, hb⟩
  have hT : TermAt w' u (ofL text [l] 1) := ownT_term hO (by simp [ofL, maxLen]; omega) (small_sizes hs)
  obtain ⟨ad, cap, hu⟩ := hT.form
  subst hu
  have hb0 : Below w.heap.size w (w.alloc (.cells #[v] 64)) := (Below.refl _ w).alloc (Nat.le_refl _) _
  exact ⟨ad, _, cap, rfl, hT, hb0.trans (hb.mono hb0.size)⟩
theorem t22_two (text : ByteArray) (l1 l2 : List C) (v1 v2 : Value) (w : World) (h1 : TermAt w v1 l1) (h2 : TermAt w v2 l2) (h0 : 0 < l1.length) (h0' : 0 < l2.length) (hl : l1.length + l2.length ≤ 100) (hs : (ofL text [l1, l2] 2).all (fun c => decide (c.t.size ≤ 100)) = true) :
    Calls Tryz.prog 32 #[.string text, .slice (some ⟨w.heap.size, 0, none⟩) 2 2] (w.alloc (.cells #[v1, v2] 64)) fun e w' => ∃ ad n cap, e = .returned (.slice ad n cap) ∧ TermAt w' (.slice ad n cap) (ofL text [l1, l2] 2) ∧ Below w.heap.size w w' := by
  refine (k22 text [l1, l2] _ _ (row_two w v1 v2 l1 l2 h1 h2) (by simpa using ⟨h0, h0'⟩) (by simp; omega) (by simp)).mono ?_
  rintro e w' ⟨u, rfl, hO, hb⟩
  have hT : TermAt w' u (ofL text [l1, l2] 2) := ownT_term hO (by simp [ofL, maxLen]; omega) (small_sizes hs)
  obtain ⟨ad, cap, hu⟩ := hT.form
  subst hu
  have hb0 : Below w.heap.size w (w.alloc (.cells #[v1, v2] 64)) := (Below.refl _ w).alloc (Nat.le_refl _) _
  exact ⟨ad, _, cap, rfl, hT, hb0.trans (hb.mono hb0.size)⟩
theorem one_cell (w : World) (c : C) (hc : c.t.size ≤ maxLen) : TermAt (w.alloc (.cells #[.int .u8 c.k, .string c.t, .int .i64 c.n, .int .i64 c.vn, .int .i64 c.vk] 82)) (.slice (some ⟨w.heap.size, 0, none⟩) 1 1) [c] := by
  exact ownT_term (own_one w c) (by simp [maxLen]) (by intro x hx; simp at hx; subst hx; exact hc)
theorem prog_two (w : World) (x0 x1 : ClV) (c0 c1 : Cl) (h0 : ClAt w x0 c0) (h1 : ClAt w x1 c1) : ProgAt (w.alloc (.cells #[x0.hv, x0.gv, x0.bv, .int .i64 x0.n, x1.hv, x1.gv, x1.bv, .int .i64 x1.n] 66)) (.slice (some ⟨w.heap.size, 0, none⟩) 2 2) [c0, c1] := by
  refine ⟨by simp [maxLen], .inr ⟨w.heap.size, 0, 2, [x0, x1], rfl, by simp, by simp [maxLen], by simp, rfl, range_new w (flatK [x0, x1]) 66, ?_⟩⟩
  intro i u x hu hx
  match i, hu, hx with
  | 0, hu, hx => simp at hu hx; subst hu hx; exact h0.below (below_alloc _ _)
  | 1, hu, hx => simp at hu hx; subst hu hx; exact h1.below (below_alloc _ _)
theorem prog_one (w : World) (x0 x1 : ClV) (c0 : Cl) (h0 : ClAt w x0 c0) : ProgAt (w.alloc (.cells #[x0.hv, x0.gv, x0.bv, .int .i64 x0.n, x1.hv, x1.gv, x1.bv, .int .i64 x1.n] 66)) (.slice (some ⟨w.heap.size, 0, none⟩) 1 2) [c0] := by
  refine ⟨by simp [maxLen], .inr ⟨w.heap.size, 0, 2, [x0], rfl, by simp, by simp [maxLen], by simp, rfl, ?_, ?_⟩⟩
  · intro i u hu
    have hr := range_new w (flatK [x0, x1]) 66
    refine hr i u ?_
    have e : flatK [x0, x1] = flatK [x0] ++ flatK [x1] := by simp [flatK]
    rw [e, List.getElem?_append_left (List.getElem?_eq_some_iff.1 hu).1]
    exact hu
  · intro i u x hu hx
    match i, hu, hx with
    | 0, hu, hx => simp at hu hx; subst hu hx; exact h0.below (below_alloc _ _)
theorem eq_q1 (w : World) : (binOp .eql 61 (.agg #[.string ⟨#[113]⟩, .int .i64 1]) (.agg #[.string ⟨#[113]⟩, .int .i64 1])).run Tryz.prog w = .ok (.bool true) w := by kernel_rfl
theorem row_none (w : World) : RowAt w (.slice none 0 0) [] := ⟨by simp [maxLen], .inl ⟨rfl, none, rfl⟩⟩
set_option maxRecDepth 100000 in
set_option maxHeartbeats 4000000 in
theorem k7 (w : World) (hS : Signs w) :
    Calls Tryz.prog 9 #[] w fun e w' => e = .returned (.bool true) ∧ Below w.heap.size w w' := by
  have HS : Hid (Signs w) := hS
  clear hS
  go_enter Tryz.func9, Tryz.ntmps9
  go_wp2_with fail
  refine (t23 0 w).mono ?_
  rintro e w1 ⟨a1, n1, c1, rfl, T1, hb1⟩
  have HB1 : Hid (Below w.heap.size w w1) := hb1
  have H := t22_one ⟨#[112]⟩ _ _ w1 T1 (by simp) (by simp) rfl
  clear hb1 T1
  go_wp2_with fail
  refine H.mono ?_
  clear H
  rintro e w2 ⟨a2, n2, c2, rfl, T2, hb2⟩
  have HB2 : Hid (Below w.heap.size w w2) := HB1.out.trans (hb2.mono HB1.out.size)
  have HT2 : Hid (TermAt w2 (.slice a2 n2 c2) lvH) := T2
  clear hb2 T2 HB1
  go_wp2_with fail
  refine (t23 0 w2).mono ?_
  rintro e w3 ⟨a3, n3, c3, rfl, T3, hb3⟩
  have HB3 : Hid (Below w2.heap.size w2 w3) := hb3
  have HT3 : Hid (TermAt w3 (.slice a3 n3 c3) [localC 0]) := T3
  clear hb3 T3
  go_wp2_with fail
  refine (t23 1 w3).mono ?_
  rintro e w4 ⟨a4, n4, c4, rfl, T4, hb4⟩
  have HB4 : Hid (Below w3.heap.size w3 w4) := hb4
  have H := t22_one ⟨#[102]⟩ _ _ w4 T4 (by simp) (by simp) rfl
  clear hb4 T4
  go_wp2_with fail
  refine H.mono ?_
  clear H
  rintro e w5 ⟨a5, n5, c5, rfl, T5, hb5⟩
  have HB5 : Hid (Below w3.heap.size w3 w5) := HB4.out.trans (hb5.mono HB4.out.size)
  have H := t22_two ⟨#[61]⟩ _ lvF _ _ w5 (HT3.out.below HB5.out) T5 (by simp) (by simp [lvF, ofL]) (by simp [lvF, ofL]) rfl
  clear hb5 T5 HB4 HT3
  go_wp2_with fail
  refine H.mono ?_
  clear H
  rintro e w6 ⟨a6, n6, c6, rfl, T6, hb6⟩
  have HB35 : Hid (Below w2.heap.size w2 w5) := HB3.out.trans (HB5.out.mono HB3.out.size)
  have HB6 : Hid (Below w2.heap.size w2 w6) := HB35.out.trans (hb6.mono HB35.out.size)
  have HT6 : Hid (TermAt w6 (.slice a6 n6 c6) lvB0) := T6
  clear hb6 T6 HB3 HB5 HB35
  go_wp2_with fail
  refine (t23 1 w6).mono ?_
  rintro e w7 ⟨a7, n7, c7, rfl, T7, hb7⟩
  have HB7 : Hid (Below w6.heap.size w6 w7) := hb7
  have H := t22_one ⟨#[113]⟩ _ _ w7 T7 (by simp) (by simp) rfl
  clear hb7 T7
  go_wp2_with fail
  refine H.mono ?_
  clear H
  rintro e w8 ⟨a8, n8, c8, rfl, T8, hb8⟩
  have HB8 : Hid (Below w6.heap.size w6 w8) := HB7.out.trans (hb8.mono HB7.out.size)
  have hbc : Below w8.heap.size w8 (w8.alloc (.cells #[.int .u8 1, .string ⟨#[]⟩, .int .i64 1, .int .i64 0, .int .i64 0] 82)) := (Below.refl _ w8).alloc (Nat.le_refl _) _
  have H := t22_two ⟨#[64]⟩ lvQ lvI _ _ _ (T8.below hbc) (one_cell w8 ⟨1, ⟨#[]⟩, 1, 0, 0⟩ (by decide)) (by simp [lvQ, ofL]) (by simp [lvI]) (by simp [lvQ, lvI, ofL]) rfl
  have HBc : Hid (Below w6.heap.size w6 (w8.alloc (.cells #[.int .u8 1, .string ⟨#[]⟩, .int .i64 1, .int .i64 0, .int .i64 0] 82))) := HB8.out.trans (hbc.mono HB8.out.size)
  simp only [World.size_alloc] at H
  clear hb8 T8 HB7 hbc HB8
  go_wp2_with fail
  refine H.mono ?_
  clear H
  rintro e w9 ⟨a9, n9, c9, rfl, T9, hb9⟩
  have HB9 : Hid (Below w6.heap.size w6 w9) := HBc.out.trans (hb9.mono (by have := HBc.out.size; simpa using this))
  have hR := row_two w9 _ _ _ _ (HT6.out.below HB9.out) T9
  have HT9 : Hid (TermAt w9 (.slice a9 n9 c9) lvB1) := T9
  have hbA : Below w9.heap.size w9 (w9.alloc (.cells #[.slice a6 n6 c6, .slice a9 n9 c9] 64)) := (Below.refl _ w9).alloc (Nat.le_refl _) _
  have hrow : ∀ W, Below (w9.alloc (.cells #[.slice a6 n6 c6, .slice a9 n9 c9] 64)).heap.size (w9.alloc (.cells #[.slice a6 n6 c6, .slice a9 n9 c9] 64)) W → W.cell? ⟨w9.heap.size, 1, none⟩ = some (.slice a9 n9 c9) := fun W hW => by
    rw [hW.cell (by simp), cell_of_row _ w9.heap.size 1 _ 64 (0, 0) (heap_alloc_new w9 _)]; rfl
  have HRow : Hid (∀ W, Below (w9.alloc (.cells #[.slice a6 n6 c6, .slice a9 n9 c9] 64)).heap.size (w9.alloc (.cells #[.slice a6 n6 c6, .slice a9 n9 c9] 64)) W → W.cell? ⟨w9.heap.size, 1, none⟩ = some (.slice a9 n9 c9)) := hrow
  have hbB := hbA.alloc hbA.size (.cells #[.int .u8 2, .string ⟨#[97]⟩, .int .i64 0, .int .i64 0, .int .i64 0] 82)
  have hbAB : Below (w9.alloc (.cells #[.slice a6 n6 c6, .slice a9 n9 c9] 64)).heap.size (w9.alloc (.cells #[.slice a6 n6 c6, .slice a9 n9 c9] 64)) ((w9.alloc (.cells #[.slice a6 n6 c6, .slice a9 n9 c9] 64)).alloc (.cells #[.int .u8 2, .string ⟨#[97]⟩, .int .i64 0, .int .i64 0, .int .i64 0] 82)) := (Below.refl _ _).alloc (Nat.le_refl _) _
  have HBAB : Hid (Below (w9.alloc (.cells #[.slice a6 n6 c6, .slice a9 n9 c9] 64)).heap.size (w9.alloc (.cells #[.slice a6 n6 c6, .slice a9 n9 c9] 64)) ((w9.alloc (.cells #[.slice a6 n6 c6, .slice a9 n9 c9] 64)).alloc (.cells #[.int .u8 2, .string ⟨#[97]⟩, .int .i64 0, .int .i64 0, .int .i64 0] 82))) := hbAB
  have HBB : Hid (Below w9.heap.size w9 ((w9.alloc (.cells #[.slice a6 n6 c6, .slice a9 n9 c9] 64)).alloc (.cells #[.int .u8 2, .string ⟨#[97]⟩, .int .i64 0, .int .i64 0, .int .i64 0] 82))) := hbB
  have HR : Hid (RowAt ((w9.alloc (.cells #[.slice a6 n6 c6, .slice a9 n9 c9] 64)).alloc (.cells #[.int .u8 2, .string ⟨#[97]⟩, .int .i64 0, .int .i64 0, .int .i64 0] 82)) (.slice (some ⟨w9.heap.size, 0, none⟩) 2 2) [lvB0, lvB1]) := hR.below hbAB
  have H := t22_one ⟨#[113]⟩ lvA _ _ (one_cell (w9.alloc (.cells #[.slice a6 n6 c6, .slice a9 n9 c9] 64)) ⟨2, ⟨#[97]⟩, 0, 0, 0⟩ (by decide)) (by simp [lvA]) (by simp [lvA]) rfl
  simp only [World.size_alloc, Nat.add_assoc, Nat.reduceAdd] at H
  clear hb9 T9 HBc hrow hbA hbB hbAB hR
  go_wp2_with fail
  refine H.mono ?_
  clear H
  rintro e w12 ⟨a12, n12, c12, rfl, T12, hb12⟩
  have hb12' : Below ((w9.alloc (.cells #[.slice a6 n6 c6, .slice a9 n9 c9] 64)).alloc (.cells #[.int .u8 2, .string ⟨#[97]⟩, .int .i64 0, .int .i64 0, .int .i64 0] 82)).heap.size ((w9.alloc (.cells #[.slice a6 n6 c6, .slice a9 n9 c9] 64)).alloc (.cells #[.int .u8 2, .string ⟨#[97]⟩, .int .i64 0, .int .i64 0, .int .i64 0] 82)) w12 := hb12.mono (by simp)
  have hb9_12 := HBB.out.trans (hb12'.mono HBB.out.size)
  have hb6_12 := HB9.out.trans (hb9_12.mono HB9.out.size)
  have hb2_12 := HB6.out.trans (hb6_12.mono HB6.out.size)
  have hbw12 := HB2.out.trans (hb2_12.mono HB2.out.size)
  have hC0 : ClAt w12 ⟨.slice a2 n2 c2, .slice none 0 0, .slice (some ⟨w9.heap.size, 0, none⟩) 2 2, 2⟩ lvC0 := ⟨HT2.out.below hb2_12, row_none _, HR.out.below hb12', rfl⟩
  have hC1 : ClAt w12 ⟨.slice a12 n12 c12, .slice none 0 0, .slice none 0 0, 0⟩ lvC1 := ⟨T12, row_none _, row_none _, rfl⟩
  have hP2 := prog_two w12 _ _ _ _ hC0 hC1
  have hP1 := prog_one w12 _ ⟨.slice a12 n12 c12, .slice none 0 0, .slice none 0 0, 0⟩ _ hC0
  have hbP : Below w12.heap.size w12 (w12.alloc (.cells #[.slice a2 n2 c2, .slice none 0 0, .slice (some ⟨w9.heap.size, 0, none⟩) 2 2, .int .i64 2, .slice a12 n12 c12, .slice none 0 0, .slice none 0 0, .int .i64 0] 66)) := (Below.refl _ w12).alloc (Nat.le_refl _) _
  have hbwP := hbw12.trans (hbP.mono hbw12.size)
  have hb9P := hb9_12.trans (hbP.mono hb9_12.size)
  have HPB : Hid (TermAt (w12.alloc (.cells #[.slice a2 n2 c2, .slice none 0 0, .slice (some ⟨w9.heap.size, 0, none⟩) 2 2, .int .i64 2, .slice a12 n12 c12, .slice none 0 0, .slice none 0 0, .int .i64 0] 66)) (.slice a9 n9 c9) lvB1) := HT9.out.below hb9P
  have HPc1 : Hid ((w12.alloc (.cells #[.slice a2 n2 c2, .slice none 0 0, .slice (some ⟨w9.heap.size, 0, none⟩) 2 2, .int .i64 2, .slice a12 n12 c12, .slice none 0 0, .slice none 0 0, .int .i64 0] 66)).cell? ⟨w9.heap.size, 1, none⟩ = some (.slice a9 n9 c9)) := HRow.out _ ((HBAB.out.trans (hb12'.mono HBAB.out.size)).trans (hbP.mono (HBAB.out.trans (hb12'.mono HBAB.out.size)).size))
  have HPc2 : Hid ((w12.alloc (.cells #[.slice a2 n2 c2, .slice none 0 0, .slice (some ⟨w9.heap.size, 0, none⟩) 2 2, .int .i64 2, .slice a12 n12 c12, .slice none 0 0, .slice none 0 0, .int .i64 0] 66)).cell? ⟨w12.heap.size, 2, none⟩ = some (.slice (some ⟨w9.heap.size, 0, none⟩) 2 2)) := by
    show World.cell? _ _ = _
    rw [cell_of_row _ w12.heap.size 2 _ 66 (0, 0) (heap_alloc_new w12 _)]; rfl
  have HPl : Hid (w12.heap.size < (w12.alloc (.cells #[.slice a2 n2 c2, .slice none 0 0, .slice (some ⟨w9.heap.size, 0, none⟩) 2 2, .int .i64 2, .slice a12 n12 c12, .slice none 0 0, .slice none 0 0, .int .i64 0] 66)).heap.size ∧ w9.heap.size < (w12.alloc (.cells #[.slice a2 n2 c2, .slice none 0 0, .slice (some ⟨w9.heap.size, 0, none⟩) 2 2, .int .i64 2, .slice a12 n12 c12, .slice none 0 0, .slice none 0 0, .int .i64 0] 66)).heap.size) := ⟨by simp, by have := hb9_12.size; simp; omega⟩
  have HPS : Hid (Signs (w12.alloc (.cells #[.slice a2 n2 c2, .slice none 0 0, .slice (some ⟨w9.heap.size, 0, none⟩) 2 2, .int .i64 2, .slice a12 n12 c12, .slice none 0 0, .slice none 0 0, .int .i64 0] 66))) := HS.out.below hbwP
  clear hb12 hb12' hb9_12 hb6_12 hb2_12 hbw12 hC0 hC1 T12 hbP hb9P HT9 HRow HBAB HBB HR HB9 HB6 HT6 HT2 HB2 HS
  have HP2 : Hid (ProgAt _ _ [lvC0, lvC1]) := hP2
  have HP1 : Hid (ProgAt _ _ [lvC0]) := hP1
  have HBwP : Hid (Below w.heap.size w _) := hbwP
  clear hP2 hP1 hbwP
  simp only at HP2 HP1
  go_wp2_with fail
  generalize (w12.alloc (.cells #[.slice a2 n2 c2, .slice none 0 0, .slice (some ⟨w9.heap.size, 0, none⟩) 2 2, .int .i64 2, .slice a12 n12 c12, .slice none 0 0, .slice none 0 0, .int .i64 0] 66)) = Wp at *
  generalize w12.heap.size = P at *
  generalize w9.heap.size = RB at *
  have H16 := k16 [lvC0, lvC1] _ 0 Wp HP2.out HPS.out (by intro c hc; simp at hc; rcases hc with rfl | rfl <;> simp [lvC0, lvC1])
  rw [lv_calls] at H16
  refine H16.mono ?_
  rintro e w13 ⟨u, rfl, hO, hb13⟩
  have hPr : PredsAt w13 u [((⟨#[113]⟩ : ByteArray), (1 : Int))] := predsAt_of_owns hO (by simp [maxLen])
  obtain ⟨ub, uo, uc, hu, d0, d1⟩ := preds_at hPr 0 (by simp)
  have hul : ub < w13.heap.size := by
    rcases hPr.2 with ⟨h, _⟩ | ⟨b, o, cap, h1, _, h4⟩
    · simp at h
    · rw [hu] at h1; simp at h1; rw [h1.1.1]; exact h4
  subst hu
  simp only [Nat.zero_mul, Nat.add_zero, List.getElem_cons_zero] at d0 d1
  have HD : Hid (w13.cell? ⟨ub, uo, none⟩ = some (.string ⟨#[113]⟩) ∧ w13.cell? ⟨ub, uo + 1, none⟩ = some (.int .i64 1) ∧ ub < w13.heap.size) := ⟨d0, d1, hul⟩
  have HB13 : Hid (Below Wp.heap.size Wp w13) := hb13
  have H15 := k15 [lvC0, lvC1] lv_fine _ w13 (HP2.out.below hb13) (HPS.out.below hb13)
  clear hO hPr d0 d1 hul hb13 H16
  go_wp2_with fail
  refine H15.mono ?_
  rintro e w14 ⟨n14, er, rfl, hI, hb14⟩
  obtain rfl := lv_ok hI
  have HB14 : Hid (Below w13.heap.size w13 w14) := hb14
  have hbp14 := HB13.out.trans (hb14.mono HB13.out.size)
  have H15' := k15 [lvC0] lu_fine _ w14 (HP1.out.below hbp14) (HPS.out.below hbp14)
  clear hI hb14 hbp14 H15
  go_wp2_with fail
  refine H15'.mono ?_
  rintro e w15 ⟨n15, er, rfl, hI, hb15⟩
  obtain rfl := lu_at hI
  have hb13_15 := HB14.out.trans (hb15.mono HB14.out.size)
  have hbp15 := HB13.out.trans (hb13_15.mono HB13.out.size)
  have d0 : w15.cell? ⟨ub, uo, none⟩ = some (.string ⟨#[113]⟩) := (hb13_15.cell (p := ⟨ub, uo, none⟩) HD.out.2.2).trans HD.out.1
  have d1 : w15.cell? ⟨ub, uo + 1, none⟩ = some (.int .i64 1) := (hb13_15.cell (p := ⟨ub, uo + 1, none⟩) HD.out.2.2).trans HD.out.2.1
  have e2 : w15.cell? ⟨P, 2, none⟩ = some (.slice (some ⟨RB, 0, none⟩) 2 2) := (hbp15.cell (p := ⟨P, 2, none⟩) HPl.out.1).trans HPc2.out
  have e1 : w15.cell? ⟨RB, 1, none⟩ = some (.slice a9 n9 c9) := (hbp15.cell (p := ⟨RB, 1, none⟩) HPl.out.2).trans HPc1.out
  have H12 := k12 lvB1 _ w15 (HPB.out.below hbp15) (HPS.out.below hbp15)
  rw [lv_goal] at H12
  have hq := eq_q1 w15
  have HBp15 : Hid (Below Wp.heap.size Wp w15) := hbp15
  clear hI hb15 hb13_15 hbp15 H15'
  go_wp2_with fail
  refine H12.mono ?_
  rintro e w16 ⟨rfl, hb16⟩
  have hbp16 := HBp15.out.trans (hb16.mono HBp15.out.size)
  have f2 : w16.cell? ⟨P, 2, none⟩ = some (.slice (some ⟨RB, 0, none⟩) 2 2) := (hbp16.cell (p := ⟨P, 2, none⟩) HPl.out.1).trans HPc2.out
  have f1 : w16.cell? ⟨RB, 1, none⟩ = some (.slice a9 n9 c9) := (hbp16.cell (p := ⟨RB, 1, none⟩) HPl.out.2).trans HPc1.out
  have H10 := k10 lvB1 _ w16 (HPB.out.below hbp16) (HPS.out.below hbp16)
  rw [lv_guard] at H10
  have HBp16 : Hid (Below Wp.heap.size Wp w16) := hbp16
  clear hbp16 hb16 H12
  go_wp2_with fail
  refine H10.mono ?_
  rintro e w17 ⟨rfl, hb17⟩
  have hbp17 := HBp16.out.trans (hb17.mono HBp16.out.size)
  go_wp2_with fail
  go_ret
  exact ⟨rfl, HBwP.out.trans (hbp17.mono HBwP.out.size)⟩
end Go.Proofs.YtgknheafkkkjcaaGreatDoor
namespace Go.Proofs.YtgknheafkkkjcaaGreatDoor
open Go.RowKit
theorem info38 : ∃ i, Tryz.prog.info? 66 = some i ∧ i.zero = some (.agg #[.slice none 0 0, .slice none 0 0, .slice none 0 0, .int .i64 0]) ∧ i.size = 4 ∧ i.bytes = 80 := by
  have h : (Tryz.prog.info? 66).map (fun i => (i.zero, i.size, i.bytes)) = some (some (.agg #[.slice none 0 0, .slice none 0 0, .slice none 0 0, .int .i64 0]), 4, 80) := by kernel_rfl
  cases hq : Tryz.prog.info? 66 with
  | none => rw [hq] at h; cases h
  | some i =>
    rw [hq] at h
    simp only [Option.map_some, Option.some.injEq, Prod.mk.injEq] at h
    exact ⟨i, rfl, h.1, h.2.1, h.2.2⟩
theorem wrap_u64 (x : Int) : IntKind.u64.wrap x = x % 18446744073709551616 := by simp [IntKind.wrap, IntKind.signed, IntKind.bits]
theorem rot_index (k : Int) (n : Nat) (h0 : 0 < n) (hn : n ≤ 1759218604441) : ∃ i : Nat, i < n ∧ wrap64 ((IntKind.u64.wrap k).tmod (n : Int)) = (i : Int) := by
  have hk0 : 0 ≤ IntKind.u64.wrap k := by rw [wrap_u64]; omega
  rw [Int.tmod_eq_emod_of_nonneg hk0]
  have h1 := Int.emod_nonneg (IntKind.u64.wrap k) (show (n : Int) ≠ 0 by omega)
  have h2 := Int.emod_lt_of_pos (IntKind.u64.wrap k) (show (0 : Int) < (n : Int) by omega)
  generalize IntKind.u64.wrap k % (n : Int) = m at *
  refine ⟨m.toNat, by omega, ?_⟩
  have : wrap64 m = m := by simp [wrap64]; omega
  rw [this]; omega
/-- A program's row whose cells lie in a block of one's own. -/
theorem progAt_of_owns {w : World} {base : Nat} {v : Value} {xs : List ClV} {cs : List Cl} (h : w.ownsRow base 66 4 v cs.length (flatK xs)) (hx : xs.length = cs.length) (hl : cs.length ≤ maxLen) (hC : ∀ (i : Nat) (x : ClV) (c : Cl), xs[i]? = some x → cs[i]? = some c → ClAt w x c) : ProgAt w v cs := by
  refine ⟨hl, ?_⟩
  rcases h.2 with ⟨h1, h2⟩ | ⟨g, cap, cur, h1, h2, h3, h4, h5, h6, h7⟩
  · exact Or.inl ⟨List.eq_nil_of_length_eq_zero h2, none, by rw [h1]⟩
  · exact Or.inr ⟨g, 0, cap, xs, h1, h4, h5, (Array.getElem?_eq_some_iff.1 h3).1, hx, range_of_owns h3 h7, hC⟩
theorem flatK_one {w : World} {xs : List ClV} {cs : List Cl} (hx : xs.length = cs.length) (hC : ∀ (i : Nat) (x : ClV) (c : Cl), xs[i]? = some x → cs[i]? = some c → ClAt w x c) : ∀ u ∈ flatK xs, u.oneCell' = true := by
  intro u hu
  unfold flatK at hu
  rw [List.mem_flatMap] at hu
  obtain ⟨x, hm, hu⟩ := hu
  obtain ⟨i, hi, rfl⟩ := List.getElem_of_mem hm
  have hc := hC i xs[i] (cs[i]'(by omega)) (List.getElem?_eq_getElem hi) (List.getElem?_eq_getElem (by omega))
  obtain ⟨a1, c1, e1⟩ := hc.1.form
  obtain ⟨a2, c2, e2⟩ := hc.2.1.form
  obtain ⟨a3, c3, e3⟩ := hc.2.2.1.form
  simp only [ClV.vals, List.mem_cons, List.not_mem_nil, or_false] at hu
  rcases hu with rfl | rfl | rfl | rfl
  · rw [e1]; rfl
  · rw [e2]; rfl
  · rw [e3]; rfl
  · rfl
theorem flatK_len (xs : List ClV) : (flatK xs).length = xs.length * 4 := by
  induction xs with
  | nil => rfl
  | cons a r ih => simp [flatK, ClV.vals] at *; omega
theorem flatK_append (a b : List ClV) : flatK (a ++ b) = flatK a ++ flatK b := by simp [flatK]
theorem range_part {w : World} {b o : Nat} {xs : List ClV} (h : w.rangeAt b o (flatK xs)) (i : Nat) (hi : i ≤ xs.length) : w.rangeAt b (o + i * 4) (flatK (xs.drop i)) ∧ w.rangeAt b o (flatK (xs.take i)) := by
  have e : flatK xs = flatK (xs.take i) ++ flatK (xs.drop i) := by rw [← flatK_append, List.take_append_drop]
  have hl : (flatK (xs.take i)).length = i * 4 := by rw [flatK_len, List.length_take]; omega
  constructor
  · intro j u hu
    have := h (i * 4 + j) u (by rw [e, List.getElem?_append_right (by omega), hl, Nat.add_sub_cancel_left]; exact hu)
    rwa [show o + (i * 4 + j) = o + i * 4 + j by omega] at this
  · intro j u hu
    exact h j u (by rw [e, List.getElem?_append_left (List.getElem?_eq_some_iff.1 hu).1]; exact hu)
theorem clause_cells {w : World} {b o : Nat} {xs : List ClV} (h : w.rangeAt b o (flatK xs)) (i : Nat) (hi : i < xs.length) : w.cell? ⟨b, o + i * 4, none⟩ = some xs[i].hv ∧ w.cell? ⟨b, o + i * 4 + 1, none⟩ = some xs[i].gv ∧ w.cell? ⟨b, o + i * 4 + 2, none⟩ = some xs[i].bv ∧ w.cell? ⟨b, o + i * 4 + 3, none⟩ = some (.int .i64 xs[i].n) := by
  have g : ∀ j v, j < 4 → (xs[i].vals)[j]? = some v → w.cell? ⟨b, o + i * 4 + j, none⟩ = some v := fun j v hj hv => by
    have := h (4 * i + j) v ((flatK_get xs i j hi hj).trans hv)
    rwa [show o + (4 * i + j) = o + i * 4 + j by omega] at this
  exact ⟨g 0 _ (by omega) rfl, g 1 _ (by omega) rfl, g 2 _ (by omega) rfl, g 3 _ (by omega) rfl⟩
theorem less_no (cs : List Cl) (x : Pd) (n : Nat) (h : n < cs.length) (hb : isB cs[n].hd x.1 x.2 = false) : lessS (cs.take (n + 1)) x = lessS (cs.take n) x ++ [cs[n]] := by
  unfold lessS
  rw [List.take_succ_eq_append_getElem h, List.filter_append]
  simp [hb]
theorem less_yes (cs : List Cl) (x : Pd) (n : Nat) (h : n < cs.length) (hb : isB cs[n].hd x.1 x.2 = true) : lessS (cs.take (n + 1)) x = lessS (cs.take n) x := by
  unfold lessS
  rw [List.take_succ_eq_append_getElem h, List.filter_append]
  simp [hb]
theorem Fits.sub {cs ds : List Cl} (F : Fits cs) (hl : ds.length ≤ 1759218604441) (h : ∀ c ∈ ds, c ∈ cs) : Fits ds :=
  ⟨hl, fun c hc => F.cw c (h c hc), fun c hc => F.gl c (h c hc), fun c hc => F.bl c (h c hc), fun c hc => F.hw c (h c hc), fun c hc => F.pw c (h c hc)⟩
end Go.Proofs.YtgknheafkkkjcaaGreatDoor
namespace Go.Proofs.YtgknheafkkkjcaaGreatDoor
open Go.ChangeShapes Go.WideShapes Go.ChangeAt Go.RowKit Go.Joins Go.Deep Go.Proofs.YtgknheafkkkjcaaGreatDoor.Laid
theorem cells38 : Tryz.prog.cellsOf 66 = 4 := by kernel_rfl
theorem cells36 : Tryz.prog.cellsOf 32 = 1 := by kernel_rfl
theorem bytes38 : Tryz.prog.bytesOf 66 = 80 := by kernel_rfl
def CellW (c : C) : Prop := wfN (c.vn, c.vk) ∧ (Lit.int .i64 c.n).wf = true ∧ c.t.size ≤ maxLen
def TermW (l : List C) : Prop := ∀ c ∈ l, CellW c
section
variable {H : Type} {enc : TypeId × Value → H} {w : World} {base : Nat} {sp : Nat → Bool} {held : Bool}
theorem open_cellW {fuel : Nat} {cs : List Value} {x : DataW H × List MemPlace} (h : DataW.trod enc Tryz.prog w base sp held fuel 82 cs = some x) : ∃ c : C, cs = c.vals ∧ CellW c := by
  cases fuel with
  | zero => simp [DataW.trod] at h
  | succ fuel =>
    simp only [DataW.trod, Tryz.underlying82, cells60] at h
    split at h
    · rename_i hl
      obtain ⟨a, b, c, d, e, rfl⟩ := list5 hl
      obtain ⟨xs, hm, _⟩ := Option.map_eq_some_iff.1 h
      have f0 := Lib.mapM_at hm 0 _ rfl
      have f1 := Lib.mapM_at hm 1 _ rfl
      have f2 := Lib.mapM_at hm 2 _ rfl
      have f3 := Lib.mapM_at hm 3 _ rfl
      obtain ⟨y0, _, g0⟩ := f0
      obtain ⟨y1, _, g1⟩ := f1
      obtain ⟨y2, _, g2⟩ := f2
      obtain ⟨y3, _, g3⟩ := f3
      simp only [cells58, cells9, cells3, cells23', List.drop_zero, List.drop_succ_cons, List.take_succ_cons, List.take_zero] at g0 g1 g2 g3
      obtain ⟨k, e0, _, _⟩ := DataW.trod_int Tryz.underlying78 g0
      obtain ⟨t, e1, _, ht⟩ := DataW.trod_string Tryz.underlying9 g1
      obtain ⟨n, e2, _, w2⟩ := DataW.trod_int Tryz.underlying3 g2
      obtain ⟨z0, z1, n3, _, _, h30, h31⟩ := trod_struct2 Tryz.underlying80 g3
      simp only [cells3, List.drop_zero, List.drop_succ_cons, List.take_succ_cons, List.take_zero] at h30 h31
      obtain ⟨vn, e3, _, w3⟩ := DataW.trod_int Tryz.underlying3 h30
      obtain ⟨vk, e4, _, w4⟩ := DataW.trod_int Tryz.underlying3 h31
      simp only [List.cons.injEq, and_true] at e0 e1 e2 e3 e4
      subst e0 e1 e2 e3 e4
      exact ⟨⟨k, t, n, vn, vk⟩, rfl, ⟨w3, w4⟩, w2, ht⟩
    · cases h
theorem term_wf {fuel : Nat} {v : Value} {x : DataW H × List MemPlace} {l : List C} (h : DataW.trod enc Tryz.prog w base (fun _ => true) held fuel 64 [v] = some x) (hT : TermAt w v l) : TermW l := by
  obtain ⟨_, hT⟩ := hT
  rcases hT with ⟨rfl, _⟩ | ⟨b, o, cp, hf, _, _, hr, hb⟩
  · intro c hc; simp at hc
  rcases open_slice Tryz.underlying64 h with ⟨hcs, hx⟩ | ⟨a, len, cap, m, n, D, Pl, hcs, _, hl, hmx, hm, hx, hel⟩
  · simp only [List.cons.injEq, and_true] at hcs
    rw [hf] at hcs
    cases hcs
  · simp only [List.cons.injEq, and_true] at hcs
    rw [hf] at hcs
    simp only [Value.slice.injEq, Option.some.injEq] at hcs
    obtain ⟨rfl, rfl, rfl⟩ := hcs
    simp only [if_true] at hm
    subst hm
    rw [cells60] at hel
    intro c hc
    obtain ⟨i, hi, rfl⟩ := List.getElem_of_mem hc
    obtain ⟨cs, h1, h2⟩ := hel i (by omega)
    obtain ⟨c', rfl, hw⟩ := open_cellW h2
    have h3 := (World.cells?_some h1).2.2
    obtain ⟨p0, p1, p2, p3, p4⟩ := term_cells hr i hi
    have q1 := h3 1 (by omega)
    have q2 := h3 2 (by omega)
    have q3 := h3 3 (by omega)
    have q4 := h3 4 (by omega)
    rw [Addr.add_mid, Addr.add_mid] at q1 q2 q3 q4
    rw [p1] at q1
    rw [p2] at q2
    rw [p3] at q3
    rw [p4] at q4
    simp [C.vals] at q1 q2 q3 q4
    unfold CellW at *
    rw [q1, q2, q3, q4]; exact hw
theorem row_wf {fuel : Nat} {v : Value} {x : DataW H × List MemPlace} {ls : List (List C)} (h : DataW.trod enc Tryz.prog w base (fun _ => true) held fuel 32 [v] = some x) (hR : RowAt w v ls) : ∀ l ∈ ls, TermW l := by
  obtain ⟨_, hR⟩ := hR
  rcases hR with ⟨rfl, _⟩ | ⟨b, o, cp, vs, hf, _, _, hb, hvl, hr, ht⟩
  · simp
  rcases open_slice1 Tryz.underlying32 cells29 h with ⟨hcs, hx⟩ | ⟨a, len, cap, m, n, V, D, Pl, hcs, _, hl, hmx, hm, hx, hel⟩
  · simp only [List.cons.injEq, and_true] at hcs
    rw [hf] at hcs
    cases hcs
  · simp only [List.cons.injEq, and_true] at hcs
    rw [hf] at hcs
    simp only [Value.slice.injEq, Option.some.injEq] at hcs
    obtain ⟨rfl, rfl, rfl⟩ := hcs
    simp only [if_true] at hm
    subst hm
    intro l hl'
    obtain ⟨i, hi, rfl⟩ := List.getElem_of_mem hl'
    obtain ⟨h1, h2⟩ := hel i (by omega)
    have p0 := row_cell hr i (by omega)
    rw [Addr.add_mid] at h1
    rw [p0] at h1
    simp at h1
    rw [← h1] at h2
    exact term_wf h2 (ht i _ _ (List.getElem?_eq_getElem (by omega)) (List.getElem?_eq_getElem hi))
/-- A clause's terms have numbers that fit. -/
def ClD (c : Cl) : Prop := TermW c.hd ∧ (∀ l ∈ c.gs, TermW l) ∧ ∀ l ∈ c.bs, TermW l
theorem list4 {α : Type} {l : List α} (h : l.length = 4) : ∃ a b c d, l = [a, b, c, d] := by
  match l, h with
  | [a, b, c, d], _ => exact ⟨a, b, c, d, rfl⟩
theorem open_clause {fuel : Nat} {cs : List Value} {x : DataW H × List MemPlace} (h : DataW.trod enc Tryz.prog w base (fun _ => true) held fuel 66 cs = some x) :
    ∃ (X : ClV) (c : Cl), cs = X.vals ∧ ClAt w X c ∧ ClD c ∧ ∀ M : Nat, (∀ y ∈ DataW.weights Tryz.prog 66 x.1, y ≤ M) → c.gs.length * 24 ≤ M ∧ c.bs.length * 24 ≤ M := by
  obtain ⟨y0, y1, y2, y3, n, hx, hl, g0, g1, g2, g3⟩ := trod_struct4 Tryz.underlying66 h
  rw [cells38] at hl
  obtain ⟨a, b, c, d, rfl⟩ := list4 hl
  simp only [cells29, cells36, cells3, List.drop_zero, List.drop_succ_cons, List.take_succ_cons, List.take_zero] at g0 g1 g2 g3
  obtain ⟨lh, th, _⟩ := open_term g0
  obtain ⟨lg, tg, wg⟩ := open_row g1
  obtain ⟨lb, tb, wb⟩ := open_row g2
  obtain ⟨k, e3, _, _⟩ := DataW.trod_int Tryz.underlying3 g3
  simp only [List.cons.injEq, and_true] at e3
  subst e3
  refine ⟨⟨a, b, c, k⟩, ⟨lh, lg, lb, k⟩, rfl, ⟨th, tg, tb, rfl⟩, ⟨term_wf g0 th, row_wf g1 tg, row_wf g2 tb⟩, fun M hM => ?_⟩
  rw [hx] at hM
  simp only [DataW.weights, Tryz.underlying66, DataW.weightsEach, List.mem_append, List.map_cons, List.map_nil] at hM
  exact ⟨(wg M (fun y hy => hM y (by simp [hy]))).1, (wb M (fun y hy => hM y (by simp [hy]))).1⟩
theorem flatK_div (l : List ClV) (j : Nat) (v : Value) (h : (flatK l)[j]? = some v) : ∃ (hi : j / 4 < l.length), (l[j / 4].vals)[j % 4]? = some v := by
  have hj : j < (flatK l).length := (List.getElem?_eq_some_iff.1 h).1
  rw [flatK_len] at hj
  have hi : j / 4 < l.length := by omega
  refine ⟨hi, ?_⟩
  rw [← flatK_get l (j / 4) (j % 4) hi (by omega), show 4 * (j / 4) + j % 4 = j by omega]
  exact h
theorem open_prog {fuel : Nat} {v : Value} {x : DataW H × List MemPlace} (h : DataW.trod enc Tryz.prog w base (fun _ => true) held fuel 23 [v] = some x) :
    ∃ cs : List Cl, ProgAt w v cs ∧ (∀ c ∈ cs, ClD c) ∧ ∀ M : Nat, (∀ y ∈ DataW.weights Tryz.prog 23 x.1, y ≤ M) → cs.length * 80 ≤ M ∧ ∀ c ∈ cs, c.gs.length * 24 ≤ M ∧ c.bs.length * 24 ≤ M := by
  rcases open_slice Tryz.underlying23 h with ⟨hcs, hx⟩ | ⟨a, len, cap, m, n, D, Pl, hcs, _, hl, hmx, hm, hx, hel⟩
  · simp only [List.cons.injEq, and_true] at hcs
    subst hcs
    exact ⟨[], ⟨by simp, .inl ⟨rfl, none, rfl⟩⟩, by simp, fun M _ => by simp⟩
  · simp only [List.cons.injEq, and_true] at hcs
    subst hcs
    simp only [if_true] at hm
    subst hm
    by_cases h0 : m = 0
    · have hl0 : len = 0 := by omega
      subst h0 hl0
      exact ⟨[], ⟨by simp, .inl ⟨rfl, some a, rfl⟩⟩, by simp, fun M _ => by simp⟩
    · rw [cells38] at hel
      have hc : ∀ i, i < m → ∃ p : ClV × Cl, (∀ r, r < 4 → w.cell? ((a.add (i * 4)).add r) = p.1.vals[r]?) ∧ ClAt w p.1 p.2 ∧ ClD p.2 ∧ ∀ M : Nat, (∀ y ∈ DataW.weights Tryz.prog 66 (D i), y ≤ M) → p.2.gs.length * 24 ≤ M ∧ p.2.bs.length * 24 ≤ M := by
        intro i hi
        obtain ⟨cs, h1, h2⟩ := hel i hi
        obtain ⟨X, c, rfl, h3, h4, h5⟩ := open_clause h2
        exact ⟨(X, c), (World.cells?_some h1).2.2, h3, h4, h5⟩
      obtain ⟨f, hf⟩ := @choose_lt (ClV × Cl) ⟨(⟨.slice none 0 0, .slice none 0 0, .slice none 0 0, 0⟩, ⟨[], [], [], 0⟩)⟩ m _ hc
      have h00 := (hf 0 (by omega)).1 0 (by omega)
      obtain ⟨b, o, spot⟩ := a
      have hspot : spot = none := by
        have h01 : w.cell? (((⟨b, o, spot⟩ : Addr).add (0 * 4)).add 0) = some (f 0).1.hv := h00
        simpa [Addr.add] using World.cell?_spot h01
      subst hspot
      have hr : w.rangeAt b o (flatK ((List.range len).map fun i => (f i).1)) := by
        intro j u hu
        obtain ⟨hi, hv⟩ := flatK_div _ j u hu
        simp at hi
        have h2 := (hf (j / 4) (by omega)).1 (j % 4) (by omega)
        rw [Addr.add_mid, Addr.add_mid, show o + j / 4 * 4 + j % 4 = o + j by omega] at h2
        rw [h2]
        simpa using hv
      have hb : b < w.heap.size := by
        have h01 : w.cell? (((⟨b, o, none⟩ : Addr).add (0 * 4)).add 0) = some (f 0).1.hv := h00
        rw [Addr.add_mid, Addr.add_mid] at h01
        exact World.block_lt_of_cell? w _ h01
      have hmem : ∀ c ∈ (List.range len).map (fun i => (f i).2), ∃ i, i < len ∧ (f i).2 = c := by
        intro c hc'
        simp only [List.mem_map, List.mem_range] at hc'
        exact hc'
      refine ⟨(List.range len).map fun i => (f i).2, ⟨by simp; omega, .inr ⟨b, o, m, (List.range len).map fun i => (f i).1, by simp, by simp; exact hl, hmx, hb, by simp, hr, ?_⟩⟩, ?_, fun M hM => ⟨?_, ?_⟩⟩
      · intro i X c hX hC
        simp only [List.getElem?_map, Option.map_eq_some_iff] at hX hC
        obtain ⟨j, hj, rfl⟩ := hX
        obtain ⟨j', hj', rfl⟩ := hC
        rw [hj] at hj'
        cases hj'
        have hlt : i < len := by have := (List.getElem?_eq_some_iff.1 hj).1; simpa using this
        rw [List.getElem?_range hlt] at hj
        cases hj
        exact (hf i (by omega)).2.1
      · intro c hc'
        obtain ⟨i, hi, rfl⟩ := hmem c hc'
        exact (hf i (by omega)).2.2.1
      · have h1 := hM ((len + (m - len)) * 80) (by
          rw [hx]
          simp [DataW.weights, Tryz.underlying23, bytes38])
        have h2 : len * 80 ≤ (len + (m - len)) * 80 := Nat.mul_le_mul_right _ (by omega)
        simp; omega
      · intro c hc'
        obtain ⟨i, hi, rfl⟩ := hmem c hc'
        refine (hf i (by omega)).2.2.2 M (fun y hy => hM y ?_)
        rw [hx]
        simp only [DataW.weights, Tryz.underlying23, List.mem_cons, List.mem_append]
        right; left
        exact weightsAll_mem (List.mem_map.2 ⟨i, by simpa using hi, rfl⟩) hy
end
theorem headW {l : List C} (h : TermW l) : (headC l).t.size ≤ maxLen ∧ (Lit.int .i64 (headC l).n).wf = true := by
  cases l with
  | nil => exact ⟨by decide, rfl⟩
  | cons c r => exact ⟨(h c (by simp)).2.2, (h c (by simp)).2.1⟩
theorem predW {l : List C} (h : TermW l) : wfP (predS l) := by
  obtain ⟨h1, h2⟩ := headW h
  unfold predS
  split
  · exact ⟨h1, rfl⟩
  · exact ⟨h1, h2⟩
theorem left_mem {l : List C} (hr : rightB l = true) (h1 : 0 < l.length) (hk : l[0].k = 3) (hn : l[0].n = 2) : ∀ c ∈ leftL l, c ∈ l := by
  obtain ⟨m, hm1, hml, he, ha⟩ := two_parts hr h1 hk hn
  have e1 : leftL l = (l.drop 1).take m := by unfold leftL; rw [ha]; rfl
  rw [e1]
  intro c hc
  exact List.mem_of_mem_drop (List.mem_of_mem_take hc)
theorem callW {l : List C} (h : TermW l) (hr : rightB l = true) : TermW (callT l) := by
  have h1 : 0 < l.length := (right_len hr).1
  unfold callT
  rw [headC_get h1]
  split
  · next hs =>
    have hs' : isSignB l[0].t.data.toList = true := by
      have : l[0].t.data.toList = [64] := by rw [← ByteArray.toList_eq]; simpa using hs
      rw [this]; decide
    obtain ⟨e1, e2⟩ := sign_cell (right_cell hr _ (List.getElem_mem h1)) hs'
    exact fun c hc => h c (left_mem hr h1 e1 e2 c hc)
  · exact h
theorem calledW {ls : List (List C)} (h : ∀ l ∈ ls, TermW l) : ∀ y ∈ calledS ls, wfP y := by
  intro y hy
  unfold calledS at hy
  rcases foldP_mem _ _ _ hy with hy | hy
  · simp at hy
  · unfold predsOf at hy
    obtain ⟨l, hl, rfl⟩ := List.mem_map.1 hy
    obtain ⟨hl1, hl2⟩ := List.mem_filter.1 hl
    have hr : rightB l = true := by
      unfold callB at hl2
      simp at hl2
      exact hl2.1
    exact predW (callW (h l hl1) hr)
theorem varsW {l : List C} (h : TermW l) : ∀ x ∈ varsOf l, wfN x := by
  intro x hx
  unfold varsOf at hx
  obtain ⟨c, hc, rfl⟩ := List.mem_map.1 hx
  exact (h c (List.mem_filter.1 hc).1).1
theorem fits_of {cs : List Cl} (hD : ∀ c ∈ cs, ClD c) (hl : cs.length * 80 ≤ 140737488355328) (hr : ∀ c ∈ cs, c.gs.length * 24 ≤ 140737488355328 ∧ c.bs.length * 24 ≤ 140737488355328) : Fits cs := by
  refine ⟨by omega, fun c hc l hl => ?_, fun c hc => by have := (hr c hc).1; omega, fun c hc => by have := (hr c hc).2; omega, fun c hc _ => predW (hD c hc).1, fun c hc => calledW (hD c hc).2.2⟩
  rcases hl with rfl | hl | hl
  · exact varsW (hD c hc).1
  · exact varsW ((hD c hc).2.1 l hl)
  · exact varsW ((hD c hc).2.2 l hl)
end Go.Proofs.YtgknheafkkkjcaaGreatDoor
namespace Go.Proofs.YtgknheafkkkjcaaGreatDoor
open Go.RowKit
attribute [local go_sem ↓] Go.wp_at_zero Go.wp_at_succ
set_option maxHeartbeats 1000000 in
theorem c43_nil (ad : Option Addr) (a b : Int) (w : World) :
    Calls Tryz.prog 96 #[.slice ad 0 0, .agg #[.int .i64 a, .int .i64 b]] w fun e w' => e = .returned (.bool false) ∧ Below w.heap.size w w' := by
  go_enter Tryz.func96, Tryz.ntmps96
  go_wp2_with fail
  refine wp_loop_rounds 1 ?_
  rw [rounds_succ]
  go_wp2_with fail
  go_ret
  exact ⟨rfl, below_alloc _ _⟩
set_option maxHeartbeats 2000000 in
theorem c43_in (l : List Nm) (b1 o1 c1 : Nat) (x : Nm) (w : World) (hr1 : w.rangeAt b1 o1 (flatN l)) (hc : l.length ≤ maxLen) (hb1 : b1 < w.heap.size) :
    Calls Tryz.prog 96 #[.slice (some ⟨b1, o1, none⟩) l.length c1, .agg #[.int .i64 x.1, .int .i64 x.2]] w fun e w' => e = .returned (.bool (hasN l x)) ∧ Below w.heap.size w w' := by
  unfold maxLen at hc
  have HR1 : Hid (w.rangeAt b1 o1 (flatN l)) := hr1
  have hB0 : ∀ o : Obj, Hid (Below w.heap.size w (w.alloc o)) := fun o => below_alloc w o
  have hP := Pair.new w 80 x.1 x.2
  clear hr1
  go_enter Tryz.func96, Tryz.ntmps96
  go_wp2_with fail
  go_loopw [5] (fun i wr => ∃ k : Nat, k ≤ l.length ∧ i = .int .i64 k ∧ Hid (hasN (l.take k) x = false) ∧ Hid (Pair wr w.heap.size 80 x.1 x.2) ∧ Below w.heap.size w wr) (fun i _ => l.length - (intOf i).toNat)
  case atStart => exact ⟨0, by omega, rfl, rfl, hP, (hB0 _).out⟩
  case round =>
    obtain ⟨k, hk, rfl, HU, HP, hbr⟩ := hrel
    by_cases hlt : k < l.length
    · have hlt' : (k : Int) < (l.length : Int) := by omega
      have hk0 : (0 : Int) ≤ (k : Int) := by omega
      obtain ⟨p0, p1⟩ := name_cells (range_below HR1.out hb1 hbr) k hlt
      have q0 := HP.out.cell0
      have q1 := HP.out.cell1
      have hN := eql23b l[k].1 l[k].2 x.1 x.2
      have e1 : (l[k].1 == x.1 && l[k].2 == x.2) = eqN l[k] x := rfl
      rw [e1] at hN
      clear e1
      have hPd : ∀ n, Hid (Pair (wr.drewN n) w.heap.size 80 x.1 x.2) := fun n => HP.out
      cases hq : eqN l[k] x
      · have hU : Hid (hasN (l.take (k + 1)) x = false) := by
          show hasN (l.take (k + 1)) x = false
          unfold hasN at *
          rw [List.take_succ_eq_append_getElem hlt, List.any_append, HU.out]; simp [hq]
        rw [hq] at hN
        clear hq
        go_wp2_with fail
        go_quiet (fail)
        go_wp2_with fail
        go_roundw
        case rel => exact ⟨k + 1, by omega, by go_num, hU, hPd _, below_drewN hbr _⟩
        case measure => simp [intOf]; omega
      · have hF : Hid (hasN l x = true) := by
          show hasN l x = true
          unfold hasN
          rw [List.any_eq_true]
          exact ⟨l[k], List.getElem_mem _, hq⟩
        rw [hq] at hN
        clear hq
        go_wp2_with fail
        go_quiet (fail)
        go_wp2_with fail
        go_ret
        exact ⟨by rw [hF.out]; rfl, below_drewN hbr _⟩
    · have hF : Hid (hasN l x = false) := by
        have h := HU.out; rw [List.take_of_length_le (by omega)] at h; exact h
      have hlt' : ¬ ((k : Int) < (l.length : Int)) := by omega
      go_wp2_with fail
      go_ret
      exact ⟨by rw [hF.out]; rfl, hbr⟩
theorem c43 (l : List Nm) (v : Value) (x : Nm) (w : World) (h : NamesAt w v l) :
    Calls Tryz.prog 96 #[v, .agg #[.int .i64 x.1, .int .i64 x.2]] w fun e w' => e = .returned (.bool (hasN l x)) ∧ Below w.heap.size w w' := by
  obtain ⟨hc, h⟩ := h
  rcases h with ⟨rfl, ad, rfl⟩ | ⟨b, o, cap, rfl, h3, h4⟩
  · exact c43_nil ad x.1 x.2 w
  · exact c43_in l b o cap x w h3 hc h4
set_option maxHeartbeats 1000000 in
theorem c35_nil (ad : Option Addr) (w : World) :
    Calls Tryz.prog 97 #[.slice ad 0 0] w fun e w' => e = .returned (.slice none 0 0) ∧ Below w.heap.size w w' := by
  go_enter Tryz.func97, Tryz.ntmps97
  go_wp2_with fail
  refine wp_loop_rounds 1 ?_
  rw [rounds_succ]
  go_wp2_with fail
  go_ret
  exact ⟨rfl, Below.refl _ _⟩
set_option maxRecDepth 100000 in
set_option maxHeartbeats 4000000 in
theorem c35_in (ls : List (List C)) (b o cap : Nat) (vs : List Value) (w : World) (hb : b < w.heap.size) (hc : ls.length ≤ maxLen) (hvl : vs.length = ls.length) (hr : w.rangeAt b o vs) (ht : ∀ (i : Nat) (u : Value) (x : List C), vs[i]? = some u → ls[i]? = some x → TermAt w u x) (hT : (varsAll ls).length ≤ 1000000000000) :
    Calls Tryz.prog 97 #[.slice (some ⟨b, o, none⟩) ls.length cap] w fun e w' => ∃ u, e = .returned u ∧ OwnN w' w.heap.size u (nubN (varsAll ls)) ∧ Below w.heap.size w w' := by
  unfold maxLen at hc
  have HR : Hid (w.rangeAt b o vs) := hr
  have HT : Hid (∀ (i : Nat) (u : Value) (x : List C), vs[i]? = some u → ls[i]? = some x → TermAt w u x) := ht
  have HV : Hid (vs.length = ls.length) := hvl
  obtain ⟨i0, hi, hz, hs, hby⟩ := info23
  clear hr ht hvl
  go_enter Tryz.func97, Tryz.ntmps97
  go_wp2_with fail
  go_loopw [3, 4] (fun out i wr => ∃ k : Nat, k ≤ ls.length ∧ i = .int .i64 k ∧ Hid (OwnN wr w.heap.size out (nubN (varsAll (ls.take k)))) ∧ Below w.heap.size w wr) (fun _ i _ => ls.length - (intOf i).toNat)
  case atStart => exact ⟨0, Nat.zero_le _, rfl, World.ownsRow_nil _ _ _ _, Below.refl _ _⟩
  case round =>
    obtain ⟨k, hk, rfl, hown, hbr⟩ := hrel
    by_cases hlt : k < ls.length
    · have hlt' : (k : Int) < (ls.length : Int) := by omega
      have hkv : k < vs.length := by rw [HV.out]; exact hlt
      have htm := HT.out k _ _ (List.getElem?_eq_getElem hkv) (List.getElem?_eq_getElem hlt)
      obtain ⟨ak, ck, hfk⟩ := htm.form
      have hl63 : ls[k].length ≤ 2 ^ 63 - 1 := htm.1.1
      have HTA : Hid (TermAt w vs[k] ls[k]) := htm
      have HP : Hid (∀ wr, Below w.heap.size w wr → wr.cell? ⟨b, o + k, none⟩ = some (.slice ak ls[k].length ck)) := fun wr h => by
        have := row_cell (range_below HR.out hb h) k hkv
        rw [this, hfk]
      rw [hfk] at HTA
      clear htm hfk
      go_wp2_with fail
      go_loopw [3, 5] (fun out i wr => ∃ j : Nat, j ≤ ls[k].length ∧ i = .int .i64 j ∧ Hid (OwnN wr w.heap.size out (metN ls k j)) ∧ Below w.heap.size w wr) (fun _ i _ => ls[k].length - (intOf i).toNat)
      case atStart => exact ⟨0, Nat.zero_le _, rfl, by show OwnN _ _ _ _; rw [metN_zero]; exact hown.out, hbr⟩
      case round =>
        obtain ⟨j, hj, rfl, hown2, hbr2⟩ := hrel
        have p0 := HP.out wr hbr2
        have hsz := hbr2.size
        by_cases hltj : j < ls[k].length
        · have hltj' : (j : Int) < (ls[k].length : Int) := by omega
          obtain ⟨_, hta2⟩ := HTA.out
          rcases hta2 with ⟨hnil, _⟩ | ⟨bk, ok, ck2, hf, _, _, hrk, hbk⟩
          · rw [hnil] at hltj; simp at hltj
          simp only [Value.slice.injEq, true_and] at hf
          obtain ⟨hf1, hf2⟩ := hf
          subst hf1 hf2
          obtain ⟨q0, q1, q2, q3, q4⟩ := term_cells (range_below hrk hbk hbr2) j hltj
          have hml := metN_len ls k j hlt
          clear hrk
          cases h4 : (ls[k][j].k == 4)
          · have hE : Hid (metN ls k (j + 1) = metN ls k j) := metN_no ls k j hlt hltj h4
            go_wp2_with fail
            go_roundw
            case rel => exact ⟨j + 1, by omega, by go_num, by show OwnN _ _ _ _; rw [hE.out]; exact hown2.out.alloc _, hbr2.alloc hsz _⟩
            case measure => simp [intOf]; omega
          · have hE0 := metN_yes ls k j hlt hltj h4
            have H43 := fun ob => c43 (metN ls k j) _ (ls[k][j].vn, ls[k][j].vk) (wr.alloc ob) ((namesAt_of_owns hown2.out (by unfold maxLen; omega)).below (below_alloc _ ob))
            dsimp only at H43
            cases hh : hasN (metN ls k j) (ls[k][j].vn, ls[k][j].vk)
            · have hE : Hid (metN ls k (j + 1) = metN ls k j ++ [(ls[k][j].vn, ls[k][j].vk)]) := by
                show metN ls k (j + 1) = _
                rw [hE0]; unfold addN; rw [hh]; rfl
              rw [hh] at H43
              have H43 : Hid (∀ ob, _) := H43
              clear hE0 hh
              go_wp2_with fail
              refine (H43.out _).mono ?_
              rintro e w2 ⟨rfl, hb2⟩
              obtain ⟨hcc, hff⟩ := bcell hb2
              have hz2 : wr.heap.size < w2.heap.size := by have := hb2.size; simp at this; omega
              have hw2 : Hid (Below w.heap.size w w2) := (hbr2.alloc hsz _).trans (hb2.mono (by simp; omega))
              have hown3 : Hid (OwnN w2 w.heap.size _ (metN ls k j)) := owns_below (hown2.out.alloc _) hb2
              have hnews := newsN_new w2 (ls[k][j].vn, ls[k][j].vk)
              have hnews : Hid (∀ j' u, (flatN [(ls[k][j].vn, ls[k][j].vk)])[j']? = some u → (w2.alloc (.cells #[.int .i64 ls[k][j].vn, .int .i64 ls[k][j].vk] 80)).cell? ((⟨w2.heap.size, 0, none⟩ : Addr).add j') = some u) := hnews
              have hlen : Hid ((flatN [(ls[k][j].vn, ls[k][j].vk)]).length = 1 * 2) := rfl
              go_wp2_with (at_builtin; refine wpList_append_own _ rfl _ _ 105 rfl w.heap.size 80 i0 (.agg #[.int .i64 0, .int .i64 0]) 2 16 Tryz.underlying105 hi hz hs hby rfl (by decide) _ _ _ rfl (hown3.out.alloc _) ⟨w2.heap.size, 0, none⟩ 1 1 (flatN [(ls[k][j].vn, ls[k][j].vk)]) rfl hlen.out hnews.out (flatN_one _) (by unfold maxLen; omega) (by omega) (by simp; omega) ?_)
              intro v' w3 hown' hgrow hnil
              have hown4 : Hid (OwnN w3 w.heap.size v' (metN ls k (j + 1))) := by
                show w3.ownsRow w.heap.size 80 2 v' _ _
                rw [hE.out, flatN_append, List.length_append]; exact hown'
              have hbr3 : Hid (Below w.heap.size w w3) := (hw2.out.alloc (by omega) _).grown hgrow (by simp; omega) (fun g hg => (hown3.out.lt g hg).1)
              clear hgrow hnil
              go_wp2_with fail
              go_roundw
              case rel => exact ⟨j + 1, by omega, by go_num, hown4, hbr3.out⟩
              case measure => simp [intOf]; omega
            · have hE : Hid (metN ls k (j + 1) = metN ls k j) := by
                show metN ls k (j + 1) = _
                rw [hE0]; unfold addN; rw [hh]; rfl
              rw [hh] at H43
              have H43 : Hid (∀ ob, _) := H43
              clear hE0 hh
              go_wp2_with fail
              refine (H43.out _).mono ?_
              rintro e w2 ⟨rfl, hb2⟩
              have hw2 : Hid (Below w.heap.size w w2) := (hbr2.alloc hsz _).trans (hb2.mono (by simp; omega))
              have hown3 : Hid (OwnN w2 w.heap.size _ (metN ls k j)) := owns_below (hown2.out.alloc _) hb2
              go_wp2_with fail
              go_roundw
              case rel => exact ⟨j + 1, by omega, by go_num, by show OwnN _ _ _ _; rw [hE.out]; exact hown3.out, hw2.out⟩
              case measure => simp [intOf]; omega
        · have hlt2 : ¬ ((j : Int) < (ls[k].length : Int)) := by omega
          have hE : Hid (metN ls k j = nubN (varsAll (ls.take (k + 1)))) := metN_end ls k j hlt (by omega)
          go_wp2_with fail
          go_roundw
          case rel => exact ⟨k + 1, by omega, by go_num, by show OwnN _ _ _ _; rw [← hE.out]; exact hown2.out, hbr2⟩
          case measure => simp [intOf]; omega
    · have hlt' : ¬ ((k : Int) < (ls.length : Int)) := by omega
      rw [List.take_of_length_le (by omega)] at hown
      go_wp2_with fail
      go_ret
      exact ⟨_, rfl, hown.out, hbr⟩
theorem c35 (ls : List (List C)) (v : Value) (w : World) (h : RowAt w v ls) (hT : (varsAll ls).length ≤ 1000000000000) :
    Calls Tryz.prog 97 #[v] w fun e w' => ∃ u, e = .returned u ∧ OwnN w' w.heap.size u (nubN (varsAll ls)) ∧ Below w.heap.size w w' := by
  obtain ⟨hc, h⟩ := h
  rcases h with ⟨rfl, ad, rfl⟩ | ⟨b, o, cap, vs, rfl, h2, h3, h4, h5, h6, h7⟩
  · exact (c35_nil ad w).mono fun e w' ⟨h1, h2⟩ => ⟨_, h1, World.ownsRow_nil _ _ _ _, h2⟩
  · exact c35_in ls b o cap vs w h4 hc h5 h6 h7 hT
set_option maxHeartbeats 1000000 in
theorem c42 (l : List C) (v : Value) (w : World) (h : TermAt w v l) (hT : l.length ≤ 1000000000000) :
    Calls Tryz.prog 70 #[v] w fun e w' => ∃ u, e = .returned u ∧ OwnN w' w.heap.size u (nubN (varsOf l)) ∧ Below w.heap.size w w' := by
  have hvl : (varsAll [l]).length ≤ 1000000000000 := by
    have : (varsOf l).length ≤ l.length := by unfold varsOf; rw [List.length_map]; exact List.length_filter_le _ _
    simp [varsAll]; omega
  have hva : varsAll [l] = varsOf l := by simp [varsAll]
  have H35 := c35 [l] _ _ (row_one w v l h) hvl
  rw [hva] at H35
  obtain ⟨ad, cap, hf⟩ := h.form
  have hl63 : l.length ≤ 2 ^ 63 - 1 := h.1.1
  rw [hf] at H35
  rw [hf]
  clear h hf hva hvl
  go_enter Tryz.func70, Tryz.ntmps70
  go_wp2_with fail
  refine H35.mono ?_
  rintro e w' ⟨u, rfl, hO, hb⟩
  obtain ⟨g, c2, rfl⟩ := owns_form hO
  have HO : Hid _ := hO
  clear hO
  go_wp2_with fail
  go_ret
  refine ⟨_, rfl, ⟨HO.out.1, ?_⟩, (below_alloc w _).trans (hb.mono (by simp))⟩
  rcases HO.out.2 with h | ⟨g', cap', cur, h1, h2, h3⟩
  · exact .inl h
  · exact .inr ⟨g', cap', cur, h1, by simp at h2; omega, h3⟩
end Go.Proofs.YtgknheafkkkjcaaGreatDoor
