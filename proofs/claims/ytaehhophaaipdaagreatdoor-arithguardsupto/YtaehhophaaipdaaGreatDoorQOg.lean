/- The fixed term of live: its sums. Contracts of IndexFunc, ContainsFunc and Reckon. Contract of live. -/
import Derived.Test.YtaehhophaaipdaaGreatDoorQJg
import Derived.Test.YtaehhophaaipdaaGreatDoorHP6g
import Derived.Test.YtaehhophaaipdaaGreatDoorQAg
import Derived.Test.YtaehhophaaipdaaGreatDoorAR4g
import Derived.Laws.EntriesVeiled
import Derived.BigQuiet
namespace Go.Proofs.YtaehhophaaipdaaGreatDoor
open Go.RowKit
attribute [local go_sem ↓] Go.wp_at_zero Go.wp_at_succ
def lxC : C := ⟨4, ⟨#[]⟩, 0, 0, 1⟩
def liC (n : Int) : C := ⟨1, ⟨#[]⟩, n, 0, 0⟩
def loC (t : ByteArray) : C := ⟨3, t, 2, 0, 0⟩
def lvT : List C := [loC ⟨#[43]⟩, lxC, loC ⟨#[42]⟩, liC 2, liC 3]
def lvH : Hp := [((0, 1), [liC 1])]
theorem lv_bind : bindE [] (0, 1) [liC 1] = 0 := by kernel_rfl
theorem lv_bound : bindH [] (0, 1) [liC 1] = lvH := by
 unfold bindH
 rw [if_pos lv_bind]
 rfl
theorem lv_right : rightB lvT = true := by kernel_rfl
theorem lv_int (m : Hp) (d : Nat) (n : Int) (r : List C) (names : List Nm) : Sm m (d + 1) (liC n :: r) names n 1 r names := Sm.leaf (e := liC n) (r' := []) (show (1 : Int) ≠ 3 by decide) ⟨.here _, rfl⟩
theorem lv_mul (m : Hp) (d : Nat) (names : List Nm) : Sm m (d + 2) [loC ⟨#[42]⟩, liC 2, liC 3] names 6 1 [] names := by
 have h := Sm.op (m := m) (d := d + 1) (c := loC ⟨#[42]⟩) (r := [liC 2, liC 3]) (names := names) (i := 2) (nums := [2, 3]) (o := 1) (rest := []) (names' := names) rfl (by omega) (by kernel_rfl) ?_ ?_ ?_
 ·exact h
 ·intro j hj
  rcases j with _ | _ | j
  ·kernel_rfl
  ·kernel_rfl
  ·omega
 ·exact .next (lv_int m d 2 _ names) (by decide) (by decide) (.next (lv_int m d 3 _ names) (by decide) (by decide) .done)
 ·intro _
  refine ⟨rfl, fun x hx => ?_⟩
  simp at hx
  rcases hx with rfl | rfl <;> (unfold okI; omega)
theorem lv_sum : Sm lvH 3 lvT [] 7 1 [] [] := by
 have hx : Sm lvH 2 (lxC :: [loC ⟨#[42]⟩, liC 2, liC 3]) [] 1 1 [loC ⟨#[42]⟩, liC 2, liC 3] [] := Sm.leaf (e := liC 1) (r' := []) (by decide) ⟨.step (l' := [liC 1]) (by kernel_rfl) (.here _), rfl⟩
 have h := Sm.op (m := lvH) (d := 2) (c := loC ⟨#[43]⟩) (r := [lxC, loC ⟨#[42]⟩, liC 2, liC 3]) (names := []) (i := 0) (nums := [1, 6]) (o := 1) (rest := []) (names' := []) rfl (by omega) (by kernel_rfl) (fun j hj => by omega) ?_ ?_
 ·exact h
 ·exact .next hx (by decide) (by decide) (.next (lv_mul lvH 0 []) (by decide) (by decide) .done)
 ·intro _
  refine ⟨rfl, fun x hx => ?_⟩
  simp at hx
  rcases hx with rfl | rfl <;> (unfold okI; omega)
theorem lv_open : Sm [] 3 lvT [] 0 3 [] [(0, 1)] := by
 have hx : Sm [] 2 (lxC :: [loC ⟨#[42]⟩, liC 2, liC 3]) [] 0 3 [loC ⟨#[42]⟩, liC 2, liC 3] [(0, 1)] := Sm.leaf (e := lxC) (r' := []) (by decide) ⟨.here _, rfl⟩
 have h := Sm.op (m := []) (d := 2) (c := loC ⟨#[43]⟩) (r := [lxC, loC ⟨#[42]⟩, liC 2, liC 3]) (names := []) (i := 0) (nums := [0, 6]) (o := 3) (rest := []) (names' := [(0, 1)]) rfl (by omega) (by kernel_rfl) (fun j hj => by omega) ?_ (fun h => by cases h)
 ·exact h
 ·exact .next hx (by decide) (by decide) (.next (lv_mul [] 0 [(0, 1)]) (by decide) (by decide) .done)
theorem lv_reck : reckS ⟨#[100, 105, 118]⟩ [-7, 2] = (-4, true) := by kernel_rfl
theorem lvH_ok : HpOk lvH := by
 intro x l h
 unfold lookH lvH at h
 simp only [List.find?_cons, List.find?_nil] at h
 split at h
 ·simp at h; subst h; simp
 ·simp at h
theorem nil_ok : HpOk [] := by
 intro x l h
 simp [lookH] at h
end Go.Proofs.YtaehhophaaipdaaGreatDoor

namespace Go.Proofs.YtaehhophaaipdaaGreatDoor
open Go.RowKit
set_option maxRecDepth 100000 in
set_option maxHeartbeats 1000000 in
theorem h50 (ns : List Int) (v : Value) (w : World) (h : IntsR w v ns) : Calls Tryz.prog 106 #[v, .func (Fn.func 73) #[] #[]] w fun e w' => (∃ i : Int, e = .returned (.int .i64 i) ∧ (decide (0 ≤ i) = ns.any greatB)) ∧ w' = w := by
 have HR : Hid (IntsR w v ns) := h
 have hm := h.1
 unfold maxLen at hm
 obtain ⟨ad, cap, hv⟩ := h.form
 subst hv
 clear h
 go_enter Tryz.func106, Tryz.ntmps106
 go_wp2_with fail
 go_loopw [8] (fun i wr => ∃ k : Nat, k ≤ ns.length ∧ i = .int .i64 k ∧ Hid (∀ j (hj : j < ns.length), j < k → greatB ns[j] = false) ∧ wr = w) (fun i _ => ns.length - (intOf i).toNat)
 case atStart => exact ⟨0, by omega, rfl, fun j _ h => by omega, rfl⟩
 case round =>
  obtain ⟨k, hk, rfl, HI, rfl⟩ := hrel
  by_cases hlt : k < ns.length
  ·have hlt' : (k : Int) < (ns.length : Int) := by omega
   have hk0 : (0 : Int) ≤ (k : Int) := by omega
   obtain ⟨b, o, cp, hu, c0, _⟩ := HR.out.at k hlt
   simp only [Value.slice.injEq] at hu
   obtain ⟨rfl, _, rfl⟩ := hu
   have H35 := h35 ns[k] wr
   cases hg : greatB ns[k]
   ·have HN : Hid (∀ j (hj : j < ns.length), j < k + 1 → greatB ns[j] = false) := fun j hj h => if e : j = k then by subst e; exact hg else HI.out j hj (by omega)
    rw [hg] at H35
    generalize ns[k] = x at *
    go_wp2_with fail
    refine H35.mono ?_
    rintro e w1 ⟨rfl, hw⟩
    obtain rfl := hw
    go_wp2_with fail
    go_roundw
    case rel => exact ⟨k + 1, by omega, by go_num, HN, trivial⟩
    case measure => simp [intOf]; omega
   ·have HN : Hid (ns.any greatB = true) := List.any_eq_true.2 ⟨_, List.getElem_mem hlt, hg⟩
    rw [hg] at H35
    generalize ns[k] = x at *
    go_wp2_with fail
    refine H35.mono ?_
    rintro e w1 ⟨rfl, hw⟩
    obtain rfl := hw
    go_wp2_with fail
    go_ret
    exact ⟨⟨(k : Int), rfl, by rw [HN.out]; simp⟩, rfl⟩
  ·have hlt' : ¬ ((k : Int) < (ns.length : Int)) := by omega
   have HN : Hid (ns.any greatB = false) := any_false_take _ _ fun j hj => HI.out j hj (by omega)
   go_wp2_with fail
   go_ret
   exact ⟨⟨-1, rfl, by rw [HN.out]; rfl⟩, rfl⟩
set_option maxRecDepth 100000 in
theorem h34 (ns : List Int) (v : Value) (w : World) (h : IntsR w v ns) : Calls Tryz.prog 72 #[v, .func (Fn.func 73) #[] #[]] w fun e w' => e = .returned (.bool (ns.any greatB)) ∧ w' = w := by
 have H50 := h50 ns v w h
 obtain ⟨ad, cap, hv⟩ := h.form
 subst hv
 clear h
 generalize ns.any greatB = q at *
 go_enter Tryz.func72, Tryz.ntmps72
 go_wp2_with fail
 refine H50.mono ?_
 rintro e w1 ⟨⟨i, rfl, hi⟩, hw⟩
 obtain rfl := hw
 subst hi
 go_wp2_with fail
 go_ret
 exact ⟨rfl, rfl⟩
set_option maxRecDepth 100000 in
set_option maxHeartbeats 4000000 in
theorem h17 (op : ByteArray) (ns : List Int) (v : Value) (w : World) (hI : IntsR w v ns) :
  Calls Tryz.prog 37 #[.string op, v] w fun e w' => e = .returned (.tuple #[.int .i64 (reckS op ns).1, .bool (reckS op ns).2]) ∧ Below w.heap.size w w' := by
 have HI : Hid (IntsR w v ns) := hI
 have H34 := h34 ns v w hI
 have H36 := h36 w
 obtain ⟨ad, cap, hv⟩ := hI.form
 subst hv
 clear hI
 have HR : reckS op ns = if ns.any greatB then (0, false) else match (List.range 8).find? (matchB op ns.length) with | some k => resR k ns | none => (0, false) := rfl
 cases hg : ns.any greatB
 ·rw [hg] at HR H34
  simp only [Bool.false_eq_true, if_false] at HR
  have HRh : Hid (reckS op ns = match (List.range 8).find? (matchB op ns.length) with | some k => resR k ns | none => (0, false)) := HR
  clear HR
  have HOk : Hid (∀ x ∈ ns, okI x) := fun x hx => by
   have := List.any_eq_false.1 hg x hx
   unfold okI
   simp [greatB] at this
   omega
  clear hg
  go_enter Tryz.func37, Tryz.ntmps37
  go_wp2_with fail
  refine H34.mono ?_
  rintro e w1 ⟨rfl, hw⟩
  obtain rfl := hw
  clear H34
  go_wp2_with fail
  refine H36.mono ?_
  rintro e w2 ⟨rfl, hO, hb2⟩
  have HO : Hid (OpsAt w2 w1.heap.size (w1.heap.size + 7)) := hO
  clear hO H36
  generalize w1.heap.size + 7 = g at *
  go_wp2_with fail
  go_loopw [12] (fun i wr => ∃ k : Nat, k ≤ 8 ∧ i = .int .i64 k ∧ Hid (∀ j, j < k → matchB op ns.length j = false) ∧ Below w2.heap.size w2 wr) (fun i _ => 8 - (intOf i).toNat)
  case atStart => exact ⟨0, by omega, rfl, fun j hj => by omega, Below.refl _ _⟩
  case round =>
   obtain ⟨k, hk, rfl, HK, hbr⟩ := hrel
   by_cases hlt : k < 8
   ·have hlt' : (k : Int) < 8 := by omega
    have hk0 : (0 : Int) ≤ (k : Int) := by omega
    obtain ⟨c0, c1, c2⟩ := (HO.out.below hbr).at k hlt
    obtain ⟨f, fc, hcl⟩ := cloV_one w1.heap.size k
    have HCl : Hid (cloV w1.heap.size k = .func (Fn.func f) #[] fc) := hcl
    rw [hcl] at c2
    have HBa : Hid (Below w2.heap.size w2 (wr.alloc (.cells #[.string (opT k), .int .i64 (opA k), .func (Fn.func f) #[] fc] 113))) := hbr.alloc hbr.size _
    have HMa : Hid (matchB op ns.length k = ((opT k).toList == op.toList && opA k == (ns.length : Int))) := rfl
    have d0 : (wr.alloc (.cells #[.string (opT k), .int .i64 (opA k), .func (Fn.func f) #[] fc] 113)).cell? ⟨wr.heap.size, 0, none⟩ = some (.string (opT k)) := by rw [cell_of_row _ _ 0 _ 113 (0, 0) (heap_alloc_new wr _)]; rfl
    have d1 : (wr.alloc (.cells #[.string (opT k), .int .i64 (opA k), .func (Fn.func f) #[] fc] 113)).cell? ⟨wr.heap.size, 1, none⟩ = some (.int .i64 (opA k)) := by rw [cell_of_row _ _ 1 _ 113 (0, 0) (heap_alloc_new wr _)]; rfl
    have d2 : (wr.alloc (.cells #[.string (opT k), .int .i64 (opA k), .func (Fn.func f) #[] fc] 113)).cell? ⟨wr.heap.size, 2, none⟩ = some (.func (Fn.func f) #[] fc) := by rw [cell_of_row _ _ 2 _ 113 (0, 0) (heap_alloc_new wr _)]; rfl
    have H37 : Hid (opA k = (ns.length : Int) → ∀ W, Below w2.heap.size w2 W → Calls Tryz.prog 74 #[.agg #[.string (opT k), .int .i64 (opA k), .func (Fn.func f) #[] fc], .slice ad ns.length cap] W fun e w' => e = .returned (.tuple #[.int .i64 (resR k ns).1, .bool (resR k ns).2]) ∧ Below W.heap.size W w') := fun e W hW => by
     rw [← HCl.out]
     exact h37 k hlt ns w1.heap.size g _ W (HO.out.below hW) ((HI.out.below hb2).below hW) e.symm HOk.out
    have HRes : Hid (matchB op ns.length k = true → reckS op ns = resR k ns) := fun h => by rw [HRh.out, find_range hlt h HK.out]
    have HKn : Hid (matchB op ns.length k = false → ∀ j, j < k + 1 → matchB op ns.length j = false) := fun h j hj => if e : j = k then by rw [e]; exact h else HK.out j (by omega)
    clear hcl
    cases ht : ((opT k).toList == op.toList)
    ·have HN : Hid (∀ j, j < k + 1 → matchB op ns.length j = false) := HKn.out (by rw [HMa.out, ht]; rfl)
     clear HMa HKn HRes H37 HCl
     generalize opT k = tx at *
     generalize opA k = ar at *
     go_wp2_with fail
     go_roundw
     case rel => exact ⟨k + 1, by omega, by go_num, HN, HBa.out⟩
     case measure => simp [intOf]; omega
    ·cases hn : (opA k == (ns.length : Int))
     ·have HN : Hid (∀ j, j < k + 1 → matchB op ns.length j = false) := HKn.out (by rw [HMa.out, ht, hn]; rfl)
      clear HMa HKn HRes H37 HCl
      generalize opT k = tx at *
      generalize opA k = ar at *
      go_wp2_with fail
      go_roundw
      case rel => exact ⟨k + 1, by omega, by go_num, HN, HBa.out⟩
      case measure => simp [intOf]; omega
     ·have HE : Hid (reckS op ns = resR k ns) := HRes.out (by rw [HMa.out, ht, hn]; rfl)
      have H37 : Hid (∀ W, Below w2.heap.size w2 W → _) := H37.out (by simpa using hn)
      clear HMa HKn HRes HCl
      generalize resR k ns = rr at *
      generalize opT k = tx at *
      generalize opA k = ar at *
      go_wp2_with fail
      refine (H37.out _ HBa.out).mono ?_
      rintro e w3 ⟨rfl, hb3⟩
      have HB3 : Hid (Below w1.heap.size w1 w3) := hb2.trans ((HBa.out.trans (hb3.mono HBa.out.size)).mono hb2.size)
      go_wp2_with fail
      exact bodyPost_ret (v := .tuple #[.int .i64 rr.1, .bool rr.2]) (by simp [results, Tryz.results37, go_sem]) rfl ⟨by rw [HE.out], HB3.out⟩
   ·have hlt' : ¬ ((k : Int) < 8) := by omega
    have HE : Hid (reckS op ns = (0, false)) := by show reckS op ns = _; rw [HRh.out, find_none (fun j hj => HK.out j (by omega))]
    have HB3 : Hid (Below w1.heap.size w1 wr) := hb2.trans (hbr.mono hb2.size)
    go_wp2_with fail
    exact bodyPost_ret (v := .tuple #[.int .i64 0, .bool false]) (by simp [results, Tryz.results37, go_sem]) rfl ⟨by rw [HE.out], HB3.out⟩
 ·rw [hg] at HR H34
  simp only [if_true] at HR
  rw [HR]
  clear hg H36 HR
  go_enter Tryz.func37, Tryz.ntmps37
  go_wp2_with fail
  refine H34.mono ?_
  rintro e w1 ⟨rfl, hw⟩
  obtain rfl := hw
  go_wp2_with fail
  exact bodyPost_ret (v := .tuple #[.int .i64 0, .bool false]) (by simp [results, Tryz.results37, go_sem]) rfl ⟨rfl, Below.refl _ _⟩
end Go.Proofs.YtaehhophaaipdaaGreatDoor

namespace Go.Proofs.YtaehhophaaipdaaGreatDoor
open Go.RowKit
attribute [local go_sem ↓] Go.wp_at_zero Go.wp_at_succ
theorem names_one {w : World} {v : Value} {x : Nm} (h : NamesR w v [x]) : ∃ g cap, v = .slice (some ⟨g, 0, none⟩) 1 cap ∧ g < w.heap.size ∧ w.cell? ⟨g, 0, none⟩ = some (.int .i64 x.1) ∧ w.cell? ⟨g, 1, none⟩ = some (.int .i64 x.2) := by
 obtain ⟨base, h0, h⟩ := h
 rcases h with ⟨_, h2⟩ | ⟨g, cap, cur, e1, e2, e3, e4, e5, e6, e7⟩
 ·simp at h2
 ·have hr := range_of_owns e3 e7
  exact ⟨g, cap, e1, (Array.getElem?_eq_some_iff.1 e3).1, hr 0 _ rfl, hr 1 _ rfl⟩
theorem lv_wf : ∀ c ∈ lvT, wfN (c.vn, c.vk) := by
 intro c hc
 simp only [lvT, List.mem_cons, List.not_mem_nil, or_false] at hc
 rcases hc with rfl | rfl | rfl | rfl | rfl <;> exact ⟨by decide, by decide⟩
theorem lv_term (w : World) : TermAt (w.alloc (.cells (flat lvT).toArray 69)) (.slice (some ⟨w.heap.size, 0, none⟩) 5 5) lvT := by
 refine ⟨⟨by decide, ?_⟩, Or.inr ⟨w.heap.size, 0, 5, rfl, Nat.le_refl _, by simp [maxLen], range_new w (flat lvT) 69, by simp⟩⟩
 intro c hc
 simp only [lvT, List.mem_cons, List.not_mem_nil, or_false] at hc
 rcases hc with rfl | rfl | rfl | rfl | rfl <;> decide
theorem ints_new (w : World) (ns : List Int) (hl : ns.length ≤ maxLen) : IntsR (w.alloc (.cells (ns.map (Value.int .i64)).toArray 3)) (.slice (some ⟨w.heap.size, 0, none⟩) ns.length ns.length) ns := ⟨hl, .inr ⟨w.heap.size, 0, ns.length, rfl, by simp, range_new w _ 3⟩⟩
set_option maxRecDepth 100000 in
set_option maxHeartbeats 8000000 in
theorem h19 (w : World) (hS : Signs w) : Calls Tryz.prog 11 #[] w fun e w' => e = .returned (.bool true) ∧ Below w.heap.size w w' := by
 have HS : Hid (Signs w) := hS
 clear hS
 go_enter Tryz.func11, Tryz.ntmps11
 go_wp2_with fail
 refine (h26 w).mono ?_
 rintro e w1 ⟨rfl, hH1, hb1⟩
 have hs1 := (Array.getElem?_eq_some_iff.1 hH1.blk).1
 obtain ⟨w2, hw2⟩ : ∃ W, W = w1.alloc (.cells #[.int .u8 4, .string ⟨#[]⟩, .int .i64 0, .int .i64 0, .int .i64 1] 69) := ⟨_, rfl⟩
 have HX : Hid (w2.rangeAt w1.heap.size 0 (flat [lxC])) := by show w2.rangeAt _ _ _; rw [hw2]; exact range_new w1 (flat [lxC]) 69
 have hz2 : w2.heap.size = w1.heap.size + 1 := by rw [hw2]; simp
 have HB2 : Hid (Below w1.heap.size w1 w2) := by show Below _ _ _; rw [hw2]; exact below_alloc _ _
 obtain ⟨w3, hw3⟩ : ∃ W, W = w2.alloc (.cells #[.int .u8 1, .string ⟨#[]⟩, .int .i64 1, .int .i64 0, .int .i64 0] 69) := ⟨_, rfl⟩
 have HT3 : Hid (TermAt w3 (.slice (some ⟨w1.heap.size + 1, 0, none⟩) 1 1) [liC 1]) := by
  show TermAt _ _ _
  rw [hw3, ← hz2]
  exact termAt_new w2 (liC 1) (by decide)
 have hz3 : w3.heap.size = w1.heap.size + 2 := by rw [hw3]; simp [hz2]
 have HB3 : Hid (Below w1.heap.size w1 w3) := by
  show Below _ _ _
  rw [hw3]
  exact HB2.out.alloc (by omega) _
 have HX3 : Hid (w3.rangeAt w1.heap.size 0 (flat [lxC])) := fun j v hv => by
  rw [hw3]
  exact ((below_alloc w2 _).cell (p := ⟨w1.heap.size, 0 + j, none⟩) (show w1.heap.size < w2.heap.size by omega)).trans (HX.out j v hv)
 have H11 : Hid (Calls Tryz.prog 29 #[.pointer (some ⟨w.heap.size + 1, 0, none⟩), .agg #[.int .i64 0, .int .i64 1], .slice (some ⟨w1.heap.size + 1, 0, none⟩) 1 1] w3 fun e w' => e = .returned (.int .i64 (bindE [] (0, 1) [liC 1])) ∧ BindPost [] (0, 1) [liC 1] (w.heap.size + 1) w.heap.size 0 (.map []) w3 w') := h11 [] (w.heap.size + 1) w.heap.size 0 (.map []) (0, 1) [liC 1] _ w3 (hH1.below HB3.out) ⟨by decide, by decide⟩ HT3.out (by intro c hc; simp at hc; subst hc; exact ⟨by decide, by decide⟩) (HS.out.below (hb1.trans (HB3.out.mono hb1.size))) (by decide) (by decide)
 have HB03 : Hid (Below w.heap.size w w3) := hb1.trans (HB3.out.mono hb1.size)
 have hw1 := hb1.size
 clear hH1 hb1
 go_wp2_with fail
 rw [← hw2, ← hw3]
 refine H11.out.mono ?_
 rintro e w4 ⟨rfl, n4, D4, hH4, hn4, hk4, _⟩
 rw [lv_bound] at hH4
 rw [lv_bind]
 have HX4 : Hid (w4.rangeAt w1.heap.size 0 (flat [lxC])) := fun j v hv => by
  have := HX3.out j v hv
  have hk := hk4.2.2.2.2 w1.heap.size (by omega) (by omega)
  unfold World.cell? at this ⊢
  rw [hk]
  exact this
 have HB4 : Hid (Below w.heap.size w w4) := HB03.out.trans (hk4.below (Nat.le_refl _) HB03.out.size)
 have hz4 : w1.heap.size < w4.heap.size := by have := hk4.2.2.2.1; omega
 have p0 : w4.cell? ⟨w1.heap.size, 0, none⟩ = some (.int .u8 4) := HX4.out 0 _ rfl
 have p1 : w4.cell? ⟨w1.heap.size, 1, none⟩ = some (.string ⟨#[]⟩) := HX4.out 1 _ rfl
 have p2 : w4.cell? ⟨w1.heap.size, 2, none⟩ = some (.int .i64 0) := HX4.out 2 _ rfl
 have p3 : w4.cell? ⟨w1.heap.size, 3, none⟩ = some (.int .i64 0) := HX4.out 3 _ rfl
 have p4 : w4.cell? ⟨w1.heap.size, 4, none⟩ = some (.int .i64 1) := HX4.out 4 _ rfl
 have HH4 : Hid (HpAt w4 (w.heap.size + 1) w.heap.size n4 D4 lvH) := hH4
 clear hH4 hk4 hn4 hw2 hw3 hz2 hz3 H11 HX HX3 HT3 HB2 HB3
 have H39a : Hid (Calls Tryz.prog 9 #[.pointer (some ⟨w.heap.size + 1, 0, none⟩), .slice (some ⟨w4.heap.size, 0, none⟩) 5 5] (w4.alloc (.cells (flat lvT).toArray 69)) (ValPost 7 1 [] (w4.alloc (.cells (flat lvT).toArray 69)))) := h39 lvH lvH_ok _ lvT _ _ 3 7 1 [] [] (lv_term w4) (HS.out.below (HB4.out.alloc HB4.out.size _)) lv_right (.inr ⟨_, _, _, _, rfl, HH4.out.below (below_alloc _ _)⟩) lv_sum lv_wf (by decide)
 go_wp2_with fail
 refine H39a.out.mono ?_
 rintro e w6 ⟨nv6, rfl, ⟨bs6, hN6⟩, hb6⟩
 obtain ⟨a6, c6, hf6⟩ := owns_form hN6
 subst hf6
 clear hN6 H39a
 have HB46 : Hid (Below w4.heap.size w4 w6) := (below_alloc _ _).trans (hb6.mono (by simp))
 have HT6 : Hid (TermAt w6 (.slice (some ⟨w4.heap.size, 0, none⟩) 5 5) lvT) := (lv_term w4).below hb6
 have HB6 : Hid (Below w.heap.size w w6) := HB4.out.trans (HB46.out.mono HB4.out.size)
 clear hb6
 have H39b : Hid (Calls Tryz.prog 9 #[.pointer none, .slice (some ⟨w4.heap.size, 0, none⟩) 5 5] w6 (ValPost 0 3 [(0, 1)] w6)) := h39 [] nil_ok none lvT _ w6 3 0 3 [] [(0, 1)] HT6.out (HS.out.below HB6.out) lv_right (.inl ⟨rfl, rfl⟩) lv_open lv_wf (by decide)
 simp only [List.length_nil]
 go_wp2_with fail
 refine H39b.out.mono ?_
 rintro e w7 ⟨nv7, rfl, hN7, hb7⟩
 obtain ⟨g7, c7, rfl, hg7, q0, q1⟩ := names_one hN7
 have HB47 : Hid (Below w4.heap.size w4 w7) := HB46.out.trans (hb7.mono HB46.out.size)
 have HB7 : Hid (Below w.heap.size w w7) := HB6.out.trans (hb7.mono HB6.out.size)
 clear hN7 hb7 H39b
 have H17 : Hid (Calls Tryz.prog 37 #[.string ⟨#[100, 105, 118]⟩, .slice (some ⟨w7.heap.size, 0, none⟩) 2 2] (w7.alloc (.cells (([-7, 2] : List Int).map (Value.int .i64)).toArray 3)) fun e w' => e = .returned (.tuple #[.int .i64 (reckS ⟨#[100, 105, 118]⟩ [-7, 2]).1, .bool (reckS ⟨#[100, 105, 118]⟩ [-7, 2]).2]) ∧ Below (w7.alloc (.cells (([-7, 2] : List Int).map (Value.int .i64)).toArray 3)).heap.size (w7.alloc (.cells (([-7, 2] : List Int).map (Value.int .i64)).toArray 3)) w') := h17 _ [-7, 2] _ _ (ints_new w7 [-7, 2] (by decide))
 rw [lv_reck] at H17
 go_wp2_with fail
 refine H17.out.mono ?_
 rintro e w8 ⟨rfl, hb8⟩
 have HB78 : Hid (Below w7.heap.size w7 w8) := (below_alloc _ _).trans (hb8.mono (by simp))
 have HB8 : Hid (Below w.heap.size w w8) := HB7.out.trans (HB78.out.mono HB7.out.size)
 have HB48 : Hid (Below w4.heap.size w4 w8) := HB47.out.trans (HB78.out.mono HB47.out.size)
 clear hb8 H17
 have r0 : w8.cell? ⟨g7, 0, none⟩ = some (.int .i64 0) := (HB78.out.cell (p := ⟨g7, 0, none⟩) hg7).trans q0
 have r1 : w8.cell? ⟨g7, 1, none⟩ = some (.int .i64 1) := (HB78.out.cell (p := ⟨g7, 1, none⟩) hg7).trans q1
 have s3 : w8.cell? ⟨w1.heap.size, 3, none⟩ = some (.int .i64 0) := (HB48.out.cell (p := ⟨w1.heap.size, 3, none⟩) hz4).trans p3
 have s4 : w8.cell? ⟨w1.heap.size, 4, none⟩ = some (.int .i64 1) := (HB48.out.cell (p := ⟨w1.heap.size, 4, none⟩) hz4).trans p4
 clear q0 q1 p0 p1 p2 p3 p4
 go_wp2_with fail
 go_quiet (fail)
 go_wp2_with fail
 go_ret
 exact ⟨rfl, below_drewN HB8.out nq⟩
end Go.Proofs.YtaehhophaaipdaaGreatDoor
