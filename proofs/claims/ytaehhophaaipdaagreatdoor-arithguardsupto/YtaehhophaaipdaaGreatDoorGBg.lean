/- Contracts of the small functions that guards hold against numbers, kinds and cells. Contracts of the makers of guards' closures, and of the table of tests. -/
import Derived.Test.YtaehhophaaipdaaGreatDoorRAg
namespace Go.Proofs.YtaehhophaaipdaaGreatDoor
open Go.RowKit
attribute [local go_sem ↓] Go.wp_at_zero Go.wp_at_succ
def cmpB : Nat → Int → Int → Bool
 | 1, a, b => decide (a < b)
 | 2, a, b => decide (a ≤ b)
 | 3, a, b => decide (a > b)
 | 4, a, b => decide (a ≥ b)
 | 5, a, b => a == b
 | _, a, b => a != b
def kindB : Nat → Int → Bool
 | 7, k => k == 1
 | 8, k => k == 2
 | 9, k => k == 3
 | _, _ => true
def simB (c : C) : Bool := (c.k == 1) || (c.k == 2)
def outO (b : Bool) : Int := if b then 1 else 2
abbrev cellV (c : C) : Value := .agg #[.int .u8 c.k, .string c.t, .int .i64 c.n, .int .i64 c.vn, .int .i64 c.vk]
theorem z109 (a b : Int) (w : World) : Calls Tryz.prog 109 #[.int .i64 a, .int .i64 b] w fun e w' => e = .returned (.bool (cmpB 1 a b)) ∧ w' = w := by
 go_enter Tryz.func109, Tryz.ntmps109
 go_wp2_with fail
 go_ret
 exact ⟨rfl, rfl⟩
theorem z110 (a b : Int) (w : World) : Calls Tryz.prog 110 #[.int .i64 a, .int .i64 b] w fun e w' => e = .returned (.bool (cmpB 2 a b)) ∧ w' = w := by
 go_enter Tryz.func110, Tryz.ntmps110
 go_wp2_with fail
 go_ret
 exact ⟨rfl, rfl⟩
theorem z111 (a b : Int) (w : World) : Calls Tryz.prog 111 #[.int .i64 a, .int .i64 b] w fun e w' => e = .returned (.bool (cmpB 3 a b)) ∧ w' = w := by
 go_enter Tryz.func111, Tryz.ntmps111
 go_wp2_with fail
 go_ret
 exact ⟨rfl, rfl⟩
theorem z112 (a b : Int) (w : World) : Calls Tryz.prog 112 #[.int .i64 a, .int .i64 b] w fun e w' => e = .returned (.bool (cmpB 4 a b)) ∧ w' = w := by
 go_enter Tryz.func112, Tryz.ntmps112
 go_wp2_with fail
 go_ret
 exact ⟨rfl, rfl⟩
theorem z113 (a b : Int) (w : World) : Calls Tryz.prog 113 #[.int .i64 a, .int .i64 b] w fun e w' => e = .returned (.bool (cmpB 5 a b)) ∧ w' = w := by
 go_enter Tryz.func113, Tryz.ntmps113
 go_wp2_with fail
 go_ret
 exact ⟨rfl, rfl⟩
theorem z114 (a b : Int) (w : World) : Calls Tryz.prog 114 #[.int .i64 a, .int .i64 b] w fun e w' => e = .returned (.bool (cmpB 6 a b)) ∧ w' = w := by
 go_enter Tryz.func114, Tryz.ntmps114
 go_wp2_with fail
 go_ret
 exact ⟨rfl, rfl⟩
theorem z116 (a : Int) (w : World) : Calls Tryz.prog 116 #[.int .u8 a] w fun e w' => e = .returned (.bool (kindB 7 a)) ∧ w' = w := by
 go_enter Tryz.func116, Tryz.ntmps116
 go_wp2_with fail
 go_ret
 exact ⟨rfl, rfl⟩
theorem z117 (a : Int) (w : World) : Calls Tryz.prog 117 #[.int .u8 a] w fun e w' => e = .returned (.bool (kindB 8 a)) ∧ w' = w := by
 go_enter Tryz.func117, Tryz.ntmps117
 go_wp2_with fail
 go_ret
 exact ⟨rfl, rfl⟩
theorem z118 (a : Int) (w : World) : Calls Tryz.prog 118 #[.int .u8 a] w fun e w' => e = .returned (.bool (kindB 9 a)) ∧ w' = w := by
 go_enter Tryz.func118, Tryz.ntmps118
 go_wp2_with fail
 go_ret
 exact ⟨rfl, rfl⟩
theorem z119 (a : Int) (w : World) : Calls Tryz.prog 119 #[.int .u8 a] w fun e w' => e = .returned (.bool (kindB 10 a)) ∧ w' = w := by
 go_enter Tryz.func119, Tryz.ntmps119
 go_wp2_with fail
 go_ret
 exact ⟨rfl, rfl⟩
theorem z107 (v : Value) (w : World) : Calls Tryz.prog 107 #[v] w fun e w' => e = .returned (.int .u8 1) ∧ w' = w := by
 go_enter Tryz.func107, Tryz.ntmps107
 go_wp2_with fail
 go_ret
 exact ⟨rfl, rfl⟩
theorem z143 (b : Bool) (w : World) : Calls Tryz.prog 143 #[.bool b] w fun e w' => e = .returned (.int .u8 (outO b)) ∧ w' = w := by
 cases b
 ·go_enter Tryz.func143, Tryz.ntmps143
  go_wp2_with fail
  go_ret
  exact ⟨rfl, rfl⟩
 ·go_enter Tryz.func143, Tryz.ntmps143
  go_wp2_with fail
  go_ret
  exact ⟨rfl, rfl⟩
theorem box_c69 (w : World) (c : C) : (w.alloc (.cells #[.int .u8 c.k, .string c.t, .int .i64 c.n, .int .i64 c.vn, .int .i64 c.vk] 69)).cell? ⟨w.heap.size, 0, none⟩ = some (.int .u8 c.k) := by
 rw [cell_of_row _ w.heap.size 0 _ 69 (0, 0) (heap_alloc_new w _)]
 rfl
set_option maxRecDepth 100000 in
theorem z122 (c : C) (w : World) : Calls Tryz.prog 122 #[cellV c] w fun e w' => e = .returned (.bool (simB c)) ∧ Hid (Below w.heap.size w w') := by
 have HB : Hid (∀ ob : Obj, Below w.heap.size w (w.alloc ob)) := fun ob => below_alloc _ _
 have b0 := box_c69 w c
 by_cases h1 : c.k = 1
 ·have HE : Hid (simB c = true) := by show simB c = true; simp [simB, h1]
  rw [HE.out]
  have h1' : (c.k == 1) = true := by simpa using h1
  go_enter Tryz.func122, Tryz.ntmps122
  go_wp2_with fail
  go_ret
  exact ⟨rfl, HB.out _⟩
 ·have h1' : (c.k == 1) = false := by simpa using h1
  have HE : Hid (simB c = (c.k == 2)) := by show simB c = _; simp [simB, h1']
  rw [HE.out]
  go_enter Tryz.func122, Tryz.ntmps122
  go_wp2_with fail
  go_ret
  exact ⟨rfl, HB.out _⟩
theorem z123 (x1 x2 : Int) (w : World) : Calls Tryz.prog 123 #[.agg #[.int .i64 x1, .int .i64 x2]] w fun e w' => e = .returned (.int .u8 2) ∧ Hid (Below w.heap.size w w') := by
 have HB : Hid (Below w.heap.size w (w.alloc (.cells #[.int .i64 x1, .int .i64 x2] 60))) := below_alloc _ _
 go_enter Tryz.func123, Tryz.ntmps123
 go_wp2_with fail
 go_ret
 exact ⟨rfl, HB⟩
def eqlB (a b : C) : Bool := simB a && eqC a b
def unlB (a b : C) : Bool := !eqC a b && (simB a || simB b)
end Go.Proofs.YtaehhophaaipdaaGreatDoor

namespace Go.Proofs.YtaehhophaaipdaaGreatDoor
open Go.RowKit
attribute [local go_sem ↓] Go.wp_at_zero Go.wp_at_succ
def gT : Nat → ByteArray
 | 0 => ⟨#[116, 114, 117, 101]⟩
 | 1 => ⟨#[60]⟩
 | 2 => ⟨#[61, 60]⟩
 | 3 => ⟨#[62]⟩
 | 4 => ⟨#[62, 61]⟩
 | 5 => ⟨#[61, 58, 61]⟩
 | 6 => ⟨#[61, 92, 61]⟩
 | 7 => ⟨#[105, 110, 116, 101, 103, 101, 114]⟩
 | 8 => ⟨#[97, 116, 111, 109]⟩
 | 9 => ⟨#[99, 111, 109, 112, 111, 117, 110, 100]⟩
 | 10 => ⟨#[107, 110, 111, 119, 110]⟩
 | 11 => ⟨#[101, 113, 117, 97, 108]⟩
 | _ => ⟨#[117, 110, 108, 105, 107, 101]⟩
def gA : Nat → Int
 | 0 => 0
 | 7 => 1
 | 8 => 1
 | 9 => 1
 | 10 => 1
 | _ => 2
abbrev pv (b : Nat) : Value := .pointer (some ⟨b, 0, none⟩)
/-- What stands in a test's third field. -/
def FvOk (w : World) (lb k : Nat) (fv : Value) : Prop := (k = 0 ∧ fv = .func (Fn.func 107) #[] #[]) ∨
 (1 ≤ k ∧ k ≤ 6 ∧ ∃ bl bf, fv = .func (Fn.func 142) #[] #[pv bl, pv bf] ∧ w.heap[bl]? = some (.cells #[pv lb] 78 (0, 0)) ∧ w.heap[bf]? = some (.cells #[.func (Fn.func (108 + k)) #[] #[]] 145 (0, 0))) ∨
 (7 ≤ k ∧ k ≤ 10 ∧ ∃ bl bf, fv = .func (Fn.func 144) #[] #[pv bl, pv bf] ∧ w.heap[bl]? = some (.cells #[pv lb] 78 (0, 0)) ∧ w.heap[bf]? = some (.cells #[.func (Fn.func (109 + k)) #[] #[]] 147 (0, 0))) ∨
 (k = 11 ∧ ∃ bl bi bf, fv = .func (Fn.func 145) #[] #[pv bl, pv bi, pv bf] ∧ w.heap[bl]? = some (.cells #[pv lb] 78 (0, 0)) ∧ w.heap[bi]? = some (.cells #[.func (Fn.func 103) #[pv lb] #[]] 140 (0, 0)) ∧ w.heap[bf]? = some (.cells #[.func (Fn.func 121) #[] #[]] 149 (0, 0))) ∨
 (k = 12 ∧ ∃ bl bi bf, fv = .func (Fn.func 145) #[] #[pv bl, pv bi, pv bf] ∧ w.heap[bl]? = some (.cells #[pv lb] 78 (0, 0)) ∧ w.heap[bi]? = some (.cells #[.func (Fn.func 123) #[] #[]] 140 (0, 0)) ∧ w.heap[bf]? = some (.cells #[.func (Fn.func 124) #[] #[]] 149 (0, 0)))
/-- Blocks of closures stay. -/
theorem FvOk.keeps {w w' : World} {lb k : Nat} {fv : Value} (h : FvOk w lb k fv) (hk : ∀ (b : Nat) (cs : Array Value) (t : TypeId), w.heap[b]? = some (.cells cs t (0, 0)) → t = 78 ∨ t = 145 ∨ t = 147 ∨ t = 140 ∨ t = 149 → w'.heap[b]? = some (.cells cs t (0, 0))) : FvOk w' lb k fv := by
 rcases h with h | ⟨h1, h2, bl, bf, h3, h4, h5⟩ | ⟨h1, h2, bl, bf, h3, h4, h5⟩ | ⟨h1, bl, bi, bf, h3, h4, h5, h6⟩ | ⟨h1, bl, bi, bf, h3, h4, h5, h6⟩
 ·exact .inl h
 ·exact .inr (.inl ⟨h1, h2, bl, bf, h3, hk _ _ _ h4 (by decide), hk _ _ _ h5 (by decide)⟩)
 ·exact .inr (.inr (.inl ⟨h1, h2, bl, bf, h3, hk _ _ _ h4 (by decide), hk _ _ _ h5 (by decide)⟩))
 ·exact .inr (.inr (.inr (.inl ⟨h1, bl, bi, bf, h3, hk _ _ _ h4 (by decide), hk _ _ _ h5 (by decide), hk _ _ _ h6 (by decide)⟩)))
 ·exact .inr (.inr (.inr (.inr ⟨h1, bl, bi, bf, h3, hk _ _ _ h4 (by decide), hk _ _ _ h5 (by decide), hk _ _ _ h6 (by decide)⟩)))
theorem FvOk.below {w w' : World} {lb k : Nat} {fv : Value} (h : FvOk w lb k fv) (hb : Below w.heap.size w w') : FvOk w' lb k fv :=
 h.keeps fun b _ _ hc _ => (hb.block b (Array.getElem?_eq_some_iff.1 hc).1).trans hc
/-- The table of tests, in memory. -/
structure TsAt (w : World) (lb g : Nat) : Prop where
 at_ : ∀ k, k < 13 → ∃ fv, w.cell? ⟨g, k * 3, none⟩ = some (.string (gT k)) ∧ w.cell? ⟨g, k * 3 + 1, none⟩ = some (.int .i64 (gA k)) ∧ w.cell? ⟨g, k * 3 + 2, none⟩ = some fv ∧ FvOk w lb k fv
 lt : g < w.heap.size
theorem gBox2 (w : World) (o1 o2 : Obj) : ((w.alloc o1).alloc o2).heap[w.heap.size]? = some o1 ∧ ((w.alloc o1).alloc o2).heap[w.heap.size + 1]? = some o2 ∧ Below w.heap.size w ((w.alloc o1).alloc o2) := by
 have b1 : Below w.heap.size w (w.alloc o1) := below_alloc _ _
 have b2 : Below (w.alloc o1).heap.size (w.alloc o1) ((w.alloc o1).alloc o2) := below_alloc _ _
 refine ⟨(b2.block _ (by simp)).trans (heap_alloc_new w o1), ?_, b1.trans (b2.mono b1.size)⟩
 have := heap_alloc_new (w.alloc o1) o2
 rwa [World.size_alloc] at this
theorem z108 (lb k : Nat) (h1 : 1 ≤ k) (h2 : k ≤ 6) (w : World) : Calls Tryz.prog 108 #[pv lb, .func (Fn.func (108 + k)) #[] #[]] w fun e w' => ∃ bl bf, e = .returned (.func (Fn.func 142) #[] #[pv bl, pv bf]) ∧ Hid (FvOk w' lb k (.func (Fn.func 142) #[] #[pv bl, pv bf]) ∧ Below w.heap.size w w') := by
 have HT : Hid (_ ∧ _ ∧ _) := gBox2 w (.cells #[pv lb] 78) (.cells #[.func (Fn.func (108 + k)) #[] #[]] 145)
 go_enter Tryz.func108, Tryz.ntmps108
 go_wp2_with fail
 go_ret
 exact ⟨_, _, rfl, .inr (.inl ⟨h1, h2, _, _, rfl, HT.out.1, HT.out.2.1⟩), HT.out.2.2⟩
theorem z115 (lb k : Nat) (h1 : 7 ≤ k) (h2 : k ≤ 10) (w : World) : Calls Tryz.prog 115 #[pv lb, .func (Fn.func (109 + k)) #[] #[]] w fun e w' => ∃ bl bf, e = .returned (.func (Fn.func 144) #[] #[pv bl, pv bf]) ∧ Hid (FvOk w' lb k (.func (Fn.func 144) #[] #[pv bl, pv bf]) ∧ Below w.heap.size w w') := by
 have HT : Hid (_ ∧ _ ∧ _) := gBox2 w (.cells #[pv lb] 78) (.cells #[.func (Fn.func (109 + k)) #[] #[]] 147)
 go_enter Tryz.func115, Tryz.ntmps115
 go_wp2_with fail
 go_ret
 exact ⟨_, _, rfl, .inr (.inr (.inl ⟨h1, h2, _, _, rfl, HT.out.1, HT.out.2.1⟩)), HT.out.2.2⟩
theorem gBox3 (w : World) (o1 o2 o3 : Obj) : (((w.alloc o1).alloc o2).alloc o3).heap[w.heap.size]? = some o1 ∧ (((w.alloc o1).alloc o2).alloc o3).heap[w.heap.size + 1]? = some o2 ∧ (((w.alloc o1).alloc o2).alloc o3).heap[w.heap.size + 1 + 1]? = some o3 ∧ Below w.heap.size w (((w.alloc o1).alloc o2).alloc o3) := by
 obtain ⟨h1, h2, h3⟩ := gBox2 w o1 o2
 have b3 : Below ((w.alloc o1).alloc o2).heap.size ((w.alloc o1).alloc o2) (((w.alloc o1).alloc o2).alloc o3) := below_alloc _ _
 refine ⟨(b3.block _ (by simp; omega)).trans h1, (b3.block _ (by simp)).trans h2, ?_, h3.trans (b3.mono h3.size)⟩
 have := heap_alloc_new ((w.alloc o1).alloc o2) o3
 rwa [World.size_alloc, World.size_alloc] at this
theorem z120_11 (lb : Nat) (w : World) : Calls Tryz.prog 120 #[pv lb, .func (Fn.func 103) #[pv lb] #[], .func (Fn.func 121) #[] #[]] w fun e w' => ∃ bl bi bf, e = .returned (.func (Fn.func 145) #[] #[pv bl, pv bi, pv bf]) ∧ Hid (FvOk w' lb 11 (.func (Fn.func 145) #[] #[pv bl, pv bi, pv bf]) ∧ Below w.heap.size w w') := by
 have HT : Hid (_ ∧ _ ∧ _ ∧ _) := gBox3 w (.cells #[pv lb] 78) (.cells #[.func (Fn.func 103) #[pv lb] #[]] 140) (.cells #[.func (Fn.func 121) #[] #[]] 149)
 go_enter Tryz.func120, Tryz.ntmps120
 go_wp2_with fail
 go_ret
 exact ⟨_, _, _, rfl, .inr (.inr (.inr (.inl ⟨rfl, _, _, _, rfl, HT.out.1, HT.out.2.1, HT.out.2.2.1⟩))), HT.out.2.2.2⟩
theorem z120_12 (lb : Nat) (w : World) : Calls Tryz.prog 120 #[pv lb, .func (Fn.func 123) #[] #[], .func (Fn.func 124) #[] #[]] w fun e w' => ∃ bl bi bf, e = .returned (.func (Fn.func 145) #[] #[pv bl, pv bi, pv bf]) ∧ Hid (FvOk w' lb 12 (.func (Fn.func 145) #[] #[pv bl, pv bi, pv bf]) ∧ Below w.heap.size w w') := by
 have HT : Hid (_ ∧ _ ∧ _ ∧ _) := gBox3 w (.cells #[pv lb] 78) (.cells #[.func (Fn.func 123) #[] #[]] 140) (.cells #[.func (Fn.func 124) #[] #[]] 149)
 go_enter Tryz.func120, Tryz.ntmps120
 go_wp2_with fail
 go_ret
 exact ⟨_, _, _, rfl, .inr (.inr (.inr (.inr ⟨rfl, _, _, _, rfl, HT.out.1, HT.out.2.1, HT.out.2.2.1⟩))), HT.out.2.2.2⟩
set_option maxRecDepth 100000 in
set_option maxHeartbeats 4000000 in
theorem z76 (lb : Nat) (w : World) : Calls Tryz.prog 76 #[pv lb] w fun e w' => ∃ g, e = .returned (.slice (some ⟨g, 0, none⟩) 13 13) ∧ Hid (TsAt w' lb g ∧ Below w.heap.size w w') := by
 have K108 := z108 lb
 have K115 := z115 lb
 have K11 := z120_11 lb
 have K12 := z120_12 lb
 go_enter Tryz.func76, Tryz.ntmps76
 go_wp2_with fail
 refine (K108 1 (by decide) (by decide) _).mono ?_
 rintro e w1 ⟨l1, f1, rfl, H1⟩
 go_wp2_with fail
 refine (K108 2 (by decide) (by decide) _).mono ?_
 rintro e w2 ⟨l2, f2, rfl, H2⟩
 go_wp2_with fail
 refine (K108 3 (by decide) (by decide) _).mono ?_
 rintro e w3 ⟨l3, f3, rfl, H3⟩
 go_wp2_with fail
 refine (K108 4 (by decide) (by decide) _).mono ?_
 rintro e w4 ⟨l4, f4, rfl, H4⟩
 go_wp2_with fail
 refine (K108 5 (by decide) (by decide) _).mono ?_
 rintro e w5 ⟨l5, f5, rfl, H5⟩
 go_wp2_with fail
 refine (K108 6 (by decide) (by decide) _).mono ?_
 rintro e w6 ⟨l6, f6, rfl, H6⟩
 go_wp2_with fail
 refine (K115 7 (by decide) (by decide) _).mono ?_
 rintro e w7 ⟨l7, f7, rfl, H7⟩
 go_wp2_with fail
 refine (K115 8 (by decide) (by decide) _).mono ?_
 rintro e w8 ⟨l8, f8, rfl, H8⟩
 go_wp2_with fail
 refine (K115 9 (by decide) (by decide) _).mono ?_
 rintro e w9 ⟨l9, f9, rfl, H9⟩
 go_wp2_with fail
 refine (K115 10 (by decide) (by decide) _).mono ?_
 rintro e w10 ⟨l10, f10, rfl, H10⟩
 go_wp2_with fail
 refine (K11 _).mono ?_
 rintro e w11 ⟨l11, i11, f11, rfl, H11⟩
 go_wp2_with fail
 refine (K12 _).mono ?_
 rintro e w12 ⟨l12, i12, f12, rfl, H12⟩
 obtain ⟨cs, hcs⟩ : ∃ cs : Array Value, #[.string ⟨#[116, 114, 117, 101]⟩, .int .i64 0, .func (Fn.func 107) #[] #[], .string ⟨#[60]⟩, .int .i64 2, .func (Fn.func 142) #[] #[pv l1, pv f1], .string ⟨#[61, 60]⟩, .int .i64 2, .func (Fn.func 142) #[] #[pv l2, pv f2], .string ⟨#[62]⟩, .int .i64 2, .func (Fn.func 142) #[] #[pv l3, pv f3], .string ⟨#[62, 61]⟩, .int .i64 2, .func (Fn.func 142) #[] #[pv l4, pv f4], .string ⟨#[61, 58, 61]⟩, .int .i64 2, .func (Fn.func 142) #[] #[pv l5, pv f5], .string ⟨#[61, 92, 61]⟩, .int .i64 2, .func (Fn.func 142) #[] #[pv l6, pv f6], .string ⟨#[105, 110, 116, 101, 103, 101, 114]⟩, .int .i64 1, .func (Fn.func 144) #[] #[pv l7, pv f7], .string ⟨#[97, 116, 111, 109]⟩, .int .i64 1, .func (Fn.func 144) #[] #[pv l8, pv f8], .string ⟨#[99, 111, 109, 112, 111, 117, 110, 100]⟩, .int .i64 1, .func (Fn.func 144) #[] #[pv l9, pv f9], .string ⟨#[107, 110, 111, 119, 110]⟩, .int .i64 1, .func (Fn.func 144) #[] #[pv l10, pv f10], .string ⟨#[101, 113, 117, 97, 108]⟩, .int .i64 2, .func (Fn.func 145) #[] #[pv l11, pv i11, pv f11], .string ⟨#[117, 110, 108, 105, 107, 101]⟩, .int .i64 2, .func (Fn.func 145) #[] #[pv l12, pv i12, pv f12]] = cs := ⟨_, rfl⟩
 have HF : Hid (TsAt (w12.alloc (.cells cs 123)) lb w12.heap.size ∧ Below w.heap.size w (w12.alloc (.cells cs 123))) := by
  have b13 : Below w12.heap.size w12 (w12.alloc (.cells cs 123)) := below_alloc _ _
  have b12 : Below w11.heap.size w11 (w12.alloc (.cells cs 123)) := H12.out.2.trans (b13.mono H12.out.2.size)
  have b11 : Below w10.heap.size w10 (w12.alloc (.cells cs 123)) := H11.out.2.trans (b12.mono H11.out.2.size)
  have b10 : Below w9.heap.size w9 (w12.alloc (.cells cs 123)) := H10.out.2.trans (b11.mono H10.out.2.size)
  have b9 : Below w8.heap.size w8 (w12.alloc (.cells cs 123)) := H9.out.2.trans (b10.mono H9.out.2.size)
  have b8 : Below w7.heap.size w7 (w12.alloc (.cells cs 123)) := H8.out.2.trans (b9.mono H8.out.2.size)
  have b7 : Below w6.heap.size w6 (w12.alloc (.cells cs 123)) := H7.out.2.trans (b8.mono H7.out.2.size)
  have b6 : Below w5.heap.size w5 (w12.alloc (.cells cs 123)) := H6.out.2.trans (b7.mono H6.out.2.size)
  have b5 : Below w4.heap.size w4 (w12.alloc (.cells cs 123)) := H5.out.2.trans (b6.mono H5.out.2.size)
  have b4 : Below w3.heap.size w3 (w12.alloc (.cells cs 123)) := H4.out.2.trans (b5.mono H4.out.2.size)
  have b3 : Below w2.heap.size w2 (w12.alloc (.cells cs 123)) := H3.out.2.trans (b4.mono H3.out.2.size)
  have b2 : Below w1.heap.size w1 (w12.alloc (.cells cs 123)) := H2.out.2.trans (b3.mono H2.out.2.size)
  have b1 : Below w.heap.size w (w12.alloc (.cells cs 123)) := H1.out.2.trans (b2.mono H1.out.2.size)
  have hc : ∀ j, (w12.alloc (.cells cs 123)).cell? ⟨w12.heap.size, j, none⟩ = cs[j]? := fun j => cell_of_row _ w12.heap.size j _ 123 (0, 0) (heap_alloc_new w12 _)
  refine ⟨⟨fun k hk => ?_, by simp⟩, b1⟩
  have e : ∀ j : Nat, cs[j]? = (#[.string ⟨#[116, 114, 117, 101]⟩, .int .i64 0, .func (Fn.func 107) #[] #[], .string ⟨#[60]⟩, .int .i64 2, .func (Fn.func 142) #[] #[pv l1, pv f1], .string ⟨#[61, 60]⟩, .int .i64 2, .func (Fn.func 142) #[] #[pv l2, pv f2], .string ⟨#[62]⟩, .int .i64 2, .func (Fn.func 142) #[] #[pv l3, pv f3], .string ⟨#[62, 61]⟩, .int .i64 2, .func (Fn.func 142) #[] #[pv l4, pv f4], .string ⟨#[61, 58, 61]⟩, .int .i64 2, .func (Fn.func 142) #[] #[pv l5, pv f5], .string ⟨#[61, 92, 61]⟩, .int .i64 2, .func (Fn.func 142) #[] #[pv l6, pv f6], .string ⟨#[105, 110, 116, 101, 103, 101, 114]⟩, .int .i64 1, .func (Fn.func 144) #[] #[pv l7, pv f7], .string ⟨#[97, 116, 111, 109]⟩, .int .i64 1, .func (Fn.func 144) #[] #[pv l8, pv f8], .string ⟨#[99, 111, 109, 112, 111, 117, 110, 100]⟩, .int .i64 1, .func (Fn.func 144) #[] #[pv l9, pv f9], .string ⟨#[107, 110, 111, 119, 110]⟩, .int .i64 1, .func (Fn.func 144) #[] #[pv l10, pv f10], .string ⟨#[101, 113, 117, 97, 108]⟩, .int .i64 2, .func (Fn.func 145) #[] #[pv l11, pv i11, pv f11], .string ⟨#[117, 110, 108, 105, 107, 101]⟩, .int .i64 2, .func (Fn.func 145) #[] #[pv l12, pv i12, pv f12]] : Array Value)[j]? := fun j => by rw [hcs]
  match k, hk with
  | 0, _ => exact ⟨_, (hc _).trans ((e _).trans rfl), (hc _).trans ((e _).trans rfl), (hc _).trans ((e _).trans rfl), .inl ⟨rfl, rfl⟩⟩
  | 1, _ => exact ⟨_, (hc _).trans ((e _).trans rfl), (hc _).trans ((e _).trans rfl), (hc _).trans ((e _).trans rfl), H1.out.1.below b2⟩
  | 2, _ => exact ⟨_, (hc _).trans ((e _).trans rfl), (hc _).trans ((e _).trans rfl), (hc _).trans ((e _).trans rfl), H2.out.1.below b3⟩
  | 3, _ => exact ⟨_, (hc _).trans ((e _).trans rfl), (hc _).trans ((e _).trans rfl), (hc _).trans ((e _).trans rfl), H3.out.1.below b4⟩
  | 4, _ => exact ⟨_, (hc _).trans ((e _).trans rfl), (hc _).trans ((e _).trans rfl), (hc _).trans ((e _).trans rfl), H4.out.1.below b5⟩
  | 5, _ => exact ⟨_, (hc _).trans ((e _).trans rfl), (hc _).trans ((e _).trans rfl), (hc _).trans ((e _).trans rfl), H5.out.1.below b6⟩
  | 6, _ => exact ⟨_, (hc _).trans ((e _).trans rfl), (hc _).trans ((e _).trans rfl), (hc _).trans ((e _).trans rfl), H6.out.1.below b7⟩
  | 7, _ => exact ⟨_, (hc _).trans ((e _).trans rfl), (hc _).trans ((e _).trans rfl), (hc _).trans ((e _).trans rfl), H7.out.1.below b8⟩
  | 8, _ => exact ⟨_, (hc _).trans ((e _).trans rfl), (hc _).trans ((e _).trans rfl), (hc _).trans ((e _).trans rfl), H8.out.1.below b9⟩
  | 9, _ => exact ⟨_, (hc _).trans ((e _).trans rfl), (hc _).trans ((e _).trans rfl), (hc _).trans ((e _).trans rfl), H9.out.1.below b10⟩
  | 10, _ => exact ⟨_, (hc _).trans ((e _).trans rfl), (hc _).trans ((e _).trans rfl), (hc _).trans ((e _).trans rfl), H10.out.1.below b11⟩
  | 11, _ => exact ⟨_, (hc _).trans ((e _).trans rfl), (hc _).trans ((e _).trans rfl), (hc _).trans ((e _).trans rfl), H11.out.1.below b12⟩
  | 12, _ => exact ⟨_, (hc _).trans ((e _).trans rfl), (hc _).trans ((e _).trans rfl), (hc _).trans ((e _).trans rfl), H12.out.1.below b13⟩
 go_wp2_with fail
 go_ret
 exact ⟨w12.heap.size, rfl, hcs ▸ HF⟩
end Go.Proofs.YtaehhophaaipdaaGreatDoor
