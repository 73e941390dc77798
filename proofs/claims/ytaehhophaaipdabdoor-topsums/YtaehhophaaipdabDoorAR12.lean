/- Contracts of lookBy and Value. -/
import Derived.Test.YtaehhophaaipdabDoorAR11
import Derived.Test.YtaehhophaaipdabDoorW12
import Derived.BigQuiet
namespace Go.Proofs.YtaehhophaaipdabDoor
open Go.RowKit
attribute [local go_sem ↓] Go.wp_at_zero Go.wp_at_succ
theorem Lk.made (w : World) (p : Value) (B g base : Nat) (ho : OpsAt w B g) (hb : base ≤ w.heap.size) : Lk ((w.alloc (.map #[] 0)).alloc (.cells #[p, .slice (some ⟨g, 0, none⟩) 8 8, .slice none 0 0, .map (some w.heap.size)] 64)) base (w.heap.size + 1) p B g [] 0 := by
  have hB : Below w.heap.size w ((w.alloc (.map #[] 0)).alloc (.cells #[p, .slice (some ⟨g, 0, none⟩) 8 8, .slice none 0 0, .map (some w.heap.size)] 64)) := ((Below.refl _ w).alloc (Nat.le_refl _) _).alloc (by simp) _
  refine ⟨w.heap.size, 0, .slice none 0 0, ⟨?_, by omega, hb, ho.below hB, ⟨rfl, .inl ⟨rfl, rfl⟩⟩, ?_, by simp⟩, Nat.le_refl _, Nat.le_refl _⟩
  · have := heap_alloc_new (w.alloc (.map #[] 0)) (.cells #[p, .slice (some ⟨g, 0, none⟩) 8 8, .slice none 0 0, .map (some w.heap.size)] 64)
    simpa using this
  · exact (World.ownsMap_made w Tryd.prog 26 (unitElem (H := Unit))).alloc _
set_option maxRecDepth 100000 in
theorem h61 (a : Option Addr) (base : Nat) (w : World) (hw : base ≤ w.heap.size) : Calls Tryd.prog 21 #[.pointer a] w fun e w' => ∃ lb B g, e = .returned (.pointer (some ⟨lb, 0, none⟩)) ∧ Lk w' base lb (.pointer a) B g [] 0 ∧ Below w.heap.size w w' := by
  have hmm := @run_makeMap Tryd.prog
  go_enter Tryd.func21, Tryd.ntmps21
  go_wp2_with fail
  refine (h36 w).mono ?_
  rintro e w1 ⟨rfl, ho, hb⟩
  have HB : Hid (Below w.heap.size w ((w1.alloc (.map #[] 0)).alloc (.cells #[.pointer a, .slice (some ⟨w.heap.size + 7, 0, none⟩) 8 8, .slice none 0 0, .map (some w1.heap.size)] 64))) := (hb.alloc hb.size _).alloc (by have := hb.size; simp; omega) _
  have HL : Hid (Lk ((w1.alloc (.map #[] 0)).alloc (.cells #[.pointer a, .slice (some ⟨w.heap.size + 7, 0, none⟩) 8 8, .slice none 0 0, .map (some w1.heap.size)] 64)) base (w1.heap.size + 1) (.pointer a) w.heap.size (w.heap.size + 7) [] 0) := Lk.made w1 _ _ _ _ ho (Nat.le_trans hw hb.size)
  clear ho
  go_wp2_with fail
  exact bodyPost_ret (v := .pointer (some ⟨w1.heap.size + 1, 0, none⟩)) (by simp [results, Tryd.results21, go_sem]) rfl ⟨_, _, _, rfl, HL.out, HB.out⟩
/-- A row of names that a call told. -/
def NamesR (w : World) (v : Value) (ns : List Nm) : Prop := ∃ base, w.ownsRow base 26 2 v ns.length (flatN ns)
set_option maxRecDepth 100000 in
set_option maxHeartbeats 4000000 in
theorem h39_wrong (a : Option Addr) (cells : List C) (v : Value) (w : World) (hT : TermAt w v cells) (hS : Signs w) (hr : rightB cells = false) : Calls Tryd.prog 10 #[.pointer a, v] w fun e w' => e = .returned (.tuple #[.int .i64 0, .int .u8 2, .slice none 0 0]) ∧ Below w.heap.size w w' := by
  have H24 := c22 cells v w hT hS
  rw [hr] at H24
  obtain ⟨a0, c0, hf0⟩ := hT.form
  subst hf0
  clear hT hS
  go_enter Tryd.func10, Tryd.ntmps10
  go_wp2_with fail
  refine H24.mono ?_
  rintro e w1 ⟨rfl, hb1⟩
  have HB : Hid (Below w.heap.size w w1) := hb1
  go_wp2_with fail
  exact bodyPost_ret (v := .tuple #[.int .i64 0, .int .u8 2, .slice none 0 0]) (by simp [results, Tryd.results10, go_sem]) rfl ⟨rfl, HB.out⟩
def valN (n o : Int) : Int := if o = 2 then 0 else n
def valM (o : Int) (names : List Nm) : List Nm := if o = 2 then [] else names
/-- What a call of Value tells. -/
def ValPost (n o : Int) (names : List Nm) (w : World) (e : Ending) (w' : World) : Prop := ∃ nv, e = .returned (.tuple #[.int .i64 n, .int .u8 o, nv]) ∧ NamesR w' nv names ∧ Below w.heap.size w w'
set_option maxRecDepth 100000 in
set_option maxHeartbeats 4000000 in
theorem h39 (m : Hp) (hm : HpOk m) (a : Option Addr) (cells : List C) (v : Value) (w : World) (d : Nat) (n o : Int) (rest : List C) (names : List Nm) (hT : TermAt w v cells) (hS : Signs w) (hr : rightB cells = true) (hp : HpV w (.pointer a) m) (hs : Sm m d cells [] n o rest names) (hW : ∀ c ∈ cells, wfN (c.vn, c.vk)) (hl : cells.length < 999999999) : Calls Tryd.prog 10 #[.pointer a, v] w (ValPost (valN n o) o (valM o names) w) := by
  have H24 := c22 cells v w hT hS
  rw [hr] at H24
  have H61 : Hid (∀ W, Below w.heap.size w W → Calls Tryd.prog 21 #[.pointer a] W fun e w' => ∃ lb B g, e = .returned (.pointer (some ⟨lb, 0, none⟩)) ∧ Lk w' w.heap.size lb (.pointer a) B g [] 0 ∧ Below W.heap.size W w') := fun W hW => h61 a w.heap.size W hW.size
  have H62 : Hid (∀ lb B g W, Below w.heap.size w W → Lk W w.heap.size lb (.pointer a) B g [] 0 → Calls Tryd.prog 22 #[.pointer (some ⟨lb, 0, none⟩), v] W (SumPost w lb (.pointer a) B g n o rest names (0 + cells.length) W)) := fun lb B g W hb hL => h62 m hm w lb (.pointer a) B g hp d cells [] n o rest names v W 0 hs hb hL hT hW (by omega)
  obtain ⟨a0, c0, hf0⟩ := hT.form
  subst hf0
  clear hT hS hs hW hp hm
  go_enter Tryd.func10, Tryd.ntmps10
  go_wp2_with fail
  refine H24.mono ?_
  rintro e w1 ⟨rfl, hb1⟩
  go_wp2_with fail
  refine (H61.out w1 hb1).mono ?_
  rintro e w2 ⟨lb, B, g, rfl, hL2, hb2⟩
  have hb2' : Below w.heap.size w w2 := hb1.trans (hb2.mono hb1.size)
  have H62 := H62.out lb B g w2 hb2' hL2
  clear hL2
  go_wp2_with fail
  refine H62.mono ?_
  rintro e w3 ⟨rv, K', rfl, hT3, ⟨M, k3, nv, hL3, hk3⟩, hK3, hw3, hb3, hkk3⟩
  have HR : Hid (NamesR w3 nv names) := ⟨_, hL3.row⟩
  have HB3 : Hid (Below w.heap.size w w3) := hb3
  obtain ⟨_, _, l2, _⟩ := hL3.cells
  obtain ⟨a3, c3, hf3⟩ := hT3.form
  obtain ⟨a4, c4, hf4⟩ := owns_form hL3.row
  subst hf3 hf4
  clear hT3 hL3 hk3 hK3 hw3 hb3 hkk3 H62
  by_cases ho : o = 2
  · subst ho
    go_wp2_with fail
    exact bodyPost_ret (v := .tuple #[.int .i64 0, .int .u8 2, .slice none 0 0]) (by simp [results, Tryd.results10, go_sem]) rfl ⟨_, rfl, ⟨0, rfl, .inl ⟨rfl, rfl⟩⟩, HB3.out⟩
  · have hq : (o == 2) = false := by simpa using ho
    have HV : Hid (valN n o = n ∧ valM o names = names) := ⟨if_neg ho, if_neg ho⟩
    clear ho
    go_wp2_with fail
    go_quiet (fail)
    go_wp2_with fail
    exact bodyPost_ret (v := .tuple #[.int .i64 n, .int .u8 o, .slice a4 names.length c4]) (by simp [results, Tryd.results10, go_sem]) rfl ⟨_, by rw [HV.out.1], (by rw [HV.out.2]; obtain ⟨bs, h⟩ := HR.out; exact ⟨bs, owns_below h (below_drewN (Below.refl _ _) nq)⟩), below_drewN HB3.out nq⟩
end Go.Proofs.YtaehhophaaipdabDoor
