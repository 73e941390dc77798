/- Contracts of bytes.Clone and own: a datagram with Bytes of its own. -/
import Derived.Test.YthpbfaddojcohaaNC
import Derived.Lib.SliceRun
namespace Go.Proofs.Ythpbfaddojcohaa
open Go.RowKit
attribute [local go_sem ↓] Go.wp_at_zero Go.wp_at_succ
def u8s (xs : List Int) : List Value := xs.map (.int .u8 ·)
/-- The bytes of a slice. -/
def ByAt (w : World) (ba : Option Addr) (bn bc : Nat) (xs : List Int) : Prop :=
  xs.length = bn ∧ ((ba = none ∧ bn = 0 ∧ bc = 0) ∨ (∃ a, ba = some a ∧ bn = 0) ∨ ∃ b o, ba = some ⟨b, o, none⟩ ∧ b < w.heap.size ∧ ∀ j u, (u8s xs)[j]? = some u → w.cell? ⟨b, o + j, none⟩ = some u)
theorem ByAt.below {w w' : World} {ba : Option Addr} {bn bc : Nat} {xs : List Int} (h : ByAt w ba bn bc xs) (hb : Below w.heap.size w w') : ByAt w' ba bn bc xs := by
  refine ⟨h.1, ?_⟩
  rcases h.2 with h | h | ⟨b, o, e, hl, hc⟩
  · exact .inl h
  · exact .inr (.inl h)
  · exact .inr (.inr ⟨b, o, e, Nat.lt_of_lt_of_le hl hb.size, fun j u hu => (hb.cell (p := ⟨b, o + j, none⟩) hl).trans (hc j u hu)⟩)
theorem infoU8 : ∃ i, Try.prog.info? 5 = some i ∧ i.zero = some (.int .u8 0) ∧ i.size = 1 ∧ i.bytes = 1 := by
  have h : (Try.prog.info? 5).map (fun i => (i.zero, i.size, i.bytes)) = some (some (.int .u8 0), 1, 1) := by kernel_rfl
  cases hq : Try.prog.info? 5 with
  | none => rw [hq] at h; cases h
  | some i =>
    rw [hq] at h
    simp only [Option.map_some, Option.some.injEq, Prod.mk.injEq] at h
    exact ⟨i, rfl, h.1, h.2.1, h.2.2⟩
theorem u8s_one (xs : List Int) : ∀ u ∈ u8s xs, u.oneCell' = true := fun u hu => by
  obtain ⟨x, _, rfl⟩ := List.mem_map.1 hu
  rfl
theorem u8s_len (xs : List Int) : (u8s xs).length = xs.length * 1 := by simp [u8s]
/-- Bytes of one's own. -/
def OwnB (w : World) (B : Nat) (ba : Option Addr) (bn bc : Nat) (xs : List Int) : Prop := w.ownsRow B 5 1 (.slice ba bn bc) bn (u8s xs)
set_option maxRecDepth 100000 in
set_option maxHeartbeats 2000000 in
theorem n60 (ba : Option Addr) (bn bc : Nat) (xs : List Int) (w : World) (h : ByAt w ba bn bc xs) (hn : bn ≤ 140737488355328) :
    Calls Try.prog 60 #[.slice ba bn bc] w fun e w' => ∃ a c, e = .returned (.slice a bn c) ∧ OwnB w' w.heap.size a bn c xs ∧ (ba = none → a = none ∧ c = 0) ∧ Below w.heap.size w w' := by
  obtain ⟨i0, hi, hz, hs, hb0⟩ := infoU8
  have hnl := fun (a : Option Addr) (n c : Nat) => Lib.run_eql_slice_nil (P := Try.prog) w 44 5 a n c 0 0 Try.underlying44
  have hown0 : (w.alloc (.cells #[] 5)).ownsRow w.heap.size 5 1 (.slice (some ⟨w.heap.size, 0, none⟩) 0 0) 0 [] := ⟨rfl, .inr ⟨w.heap.size, 0, #[], rfl, Nat.le_refl _, heap_alloc_new w _, Nat.le_refl _, by simp, rfl, rfl⟩⟩
  have HO : Hid ((w.alloc (.cells #[] 5)).ownsRow w.heap.size 5 1 (.slice (some ⟨w.heap.size, 0, none⟩) 0 0) 0 []) := hown0
  have HB : Hid (Below w.heap.size w (w.alloc (.cells #[] 5))) := (Below.refl _ w).alloc (Nat.le_refl _) _
  have hbase : w.heap.size ≤ (w.alloc (.cells #[] 5)).heap.size := by simp
  clear hown0
  obtain ⟨hx, h⟩ := h
  rcases h with ⟨rfl, rfl, rfl⟩ | ⟨a, rfl, rfl⟩ | ⟨b, o, rfl, hl, hc⟩
  · obtain rfl := List.eq_nil_of_length_eq_zero hx
    go_enter Try.func60, Try.ntmps60
    go_wp2_with fail
    go_ret
    exact ⟨_, _, rfl, World.ownsRow_nil _ _ _ _, fun _ => ⟨rfl, rfl⟩, Below.refl _ _⟩
  · obtain rfl := List.eq_nil_of_length_eq_zero hx
    go_enter Try.func60, Try.ntmps60
    go_wp2_with (at_builtin; refine wpList_append_own _ rfl _ _ 44 rfl w.heap.size 5 i0 (.int .u8 0) 1 1 Try.underlying44 hi hz hs hb0 rfl (by decide) _ _ _ rfl HO.out a 0 bc [] rfl rfl (fun j u hu => by simp at hu) (fun u hu => by simp at hu) (by unfold maxLen; omega) (by omega) hbase ?_)
    intro v' w' hown hgr _
    have HF : Hid (w'.ownsRow w.heap.size 5 1 v' 0 (u8s []) ∧ Below w.heap.size w w') := ⟨hown, HB.out.grown hgr hbase (fun g hg => (HO.out.lt g hg).1)⟩
    obtain ⟨a', c', hvf⟩ := owns_slice HF.out.1
    subst hvf
    clear hown hgr
    go_wp2_with fail
    go_ret
    exact ⟨_, _, rfl, HF.out.1, (fun e => by cases e), HF.out.2⟩
  · have HN : Hid (∀ j u, (u8s xs)[j]? = some u → (w.alloc (.cells #[] 5)).cell? ((⟨b, o, none⟩ : Addr).add j) = some u) := fun j u hu => by
      rw [Addr.add_mid]
      exact (HB.out.cell (p := ⟨b, o + j, none⟩) hl).trans (hc j u hu)
    have hfl : (u8s xs).length = bn * 1 := by rw [u8s_len, hx]
    clear hc hl hx
    go_enter Try.func60, Try.ntmps60
    go_wp2_with (at_builtin; refine wpList_append_own _ rfl _ _ 44 rfl w.heap.size 5 i0 (.int .u8 0) 1 1 Try.underlying44 hi hz hs hb0 rfl (by decide) _ _ _ rfl HO.out ⟨b, o, none⟩ bn bc (u8s xs) rfl hfl HN.out (u8s_one xs) (by unfold maxLen; omega) (by omega) hbase ?_)
    intro v' w' hown hgr _
    have HF : Hid (w'.ownsRow w.heap.size 5 1 v' bn (u8s xs) ∧ Below w.heap.size w w') := ⟨by simpa using hown, HB.out.grown hgr hbase (fun g hg => (HO.out.lt g hg).1)⟩
    obtain ⟨a', c', hvf⟩ := owns_slice HF.out.1
    subst hvf
    clear hown hgr
    go_wp2_with fail
    go_ret
    exact ⟨_, _, rfl, HF.out.1, (fun e => by cases e), HF.out.2⟩
theorem owns_set {w : World} {B : Nat} {e : TypeId} {s n : Nat} {v : Value} {xs : List Value} (h : w.ownsRow B e s v n xs) {a : Addr} (u : Value) (ha : a.block < B) : (w.setCell a u).ownsRow B e s v n xs := by
  refine ⟨h.1, ?_⟩
  rcases h.2 with h1 | ⟨g, cap, cur, rfl, h2, h3, h4⟩
  · exact .inl h1
  · exact .inr ⟨g, cap, cur, rfl, h2, by rw [heap_setCell_other _ _ _ _ (by omega)]; exact h3, h4⟩
theorem owns_base {w : World} {B B' : Nat} {e : TypeId} {s n : Nat} {v : Value} {xs : List Value} (h : w.ownsRow B e s v n xs) (hB : B' ≤ B) : w.ownsRow B' e s v n xs := by
  refine ⟨h.1, ?_⟩
  rcases h.2 with h1 | ⟨g, cap, cur, rfl, h2, h3, h4⟩
  · exact .inl h1
  · exact .inr ⟨g, cap, cur, rfl, by omega, h3, h4⟩
set_option maxRecDepth 100000 in
set_option maxHeartbeats 2000000 in
theorem n41 (d : Dg) (xs : List Int) (w : World) (h : ByAt w d.ba d.bn d.bc xs) (hn : d.bn ≤ 140737488355328) :
    Calls Try.prog 41 #[.agg d.box] w fun e w' => ∃ a c, e = .returned (.agg ({ d with ba := a, bc := c } : Dg).box) ∧ OwnB w' w.heap.size a d.bn c xs ∧ (d.ba = none → a = none ∧ c = 0) ∧ Below w.heap.size w w' := by
  obtain ⟨fr, to, ak, sq, ba, bn, bc⟩ := d
  show Calls Try.prog 41 #[.agg #[.int .i64 fr, .int .i64 to, .bool ak, .int .i64 sq, .slice ba bn bc]] w _
  obtain ⟨W, hW⟩ : ∃ W, W = (w.alloc (.cells #[.int .i64 fr, .int .i64 to, .bool ak, .int .i64 sq, .slice ba bn bc] 46)).alloc (.cells #[.int .i64 0, .int .i64 0, .bool false, .int .i64 0, .slice none 0 0] 46) := ⟨_, rfl⟩
  have hb0 : Below w.heap.size w W := by rw [hW]; exact ((Below.refl _ w).alloc (Nat.le_refl _) _).alloc (by simp) _
  have h60 := n60 ba bn bc xs W (h.below hb0) hn
  have hz : W.heap.size = w.heap.size + 2 := by rw [hW]; simp
  have hA : W.heap[w.heap.size]? = some (.cells #[.int .i64 fr, .int .i64 to, .bool ak, .int .i64 sq, .slice ba bn bc] 46 (0, 0)) := by
    rw [hW, heap_alloc_old _ _ (by simp)]; exact heap_alloc_new w _
  have hC : W.heap[w.heap.size + 1]? = some (.cells #[.int .i64 0, .int .i64 0, .bool false, .int .i64 0, .slice none 0 0] 46 (0, 0)) := by
    have := heap_alloc_new (w.alloc (.cells #[.int .i64 fr, .int .i64 to, .bool ak, .int .i64 sq, .slice ba bn bc] 46)) (.cells #[.int .i64 0, .int .i64 0, .bool false, .int .i64 0, .slice none 0 0] 46)
    rw [hW]; simpa using this
  have HA : Hid (W.heap[w.heap.size]? = some (.cells #[.int .i64 fr, .int .i64 to, .bool ak, .int .i64 sq, .slice ba bn bc] 46 (0, 0))) := hA
  have HC : Hid (W.heap[w.heap.size + 1]? = some (.cells #[.int .i64 0, .int .i64 0, .bool false, .int .i64 0, .slice none 0 0] 46 (0, 0))) := hC
  have HZ : Hid (W.heap.size = w.heap.size + 2 ∧ Below w.heap.size w W) := ⟨hz, hb0⟩
  clear h hz hA hC hb0
  go_enter Try.func41, Try.ntmps41
  go_wp2_with fail
  rw [hW] at h60
  refine h60.mono ?_
  rw [← hW]
  rintro e w1 ⟨a, c, rfl, ho, hnn, hb1⟩
  have hA1 : w1.heap[w.heap.size]? = some (.cells #[.int .i64 fr, .int .i64 to, .bool ak, .int .i64 sq, .slice ba bn bc] 46 (0, 0)) := (hb1.block _ (by rw [HZ.out.1]; omega)).trans HA.out
  have hC1 : w1.heap[w.heap.size + 1]? = some (.cells #[.int .i64 0, .int .i64 0, .bool false, .int .i64 0, .slice none 0 0] 46 (0, 0)) := (hb1.block _ (by rw [HZ.out.1]; omega)).trans HC.out
  obtain ⟨A, hAn⟩ : ∃ A, A = w.heap.size := ⟨_, rfl⟩
  rw [← hAn] at hA1 hC1
  have a0 : w1.cell? ⟨A, 0, none⟩ = some (.int .i64 fr) := by rw [cell_of_row w1 A 0 _ 46 (0, 0) hA1]; rfl
  have a1 : w1.cell? ⟨A, 1, none⟩ = some (.int .i64 to) := by rw [cell_of_row w1 A 1 _ 46 (0, 0) hA1]; rfl
  have a2 : w1.cell? ⟨A, 2, none⟩ = some (.bool ak) := by rw [cell_of_row w1 A 2 _ 46 (0, 0) hA1]; rfl
  have a3 : w1.cell? ⟨A, 3, none⟩ = some (.int .i64 sq) := by rw [cell_of_row w1 A 3 _ 46 (0, 0) hA1]; rfl
  have a4 : w1.cell? ⟨A, 4, none⟩ = some (.slice ba bn bc) := by rw [cell_of_row w1 A 4 _ 46 (0, 0) hA1]; rfl
  have f4 : w1.frozen? ⟨A, 4, none⟩ = false := frozen_of_row w1 A 4 _ 46 hA1
  have c0 : w1.cell? ⟨A + 1, 0, none⟩ = some (.int .i64 0) := by rw [cell_of_row w1 (A + 1) 0 _ 46 (0, 0) hC1]; rfl
  have c1 : w1.cell? ⟨A + 1, 1, none⟩ = some (.int .i64 0) := by rw [cell_of_row w1 (A + 1) 1 _ 46 (0, 0) hC1]; rfl
  have c2 : w1.cell? ⟨A + 1, 2, none⟩ = some (.bool false) := by rw [cell_of_row w1 (A + 1) 2 _ 46 (0, 0) hC1]; rfl
  have c3 : w1.cell? ⟨A + 1, 3, none⟩ = some (.int .i64 0) := by rw [cell_of_row w1 (A + 1) 3 _ 46 (0, 0) hC1]; rfl
  have c4 : w1.cell? ⟨A + 1, 4, none⟩ = some (.slice none 0 0) := by rw [cell_of_row w1 (A + 1) 4 _ 46 (0, 0) hC1]; rfl
  have g0 : w1.frozen? ⟨A + 1, 0, none⟩ = false := frozen_of_row w1 (A + 1) 0 _ 46 hC1
  have g1 : w1.frozen? ⟨A + 1, 1, none⟩ = false := frozen_of_row w1 (A + 1) 1 _ 46 hC1
  have g2 : w1.frozen? ⟨A + 1, 2, none⟩ = false := frozen_of_row w1 (A + 1) 2 _ 46 hC1
  have g3 : w1.frozen? ⟨A + 1, 3, none⟩ = false := frozen_of_row w1 (A + 1) 3 _ 46 hC1
  have g4 : w1.frozen? ⟨A + 1, 4, none⟩ = false := frozen_of_row w1 (A + 1) 4 _ 46 hC1
  rw [← hAn] at HZ
  clear hA1 hC1 HA HC h60
  have HO : Hid (OwnB w1 W.heap.size a bn c xs ∧ (ba = none → a = none ∧ c = 0) ∧ Below W.heap.size W w1) := ⟨ho, hnn, hb1⟩
  clear ho hnn hb1
  subst hAn
  go_wp2_with fail
  refine bodyPost_ret (v := .agg #[.int .i64 fr, .int .i64 to, .bool ak, .int .i64 sq, .slice a bn c]) (by simp [results, Try.results41, go_sem, c0, c1, c2, c3, c4]) rfl ⟨a, c, rfl, ?_, HO.out.2.1, ?_⟩
  · have hz := HZ.out.1
    refine owns_base (B := W.heap.size) ?_ (by omega)
    have h1 : w.heap.size < W.heap.size := by omega
    have h2 : w.heap.size + 1 < W.heap.size := by omega
    exact owns_set (owns_set (owns_set (owns_set (owns_set (owns_set HO.out.1 _ h1) _ h2) _ h2) _ h2) _ h2) _ h2
  · have hz := HZ.out.1
    have hb : Below w.heap.size w w1 := HZ.out.2.trans (HO.out.2.2.mono (by omega))
    have h1 : w.heap.size ≤ w.heap.size := Nat.le_refl _
    have h2 : w.heap.size ≤ w.heap.size + 1 := by omega
    exact (((((hb.setCell h1 _).setCell h2 _).setCell h2 _).setCell h2 _).setCell h2 _).setCell h2 _
end Go.Proofs.Ythpbfaddojcohaa
