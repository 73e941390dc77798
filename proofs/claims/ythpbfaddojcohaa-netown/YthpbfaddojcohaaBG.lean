/- Contracts of TakeDatagrams and Alone. -/
import Derived.Test.YthpbfaddojcohaaBF
namespace Go.Proofs.Ythpbfaddojcohaa
open Go.RowKit
abbrev slV (d : Dg) : Value := .slice d.ba d.bn d.bc
def TkD (B b : Nat) (iv : Value) (nb ni : Nat) (vb vi : List Value) (l : List Dg) (w w' : World) : Prop := ∃ v', BkS w' B b v' iv (nb + l.length) ni (vb ++ l.map slV) vi ∧ KT w w' ∧ Below B w w'
set_option maxRecDepth 100000 in
set_option maxHeartbeats 4000000 in
theorem n24 (B b : Nat) (bv iv : Value) (nb ni : Nat) (vb vi : List Value) (u : Value) (A : Nat) (l : List Dg) (w : World) (h : BkS w B b bv iv nb ni vb vi) (hu : w.ownsRow A 46 5 u l.length (flatD l)) (hn : (nb + l.length + 1) * 24 ≤ 140737488355328) :
    Calls Try.prog 24 #[.pointer (some ⟨b, 0, none⟩), u] w fun e w' => e = .returned (.tuple #[]) ∧ TkD B b iv nb ni vb vi l w w' := by
  have HH : Hid (BkS w B b bv iv nb ni vb vi) := h
  have HU : Hid (w.ownsRow A 46 5 u l.length (flatD l)) := hu
  obtain ⟨au, cu, huf⟩ := rowv_form hu
  subst huf
  clear h hu
  go_enter Try.func24, Try.ntmps24
  go_wp2_with fail
  go_loopw [4] (fun iw wr => ∃ (i : Nat) (v' : Value), i ≤ l.length ∧ iw = .int .i64 i ∧ Hid (BkS wr B b v' iv (nb + i) ni (vb ++ (l.take i).map slV) vi) ∧ Hid (KT w wr) ∧ Hid (Below B w wr)) (fun iw _ => l.length - (intOf iw).toNat)
  case atStart => exact ⟨0, bv, by omega, rfl, by simpa using HH, KT.refl _, Below.refl _ _⟩
  case round =>
    obtain ⟨i, v', hi1, rfl, HB, HK, HL⟩ := hrel
    by_cases hlt : i < l.length
    · have hlt' : (i : Int) < (l.length : Int) := by omega
      have hi0 : (0 : Int) ≤ (i : Int) := by omega
      obtain ⟨m, hm⟩ : ∃ m, l.length = m + 1 := ⟨l.length - 1, by omega⟩
      have hur := HK.out.owns (by decide) HU.out
      have hus := hur
      rw [hm] at hus
      obtain ⟨g, cap, e1⟩ := owns_some hus
      simp only [Value.slice.injEq] at e1
      obtain ⟨rfl, _, rfl⟩ := e1
      have p4 := (dg_cells (owns_range hur) i hlt).2.2.2.2
      simp only [Nat.zero_add] at p4
      have HT : Hid ((l.take (i + 1)).map slV = (l.take i).map slV ++ [slV l[i]]) := by
        show (l.take (i + 1)).map slV = _
        rw [List.take_succ_eq_append_getElem hlt, List.map_append]; rfl
      clear hur hus hm
      generalize l[i] = d at p4 HT
      have H47 := n47 B b v' iv (nb + i) ni (vb ++ (l.take i).map slV) vi d.ba d.bn d.bc wr HB.out (Nat.le_trans (Nat.mul_le_mul_right 24 (Nat.succ_le_succ (Nat.add_le_add_left hi1 nb))) hn)
      go_wp2_with fail
      refine H47.mono ?_
      rintro e w2 ⟨rfl, v2, hb2, hk2, hl2⟩
      have HB2 : Hid (BkS w2 B b v2 iv (nb + i + 1) ni (vb ++ (l.take i).map slV ++ [slV d]) vi) := hb2
      have HK2 : Hid (KT w w2) := HK.out.trans hk2
      have HL2 : Hid (Below B w w2) := HL.out.trans hl2
      clear H47 hb2 hk2 hl2 HB HK HL p4
      go_wp2_with fail
      go_roundw
      case rel =>
        refine ⟨i + 1, v2, by omega, by go_num, ?_, HK2, HL2⟩
        have := HB2.out
        rw [List.append_assoc, ← HT.out] at this
        exact this
      case measure => simp [intOf]; omega
    · obtain rfl : i = l.length := by omega
      have hlt' : ¬ ((l.length : Int) < (l.length : Int)) := by omega
      have HF : Hid (TkD B b iv nb ni vb vi l w wr) := ⟨v', by have := HB.out; rwa [List.take_length] at this, HK.out, HL.out⟩
      clear HB HK HL
      go_wp2_with fail
      go_end0
      exact ⟨rfl, HF.out⟩
theorem P1.kept {e se : TypeId} {ik : IntKind} {mk : Nat → Int} {bk : Array Value} {w w' : World} {B b : Nat} {iv : Value} {vs : List Value} {ns : List Nat} {e' : TypeId} (h : P1 e se ik mk bk w B b iv vs ns 0 0) (hk : KB e' B w w') (hb : BookAt w' b bk) (h1 : e ≠ e') (h2 : se ≠ e') : P1 e se ik mk bk w' B b iv vs ns 0 0 := by
  have ho : ∀ {base t s m : Nat} {r : Value} {xs : List Value}, t ≠ e' → w.ownsRow base t s r m xs → w'.ownsRow base t s r m xs := fun {base t s m r xs} ht ho => owns_eq ho fun g hg => hk.keep g (ho.lt g hg).2 (fun cu fr e1 => by
    obtain ⟨cu', fr', e2⟩ := owns_typed ho g hg
    rw [e1] at e2
    simp only [Option.some.injEq, Obj.cells.injEq] at e2
    exact ht e2.2.1.symm)
  refine ⟨h.ne, hb, h.hb, ho h2 h.row, fun j v n hj => by omega, ?_, ?_, h.apart⟩
  · intro v n hv hn
    obtain ⟨ys, e1, e2⟩ := h.mid v n hv hn
    exact ⟨ys, e1, ho h1 e2.1, e2.2⟩
  · intro j v n hj hv hn
    obtain ⟨ys, e1, e2⟩ := h.rest j v n hj hv hn
    exact ⟨ys, e1, ho h1 e2.1, e2.2⟩
set_option maxRecDepth 100000 in
set_option maxHeartbeats 4000000 in
theorem n27 (B b : Nat) (bv iv : Value) (vb vi : List Value) (nsb nsi : List Nat) (w : World) (hB : P1 5 44 .u8 mkB (Bk bv iv) w B b bv vb nsb 0 0) (hI : P1 3 67 .i64 mkI (Bk bv iv) w B b iv vi nsi 0 0)
    (hlb : nsb.length * 24 ≤ 140737488355328) (hli : nsi.length * 24 ≤ 140737488355328) (hmb : ∀ n ∈ nsb, n ≤ 10000000000000) (hmi : ∀ n ∈ nsi, n ≤ 10000000000000) :
    Calls Try.prog 27 #[.pointer (some ⟨b, 0, none⟩)] w fun e w' => e = .returned (.bool true) ∧ Below B w w' := by
  have hBb := hB.hb
  have H48 := n48 B b (Bk bv iv) bv vb nsb w hB rfl hlb hmb
  have HI : Hid (P1 3 67 .i64 mkI (Bk bv iv) w B b iv vi nsi 0 0) := hI
  have HMI : Hid (∀ n ∈ nsi, n ≤ 10000000000000) := hmi
  clear hB hI hlb hmb hmi
  go_enter Try.func27, Try.ntmps27
  go_wp2_with fail
  refine H48.mono ?_
  rintro e w1 ⟨rfl, hbk1, hk1⟩
  clear H48
  obtain ⟨_, c1, _, _, _⟩ := book_cells hbk1
  have H49 := n49 b w1 c1
  have H50 := n50 B b (Bk bv iv) iv vi nsi w1 (HI.out.kept hk1 hbk1 (by decide) (by decide)) rfl hli HMI.out
  have HK1 : Hid (Below B w w1) := hk1.below
  clear hk1 hbk1 c1 HI HMI
  go_wp2_with fail
  refine H49.mono ?_
  rintro e w2 ⟨rfl, hw2⟩
  obtain rfl := hw2.symm
  clear H49
  go_wp2_with fail
  refine H50.mono ?_
  rintro e w3 ⟨rfl, hbk, hk3⟩
  obtain ⟨_, _, _, c3, c4⟩ := book_cells hbk
  have H51 := n51 b w3 c3
  have H52 := n52 b w3 c4
  have HK3 : Hid (Below B w w3) := HK1.out.trans hk3.below
  have f0 : w3.frozen? ⟨b, 0, none⟩ = false := frozen_of_row w3 b 0 _ 64 hbk
  have f1 : w3.frozen? ⟨b, 1, none⟩ = false := frozen_of_row w3 b 1 _ 64 hbk
  have f2 : w3.frozen? ⟨b, 2, none⟩ = false := frozen_of_row w3 b 2 _ 64 hbk
  have f3 : w3.frozen? ⟨b, 3, none⟩ = false := frozen_of_row w3 b 3 _ 64 hbk
  have f4 : w3.frozen? ⟨b, 4, none⟩ = false := frozen_of_row w3 b 4 _ 64 hbk
  have hbz : b < w3.heap.size := (Array.getElem?_eq_some_iff.1 hbk).1
  obtain ⟨g0, g1, g2, g3, g4⟩ := book_cells hbk
  clear H50 hbk c3 c4 hk3 HK1
  go_wp2_with fail
  refine H51.mono ?_
  rintro e w4 ⟨rfl, hw4⟩
  obtain rfl := hw4.symm
  clear H51
  go_wp2_with fail
  refine H52.mono ?_
  rintro e w5 ⟨rfl, hw5⟩
  obtain rfl := hw5.symm
  clear H52
  go_wp2_with fail
  go_ret
  exact ⟨rfl, by
    refine Below.setCell ?_ (p := ⟨b, _, none⟩) hBb _
    refine Below.setCell ?_ (p := ⟨b, _, none⟩) hBb _
    refine Below.setCell ?_ (p := ⟨b, _, none⟩) hBb _
    refine Below.setCell ?_ (p := ⟨b, _, none⟩) hBb _
    exact HK3.out.setCell (p := ⟨b, _, none⟩) hBb _⟩
end Go.Proofs.Ythpbfaddojcohaa
