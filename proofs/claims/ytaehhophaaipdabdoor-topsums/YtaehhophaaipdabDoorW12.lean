/- Contracts of rightCells and of Right: for every term it returns whether it is one. -/
import Derived.Test.YtaehhophaaipdabDoorW10
import Derived.Test.YtaehhophaaipdabDoorW11
namespace Go.Proofs.YtaehhophaaipdabDoor
open Go.RowKit
def C.ok (c : C) : Bool := cellB c.k c.t c.n c.vn c.vk
def cellsB (l : List C) : Bool := l.all C.ok
theorem cells_snoc (l : List C) (k : Nat) (hk : k < l.length) (h : (l.take k).all C.ok = true) (hi : l[k].ok = true) : (l.take (k + 1)).all C.ok = true := by
  rw [List.take_succ_eq_append_getElem hk, List.all_append, h]; simp [hi]
theorem cells_false (l : List C) (k : Nat) (hk : k < l.length) (hi : l[k].ok = false) : cellsB l = false := by
  unfold cellsB; rw [List.all_eq_false]; exact ⟨l[k], List.getElem_mem _, by simp [hi]⟩
set_option maxHeartbeats 1000000 in
theorem c45_in (l : List C) (b o cap : Nat) (w : World) (hr : w.rangeAt b o (flat l)) (hb : b < w.heap.size) (hc : l.length ≤ maxLen) (htx : ∀ c ∈ l, c.t.size ≤ maxLen) (hS : Signs w) :
    Calls Tryd.prog 25 #[.slice (some ⟨b, o, none⟩) l.length cap] w fun e w' => e = .returned (.bool (cellsB l)) ∧ Below w.heap.size w w' := by
  unfold maxLen at hc
  have HR : Hid (w.rangeAt b o (flat l)) := hr
  have HS : Hid (Signs w) := hS
  have HX : Hid (∀ c ∈ l, c.t.size ≤ maxLen) := htx
  clear hr hS htx
  go_enter Tryd.func25, Tryd.ntmps25
  go_wp2_with fail
  refine (c61 _).mono ?_
  rintro e w1 ⟨tv, rfl, hRu, hb1⟩
  have HRu : Hid (Rules w1 tv) := hRu
  have hz1 := hb1.size
  clear hRu
  go_wp2_with fail
  go_loopw [9] (fun i wr => ∃ k : Nat, k ≤ l.length ∧ i = .int .i64 k ∧ Hid ((l.take k).all C.ok = true) ∧ Below w1.heap.size w1 wr) (fun i _ => l.length - (intOf i).toNat)
  case atStart => exact ⟨0, by omega, rfl, rfl, Below.refl _ _⟩
  case round =>
    obtain ⟨k, hk, rfl, hall, hbr⟩ := hrel
    have hbw : Hid (Below w.heap.size w wr) := hb1.trans (hbr.mono hz1)
    by_cases hlt : k < l.length
    · have hlt' : (k : Int) < (l.length : Int) := by omega
      obtain ⟨p0, p1, p2, p3, p4⟩ := term_cells (range_below HR.out hb hbw.out) k hlt
      have hbz : b < wr.heap.size := Nat.lt_of_lt_of_le hb hbw.out.size
      have HC := fun (o : Obj) => c62 l[k].k l[k].t l[k].n l[k].vn l[k].vk tv (wr.alloc o) ((HRu.out.below hbr).below (below_alloc _ _)) ((HS.out.below hbw.out).below (below_alloc _ _)) (HX.out _ (List.getElem_mem _))
      have HC : Hid (∀ o : Obj, Calls Tryd.prog 35 #[.agg #[.int .u8 l[k].k, .string l[k].t, .int .i64 l[k].n, .int .i64 l[k].vn, .int .i64 l[k].vk], tv] (wr.alloc o) fun e w' => e = .returned (.bool l[k].ok) ∧ Below (wr.alloc o).heap.size (wr.alloc o) w') := HC
      cases hok : l[k].ok
      · have hF : Hid (cellsB l = false) := cells_false l k hlt hok
        rw [hok] at HC
        clear hok
        go_wp2_with fail
        refine (HC.out _).mono ?_
        rintro e w' ⟨rfl, hb2⟩
        go_wp2_with fail
        go_ret
        exact ⟨by rw [hF.out]; rfl, (hbw.out.alloc (by have := hbw.out.size; omega) _).trans (hb2.mono (by have := hbw.out.size; simp; omega))⟩
      · have hT : Hid ((l.take (k + 1)).all C.ok = true) := cells_snoc l k hlt hall.out hok
        rw [hok] at HC
        clear hok
        go_wp2_with fail
        refine (HC.out _).mono ?_
        rintro e w' ⟨rfl, hb2⟩
        go_wp2_with fail
        go_roundw
        case rel => exact ⟨k + 1, by omega, by go_num, hT, (hbr.alloc (by have := hbr.size; omega) _).trans (hb2.mono (by have := hbr.size; simp; omega))⟩
        case measure => simp [intOf]; omega
    · have hT : Hid (cellsB l = true) := by
        have h := hall.out; rw [List.take_of_length_le (by omega)] at h; exact h
      have hlt' : ¬ ((k : Int) < (l.length : Int)) := by omega
      go_wp2_with fail
      go_ret
      exact ⟨by rw [hT.out]; rfl, hbw.out⟩
set_option maxHeartbeats 1000000 in
theorem c45_nil (ad : Option Addr) (w : World) :
    Calls Tryd.prog 25 #[.slice ad 0 0] w fun e w' => e = .returned (.bool true) ∧ Below w.heap.size w w' := by
  go_enter Tryd.func25, Tryd.ntmps25
  go_wp2_with fail
  refine (c61 _).mono ?_
  rintro e w1 ⟨tv, rfl, hRu, hb1⟩
  clear hRu
  go_wp2_with fail
  refine wp_loop_rounds 1 ?_
  rw [rounds_succ]
  go_wp2_with fail
  go_ret
  exact ⟨rfl, hb1⟩
theorem c45 (l : List C) (v : Value) (w : World) (h : TermAt w v l) (hS : Signs w) :
    Calls Tryd.prog 25 #[v] w fun e w' => e = .returned (.bool (cellsB l)) ∧ Below w.heap.size w w' := by
  obtain ⟨⟨hc, hx⟩, h⟩ := h
  rcases h with ⟨rfl, ad, rfl⟩ | ⟨b, o, cap, rfl, h2, h5, h3, h4⟩
  · exact c45_nil ad w
  · exact c45_in l b o cap w h3 h4 hc hx hS
def rightB (l : List C) : Bool := decide (1 ≤ (l.length : Int)) && decide ((l.length : Int) ≤ 256) && cellsB l && (endS l 0 == (l.length : Int))
set_option maxHeartbeats 1000000 in
theorem c22 (l : List C) (v : Value) (w : World) (h : TermAt w v l) (hS : Signs w) :
    Calls Tryd.prog 17 #[v] w fun e w' => e = .returned (.bool (rightB l)) ∧ Below w.heap.size w w' := by
  have H45 : Hid (∀ w' : World, Below w.heap.size w w' → Calls Tryd.prog 25 #[v] w' fun e w'' => e = .returned (.bool (cellsB l)) ∧ Below w'.heap.size w' w'') := fun w' hb => c45 l v w' (h.below hb) (hS.below hb)
  have H24 : Hid (∀ w' : World, Below w.heap.size w w' → Calls Tryd.prog 26 #[v, .int .i64 0] w' fun e w'' => e = .returned (.int .i64 (endS l 0)) ∧ Below w'.heap.size w' w'') := fun w' hb => c24 l v 0 w' (h.below hb)
  have hrb : rightB l = (decide (1 ≤ (l.length : Int)) && decide ((l.length : Int) ≤ 256) && cellsB l && (endS l 0 == (l.length : Int))) := rfl
  rw [hrb]; clear hrb
  obtain ⟨ad, cap, rfl⟩ : ∃ (ad : Option Addr) (cap : Nat), v = .slice ad l.length cap := by
    rcases h.2 with ⟨rfl, ad, rfl⟩ | ⟨b, o, cap, rfl, _⟩
    · exact ⟨ad, 0, rfl⟩
    · exact ⟨_, _, rfl⟩
  have hc := h.1.1
  unfold maxLen at hc
  clear h hS
  generalize endS l 0 = en at *
  generalize cellsB l = cb at *
  by_cases h1 : 1 ≤ (l.length : Int)
  · by_cases h2 : (l.length : Int) ≤ 256
    · cases cb
      · go_enter Tryd.func17, Tryd.ntmps17
        go_wp2_with fail
        refine (H45.out _ (Below.refl _ _)).mono ?_
        rintro e w' ⟨rfl, hb2⟩
        go_wp2_with fail
        go_ret
        exact ⟨by simp, hb2⟩
      · go_enter Tryd.func17, Tryd.ntmps17
        go_wp2_with fail
        refine (H45.out _ (Below.refl _ _)).mono ?_
        rintro e w' ⟨rfl, hb2⟩
        go_wp2_with fail
        refine (H24.out _ hb2).mono ?_
        rintro e w'' ⟨rfl, hb3⟩
        go_wp2_with fail
        go_ret
        exact ⟨by simp [h1, h2], hb2.trans (hb3.mono hb2.size)⟩
    · go_enter Tryd.func17, Tryd.ntmps17
      go_wp2_with fail
      go_ret
      exact ⟨by rw [decide_eq_false (by omega : ¬ ((l.length : Int) ≤ 256))]; simp, Below.refl _ _⟩
  · go_enter Tryd.func17, Tryd.ntmps17
    go_wp2_with fail
    go_ret
    exact ⟨by rw [decide_eq_false (by omega : ¬ (1 ≤ (l.length : Int)))]; simp, Below.refl _ _⟩
end Go.Proofs.YtaehhophaaipdabDoor
