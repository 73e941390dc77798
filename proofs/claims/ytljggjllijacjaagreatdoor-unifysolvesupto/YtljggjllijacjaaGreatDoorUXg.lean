/- The reference's place, Value, Chain and Deref of a nil map. The program's Step and the document's tell the same. SameTerms of like rows; a step as the document's. SameBindings of like rows: the document's, and the one that looks at memory. Terms of a row put into a book; a step's answer, with what is empty in it. A step as the document's; two steps that are the same. -/
import Derived.Test.YtljggjllijacjaaGreatDoorQAg
import Derived.Test.YtljggjllijacjaaGreatDoorUGg
import Derived.Test.YtljggjllijacjaaGreatDoorUIg
import Derived.Test.YtljggjllijacjaaGreatDoorIHg
import Derived.Test.YtljggjllijacjaaGreatDoorQPg
import Derived.Test.YtljggjllijacjaaGreatDoorUBcg
namespace Go.Proofs.YtljggjllijacjaaGreatDoor
open Go.RowKit
attribute [local go_sem ↓] Go.wp_at_zero Go.wp_at_succ
end Go.Proofs.YtljggjllijacjaaGreatDoor

namespace Go.Proofs.YtljggjllijacjaaGreatDoor
open Go.RowKit
end Go.Proofs.YtljggjllijacjaaGreatDoor

namespace Go.Proofs.YtljggjllijacjaaGreatDoor
open Go.RowKit
attribute [local go_sem ↓] Go.wp_at_zero Go.wp_at_succ
set_option maxRecDepth 100000 in
set_option maxHeartbeats 4000000 in
theorem t43 (L : List (List C)) (v v' : Value) (w : World) (h : RowAt w v L) (h' : RowAt w v' L) :
  Calls Tryz.prog 43 #[v, v'] w fun e w' => e = .returned (.bool true) ∧ Below w.heap.size w w' := by
 have HH : Hid (RowAt w v L ∧ RowAt w v' L) := ⟨h, h'⟩
 have hm : L.length ≤ 9223372036854775807 := by have := h.1; unfold maxLen at this; omega
 obtain ⟨a, c, hf⟩ := h.form
 subst hf
 obtain ⟨a', c', hf⟩ := h'.form
 subst hf
 clear h h'
 obtain ⟨n, hn⟩ : ∃ n, L.length = n := ⟨_, rfl⟩
 have HN : Hid (L.length = n) := hn
 rw [hn] at hm HH ⊢
 clear hn
 go_enter Tryz.func43, Tryz.ntmps43
 go_wp2_with fail
 go_loopw [5] (fun i wr => ∃ k : Nat, k ≤ n ∧ i = .int .i64 k ∧ Hid (Below w.heap.size w wr)) (fun i _ => n - (intOf i).toNat)
 case atStart => exact ⟨0, Nat.zero_le _, rfl, Below.refl _ _⟩
 case round =>
  obtain ⟨k, hk, rfl, HK⟩ := hrel
  by_cases hlt : k < n
  ·have hltI : (k : Int) < (n : Int) := by omega
   have hk0 : (0 : Int) ≤ (k : Int) := by omega
   have hkL : k < L.length := by rw [HN.out]; exact hlt
   obtain ⟨b1, z1, y1, u, ea, hbl1, cu, hTu⟩ := row_at (HH.out.1.below HK.out) k hkL
   obtain ⟨b2, z2, y2, x, eb, hbl2, cx, hTx⟩ := row_at (HH.out.2.below HK.out) k hkL
   simp only [Value.slice.injEq] at ea eb
   obtain ⟨rfl, hh1, rfl⟩ := ea
   obtain ⟨rfl, hh2, rfl⟩ := eb
   clear hh1 hh2
   have HE : ∀ W, Hid (Below wr.heap.size wr W) → Calls Tryz.prog 32 #[u, x] W fun e w' => e = .returned (.bool true) ∧ Hid (Below W.heap.size W w') := fun W hW => by
    have h := c13 L[k] L[k] u x W (hTu.below hW.out) (hTx.below hW.out)
    rw [eqT_refl] at h
    exact h
   obtain ⟨u1, u2, u3, huf⟩ : ∃ a b c, u = .slice a b c := by obtain ⟨a, c, h⟩ := hTu.form; exact ⟨_, _, _, h⟩
   obtain ⟨x1, x2, x3, hxf⟩ : ∃ a b c, x = .slice a b c := by obtain ⟨a, c, h⟩ := hTx.form; exact ⟨_, _, _, h⟩
   subst huf hxf
   clear hTu hTx hkL
   go_wp2_with fail
   go_region_with (go_at_call 32; refine (HE _ (Below.drew (Below.refl _ _))).mono ?_; rintro e w3 ⟨rfl, H3⟩)
   all_goals (
    have HF : Hid (Below w.heap.size w w3) := HK.out.trans (((Below.drew (Below.refl _ _)).trans H3.out).mono HK.out.size)
    clear H3 HE cu cx
    go_wp2_with fail
    go_roundw
    case rel => exact ⟨k + 1, by omega, by go_num, HF⟩
    case measure => simp [intOf]; omega)
  ·have hltI : ¬ (k : Int) < (n : Int) := by omega
   go_wp2_with fail
   go_ret
   exact ⟨rfl, HK.out⟩
end Go.Proofs.YtljggjllijacjaaGreatDoor

namespace Go.Proofs.YtljggjllijacjaaGreatDoor
open Go.RowKit
attribute [local go_sem ↓] Go.wp_at_zero Go.wp_at_succ
set_option maxRecDepth 100000 in
set_option maxHeartbeats 8000000 in
theorem i21 (a a' : Option Addr) (n c c' : Nat) (bs bs' : List Bn) (w : World) (h : Bs w a n bs) (h' : Bs w a' n bs') (ht : ∀ b ∈ bs, TermAt w b.v b.l) (ht' : ∀ b ∈ bs', TermAt w b.v b.l) (he : hpOf bs = hpOf bs') (hn : n ≤ 4000000000000) :
  Calls Tryz.prog 62 #[.slice a n c, .slice a' n c'] w fun e w' => e = .returned (.bool true) ∧ Below w.heap.size w w' := by
 have HH : Hid (Bs w a n bs ∧ Bs w a' n bs' ∧ (∀ b ∈ bs, TermAt w b.v b.l) ∧ (∀ b ∈ bs', TermAt w b.v b.l) ∧ hpOf bs = hpOf bs') := ⟨h, h', ht, ht', he⟩
 clear h h' ht ht' he
 go_enter Tryz.func62, Tryz.ntmps62
 go_wp2_with fail
 go_loopw [5] (fun i wr => ∃ k : Nat, k ≤ n ∧ i = .int .i64 k ∧ Hid (Below w.heap.size w wr)) (fun i _ => n - (intOf i).toNat)
 case atStart => exact ⟨0, Nat.zero_le _, rfl, Below.refl _ _⟩
 case round =>
  obtain ⟨k, hk, rfl, HK⟩ := hrel
  by_cases hlt : k < n
  ·have hltI : (k : Int) < (n : Int) := by omega
   have hk0 : (0 : Int) ≤ (k : Int) := by omega
   obtain ⟨b, o, b', o', x1, x2, la, lc, la', lc', ll, rfl, rfl, HC, K15⟩ : ∃ b o b' o' x1 x2 la lc la' lc' ll, a = some ⟨b, o, none⟩ ∧ a' = some ⟨b', o', none⟩ ∧ Hid (∀ u, Below wr.heap.size wr u → (fun u => u.cell? ⟨b, o + k * 3, none⟩ = some (.int .i64 x1) ∧ u.cell? ⟨b, o + k * 3 + 1, none⟩ = some (.int .i64 x2) ∧ u.cell? ⟨b, o + k * 3 + 2, none⟩ = some (.slice la ll.length lc) ∧ u.cell? ⟨b', o' + k * 3, none⟩ = some (.int .i64 x1) ∧ u.cell? ⟨b', o' + k * 3 + 1, none⟩ = some (.int .i64 x2) ∧ u.cell? ⟨b', o' + k * 3 + 2, none⟩ = some (.slice la' ll.length lc')) u) ∧ Hid (∀ u, Below wr.heap.size wr u → Calls Tryz.prog 32 #[.slice la (List.length (α := C) ll) lc, .slice la' ll.length lc'] u fun e w' => e = .returned (.bool true) ∧ Hid (Below wr.heap.size wr w')) := by
    obtain ⟨h1, h2, h3, h4, h5⟩ := HH.out
    obtain ⟨b, o, hx, e1, hb, c0, c1, c2⟩ := h1.at hlt
    obtain ⟨b', o', hx', e1', hb', c0', c1', c2'⟩ := h2.at hlt
    have t1 := h3 _ (List.getElem_mem hx)
    have t2 := h4 _ (List.getElem_mem hx')
    have e2 : (bs[k].x, bs[k].l) = (bs'[k].x, bs'[k].l) := by
     have := congrArg (fun l => l[k]?) h5
     simpa [hpOf, hx, hx'] using this
    simp only [Prod.mk.injEq] at e2
    obtain ⟨fa, fc, f1⟩ := t1.form
    obtain ⟨fa', fc', f1'⟩ := t2.form
    have hbw := HK.out
    have n1 : bs[k].n = bs[k].l.length := by
     simp only [Bn.v, Value.slice.injEq] at f1
     exact f1.2.1
    have n2 : bs'[k].n = bs'[k].l.length := by
     simp only [Bn.v, Value.slice.injEq] at f1'
     exact f1'.2.1
    simp only [Bn.v] at t1 t2
    rw [n1] at c2 t1
    rw [← e2.1] at c0' c1'
    rw [n2, ← e2.2] at c2' t2
    refine ⟨b, o, b', o', bs[k].x.1, bs[k].x.2, bs[k].a, bs[k].c, bs'[k].a, bs'[k].c, bs[k].l, e1, e1', fun u hu => ?_, fun u hu => ?_⟩
    ·have hw : Below w.heap.size w u := hbw.trans (hu.mono hbw.size)
     exact ⟨(hw.cell (p := ⟨b, o + k * 3, none⟩) hb).trans c0, (hw.cell (p := ⟨b, o + k * 3 + 1, none⟩) hb).trans c1, (hw.cell (p := ⟨b, o + k * 3 + 2, none⟩) hb).trans c2, (hw.cell (p := ⟨b', o' + k * 3, none⟩) hb').trans c0', (hw.cell (p := ⟨b', o' + k * 3 + 1, none⟩) hb').trans c1', (hw.cell (p := ⟨b', o' + k * 3 + 2, none⟩) hb').trans c2'⟩
    ·have hw : Below w.heap.size w u := hbw.trans (hu.mono hbw.size)
     refine (c13 bs[k].l bs[k].l _ _ u (t1.below hw) (t2.below hw)).mono ?_
     rintro e w' ⟨rfl, hb2⟩
     exact ⟨by rw [eqT_refl], hu.trans (hb2.mono hu.size)⟩
   go_wp2_with fail
   refine wp_region_noPanic ?_
   refine wp_region_held_drew (S := fun u => u.cell? ⟨b, o + k * 3, none⟩ = some (.int .i64 x1) ∧ u.cell? ⟨b, o + k * 3 + 1, none⟩ = some (.int .i64 x2) ∧ u.cell? ⟨b, o + k * 3 + 2, none⟩ = some (.slice la ll.length lc) ∧ u.cell? ⟨b', o' + k * 3, none⟩ = some (.int .i64 x1) ∧ u.cell? ⟨b', o' + k * 3 + 1, none⟩ = some (.int .i64 x2) ∧ u.cell? ⟨b', o' + k * 3 + 2, none⟩ = some (.slice la' ll.length lc')) (by kernel_rfl) (HC.out _ (Below.refl _ _).drew) (fun hHeld => ?_)
   (refine wpAnyH_take (i := 0) (v := ?_) (by simp only [qA, qB]; rfl) (by kernel_rfl) (by kernel_rfl) (by kernel_rfl) (fun _ _ _ h => h) (Or.inl ⟨by rfl, ?_⟩) (by assumption) ?_; rotate_left; (· (intro w hSw; (try dsimp only at hSw); go_simp <;> with_reducible rfl)); try simp only [Act.put, qD, qE, qF])
   (refine wpAnyH_take (i := 1) (v := ?_) (by simp only [qA, qB, qC]; rfl) (by kernel_rfl) (by kernel_rfl) (by kernel_rfl) (fun _ _ _ h => h) (Or.inl ⟨by rfl, ?_⟩) (by assumption) ?_; rotate_left; (· (intro w hSw; (try dsimp only at hSw); go_simp <;> with_reducible rfl)); try simp only [Act.put, qD, qE, qF])
   (refine wpAnyH_take (i := 2) (v := ?_) (by simp only [qA, qB, qC]; rfl) (by kernel_rfl) (by kernel_rfl) (by kernel_rfl) (fun _ _ _ h => h) (Or.inl ⟨by rfl, ?_⟩) (by assumption) ?_; rotate_left; (· (intro w hSw; (try dsimp only at hSw); go_simp <;> with_reducible rfl)); try simp only [Act.put, qD, qE, qF])
   (refine wpAnyH_take (i := 3) (v := ?_) (by simp only [qA, qB, qC]; rfl) (by kernel_rfl) (by kernel_rfl) (by kernel_rfl) (fun _ _ _ h => h) (Or.inl ⟨by rfl, ?_⟩) (by assumption) ?_; rotate_left; (· (intro w hSw; (try dsimp only at hSw); go_simp <;> with_reducible rfl)); try simp only [Act.put, qD, qE, qF])
   (refine wpAnyH_take (i := 4) (v := ?_) (by simp only [qA, qB, qC]; rfl) (by kernel_rfl) (by kernel_rfl) (by kernel_rfl) (fun _ _ _ h => h) (Or.inl ⟨by rfl, ?_⟩) (by assumption) ?_; rotate_left; (· (intro w hSw; (try dsimp only at hSw); go_simp <;> with_reducible rfl)); try simp only [Act.put, qD, qE, qF])
   (refine wpAnyH_take (i := 5) (v := ?_) (by simp only [qA, qB, qC]; rfl) (by kernel_rfl) (by kernel_rfl) (by kernel_rfl) (fun _ _ _ h => h) (Or.inl ⟨by rfl, ?_⟩) (by assumption) ?_; rotate_left; (· (intro w hSw; (try dsimp only at hSw); go_simp <;> with_reducible rfl)); try simp only [Act.put, qD, qE, qF])
   (refine wpAnyH_take (i := 6) (v := ?_) (by simp only [qA, qB, qC]; rfl) (by kernel_rfl) (by kernel_rfl) (by kernel_rfl) (fun _ _ _ h => h) (Or.inl ⟨by rfl, ?_⟩) (by assumption) ?_; rotate_left; (· (intro w hSw; (try dsimp only at hSw); go_simp <;> with_reducible rfl)); try simp only [Act.put, qD, qE, qF])
   (refine wpAnyH_take (i := 7) (v := ?_) (by simp only [qA, qB, qC]; rfl) (by kernel_rfl) (by kernel_rfl) (by kernel_rfl) (fun _ _ _ h => h) (Or.inl ⟨by rfl, ?_⟩) (by assumption) ?_; rotate_left; (· (intro w hSw; (try dsimp only at hSw); go_simp <;> with_reducible rfl)); try simp only [Act.put, qD, qE, qF])
   (refine wpAnyH_take (i := 8) (v := ?_) (by simp only [qA, qB, qC]; rfl) (by kernel_rfl) (by kernel_rfl) (by kernel_rfl) (fun _ _ _ h => h) (Or.inl ⟨by rfl, ?_⟩) (by assumption) ?_; rotate_left; (· (intro w hSw; (try dsimp only at hSw); go_simp <;> with_reducible rfl)); try simp only [Act.put, qD, qE, qF])
   (refine wpAnyH_take (i := 9) (v := ?_) (by simp only [qA, qB, qC]; rfl) (by kernel_rfl) (by kernel_rfl) (by kernel_rfl) (fun _ _ _ h => h) (Or.inl ⟨by rfl, ?_⟩) (by assumption) ?_; rotate_left; (· (intro w hSw; (try dsimp only at hSw); go_simp <;> with_reducible rfl)); try simp only [Act.put, qD, qE, qF])
   (refine wpAnyH_take (i := 10) (v := ?_) (by simp only [qA, qB, qC]; rfl) (by kernel_rfl) (by kernel_rfl) (by kernel_rfl) (fun _ _ _ h => h) (Or.inl ⟨by rfl, ?_⟩) (by assumption) ?_; rotate_left; (· (intro w hSw; (try dsimp only at hSw); go_simp <;> with_reducible rfl)); try simp only [Act.put, qD, qE, qF])
   (refine wpAnyH_take (i := 11) (v := ?_) (by simp only [qA, qB, qC]; rfl) (by kernel_rfl) (by kernel_rfl) (by kernel_rfl) (fun _ _ _ h => h) (Or.inl ⟨by rfl, ?_⟩) (by assumption) ?_; rotate_left; (· (intro w hSw; (try dsimp only at hSw); go_simp <;> with_reducible rfl)); try simp only [Act.put, qD, qE, qF])
   (refine wpAnyH_take (i := 12) (v := ?_) (by simp only [qA, qB, qC]; rfl) (by kernel_rfl) (by kernel_rfl) (by kernel_rfl) (fun _ _ _ h => h) (Or.inl ⟨by rfl, ?_⟩) (by assumption) ?_; rotate_left; (· (intro w hSw; (try dsimp only at hSw); go_simp <;> with_reducible rfl)); try simp only [Act.put, qD, qE, qF])
   (refine wpAnyH_take (i := 13) (v := ?_) (by simp only [qA, qB, qC]; rfl) (by kernel_rfl) (by kernel_rfl) (by kernel_rfl) (fun _ _ _ h => h) (Or.inl ⟨by rfl, ?_⟩) (by assumption) ?_; rotate_left; (· (intro w hSw; (try dsimp only at hSw); go_simp <;> with_reducible rfl)); try simp only [Act.put, qD, qE, qF])
   (refine wpAnyH_take (i := 14) (v := ?_) (by simp only [qA, qB, qC]; rfl) (by kernel_rfl) (by kernel_rfl) (by kernel_rfl) (fun _ _ _ h => h) (Or.inl ⟨by rfl, ?_⟩) (by assumption) ?_; rotate_left; (· (intro w hSw; (try dsimp only at hSw); go_simp <;> with_reducible rfl)); try simp only [Act.put, qD, qE, qF])
   (refine wpAnyH_take (i := 15) (v := ?_) (by simp only [qA, qB, qC]; rfl) (by kernel_rfl) (by kernel_rfl) (by kernel_rfl) (fun _ _ _ h => h) (Or.inl ⟨by rfl, ?_⟩) (by assumption) ?_; rotate_left; (· (intro w hSw; (try dsimp only at hSw); go_simp <;> with_reducible rfl)); try simp only [Act.put, qD, qE, qF])
   (refine wpAnyH_take (i := 16) (v := ?_) (by simp only [qA, qB, qC]; rfl) (by kernel_rfl) (by kernel_rfl) (by kernel_rfl) (fun _ _ _ h => h) (Or.inl ⟨by rfl, ?_⟩) (by assumption) ?_; rotate_left; (· (intro w hSw; (try dsimp only at hSw); go_simp <;> with_reducible rfl)); try simp only [Act.put, qD, qE, qF])
   (refine wpAnyH_take (i := 17) (v := ?_) (by simp only [qA, qB, qC]; rfl) (by kernel_rfl) (by kernel_rfl) (by kernel_rfl) (fun _ _ _ h => h) (Or.inl ⟨by rfl, ?_⟩) (by assumption) ?_; rotate_left; (· (intro w hSw; (try dsimp only at hSw); go_simp <;> with_reducible rfl)); try simp only [Act.put, qD, qE, qF])
   (refine wpAnyH_take (i := 18) (v := ?_) (by simp only [qA, qB, qC]; rfl) (by kernel_rfl) (by kernel_rfl) (by kernel_rfl) (fun _ _ _ h => h) (Or.inl ⟨by rfl, ?_⟩) (by assumption) ?_; rotate_left; (· (intro w hSw; (try dsimp only at hSw); go_simp <;> with_reducible rfl)); try simp only [Act.put, qD, qE, qF])
   (refine wpAnyH_take (i := 19) (v := ?_) (by simp only [qA, qB, qC]; rfl) (by kernel_rfl) (by kernel_rfl) (by kernel_rfl) (fun _ _ _ h => h) (Or.inl ⟨by rfl, ?_⟩) (by assumption) ?_; rotate_left; (· (intro w hSw; (try dsimp only at hSw); go_simp <;> with_reducible rfl)); try simp only [Act.put, qD, qE, qF])
   (refine wpAnyH_take (i := 20) (v := ?_) (by simp only [qA, qB, qC]; rfl) (by kernel_rfl) (by kernel_rfl) (by kernel_rfl) (fun _ _ _ h => h) (Or.inl ⟨by rfl, ?_⟩) (by assumption) ?_; rotate_left; (· (intro w hSw; (try dsimp only at hSw); go_simp <;> with_reducible rfl)); try simp only [Act.put, qD, qE, qF])
   (refine wpAnyH_take (i := 21) (v := ?_) (by simp only [qA, qB, qC]; rfl) (by kernel_rfl) (by kernel_rfl) (by kernel_rfl) (fun _ _ _ h => h) (Or.inl ⟨by rfl, ?_⟩) (by assumption) ?_; rotate_left; (· (intro w hSw; (try dsimp only at hSw); go_simp <;> with_reducible rfl)); try simp only [Act.put, qD, qE, qF])
   refine wpAnyH_ready (rs := [22]) (by kernel_rfl) (by simp) ?_
   refine AllReadyH.cons (by simp only [qA, qB, qC]; rfl) (fun K hK => ?_) AllReadyH.nil
   go_simp
   go_at_call 32
   refine (K15.out _ (by first | exact Below.refl _ _ | exact (Below.refl _ _).drew)).mono ?_
   rintro e w3 ⟨rfl, H3⟩
   refine hK.out _ _ ?_ (fun hHeld => ?_)
   ·exact HC.out w3 H3.out
   clear hK K
   try simp only [Act.put, qD, qE, qF]
   (refine wpAnyH_take (i := 23) (v := ?_) (by simp only [qA, qB, qC]; rfl) (by kernel_rfl) (by kernel_rfl) (by kernel_rfl) (fun _ _ _ h => h) (Or.inl ⟨by rfl, ?_⟩) (by assumption) ?_; rotate_left; (· (intro w hSw; (try dsimp only at hSw); go_simp <;> with_reducible rfl)); try simp only [Act.put, qD, qE, qF])
   (refine wpAnyH_take (i := 24) (v := ?_) (by simp only [qA, qB, qC]; rfl) (by kernel_rfl) (by kernel_rfl) (by kernel_rfl) (fun _ _ _ h => h) (Or.inl ⟨by rfl, ?_⟩) (by assumption) ?_; rotate_left; (· (intro w hSw; (try dsimp only at hSw); go_simp <;> with_reducible rfl)); try simp only [Act.put, qD, qE, qF])
   refine wpAnyH_done (by kernel_rfl) ?_ _
   refine NoPanic.normal ?_
   clear hHeld K15 HC
   have HE : Hid (Below w.heap.size w w3) := HK.out.trans (H3.out.mono HK.out.size)
   go_wp2_with fail
   go_roundw
   case rel => exact ⟨k + 1, by omega, by go_num, HE⟩
   case measure => simp [intOf]; omega
  ·have hltI : ¬ (k : Int) < (n : Int) := by omega
   go_wp2_with fail
   go_ret
   exact ⟨rfl, HK.out⟩
set_option maxRecDepth 100000 in
set_option maxHeartbeats 8000000 in
theorem t17 (a a' : Option Addr) (n c c' : Nat) (bs bs' : List Bn) (w : World) (h : Bs w a n bs) (h' : Bs w a' n bs') (ht : ∀ b ∈ bs, TermAt w b.v b.l) (ht' : ∀ b ∈ bs', TermAt w b.v b.l) (he : hpOf bs = hpOf bs') (hn : n ≤ 4000000000000) :
  Calls Tryz.prog 17 #[.slice a n c, .slice a' n c'] w fun e w' => e = .returned (.bool true) ∧ Below w.heap.size w w' := by
 have HH : Hid (Bs w a n bs ∧ Bs w a' n bs' ∧ (∀ b ∈ bs, TermAt w b.v b.l) ∧ (∀ b ∈ bs', TermAt w b.v b.l) ∧ hpOf bs = hpOf bs') := ⟨h, h', ht, ht', he⟩
 clear h h' ht ht' he
 go_enter Tryz.func17, Tryz.ntmps17
 go_wp2_with fail
 go_loopw [5] (fun i wr => ∃ k : Nat, k ≤ n ∧ i = .int .i64 k ∧ Hid (Below w.heap.size w wr)) (fun i _ => n - (intOf i).toNat)
 case atStart => exact ⟨0, Nat.zero_le _, rfl, Below.refl _ _⟩
 case round =>
  obtain ⟨k, hk, rfl, HK⟩ := hrel
  by_cases hlt : k < n
  ·have hltI : (k : Int) < (n : Int) := by omega
   have hk0 : (0 : Int) ≤ (k : Int) := by omega
   obtain ⟨b, o, b', o', x1, x2, la, lc, la', lc', ll, rfl, rfl, HC, K15⟩ : ∃ b o b' o' x1 x2 la lc la' lc' ll, a = some ⟨b, o, none⟩ ∧ a' = some ⟨b', o', none⟩ ∧ Hid (∀ u, Below wr.heap.size wr u → (fun u => u.cell? ⟨b, o + k * 3, none⟩ = some (.int .i64 x1) ∧ u.cell? ⟨b, o + k * 3 + 1, none⟩ = some (.int .i64 x2) ∧ u.cell? ⟨b, o + k * 3 + 2, none⟩ = some (.slice la ll.length lc) ∧ u.cell? ⟨b', o' + k * 3, none⟩ = some (.int .i64 x1) ∧ u.cell? ⟨b', o' + k * 3 + 1, none⟩ = some (.int .i64 x2) ∧ u.cell? ⟨b', o' + k * 3 + 2, none⟩ = some (.slice la' ll.length lc')) u) ∧ Hid (∀ u, Below wr.heap.size wr u → Calls Tryz.prog 54 #[.slice la (List.length (α := C) ll) lc, .slice la' ll.length lc'] u fun e w' => e = .returned (.bool true) ∧ Hid (Below wr.heap.size wr w')) := by
    obtain ⟨h1, h2, h3, h4, h5⟩ := HH.out
    obtain ⟨b, o, hx, e1, hb, c0, c1, c2⟩ := h1.at hlt
    obtain ⟨b', o', hx', e1', hb', c0', c1', c2'⟩ := h2.at hlt
    have t1 := h3 _ (List.getElem_mem hx)
    have t2 := h4 _ (List.getElem_mem hx')
    have e2 : (bs[k].x, bs[k].l) = (bs'[k].x, bs'[k].l) := by
     have := congrArg (fun l => l[k]?) h5
     simpa [hpOf, hx, hx'] using this
    simp only [Prod.mk.injEq] at e2
    obtain ⟨fa, fc, f1⟩ := t1.form
    obtain ⟨fa', fc', f1'⟩ := t2.form
    have hbw := HK.out
    have n1 : bs[k].n = bs[k].l.length := by
     simp only [Bn.v, Value.slice.injEq] at f1
     exact f1.2.1
    have n2 : bs'[k].n = bs'[k].l.length := by
     simp only [Bn.v, Value.slice.injEq] at f1'
     exact f1'.2.1
    simp only [Bn.v] at t1 t2
    rw [n1] at c2 t1
    rw [← e2.1] at c0' c1'
    rw [n2, ← e2.2] at c2' t2
    refine ⟨b, o, b', o', bs[k].x.1, bs[k].x.2, bs[k].a, bs[k].c, bs'[k].a, bs'[k].c, bs[k].l, e1, e1', fun u hu => ?_, fun u hu => ?_⟩
    ·have hw : Below w.heap.size w u := hbw.trans (hu.mono hbw.size)
     exact ⟨(hw.cell (p := ⟨b, o + k * 3, none⟩) hb).trans c0, (hw.cell (p := ⟨b, o + k * 3 + 1, none⟩) hb).trans c1, (hw.cell (p := ⟨b, o + k * 3 + 2, none⟩) hb).trans c2, (hw.cell (p := ⟨b', o' + k * 3, none⟩) hb').trans c0', (hw.cell (p := ⟨b', o' + k * 3 + 1, none⟩) hb').trans c1', (hw.cell (p := ⟨b', o' + k * 3 + 2, none⟩) hb').trans c2'⟩
    ·have hw : Below w.heap.size w u := hbw.trans (hu.mono hbw.size)
     refine (k52 bs[k].l bs[k].l _ _ u (t1.below hw) (t2.below hw)).mono ?_
     rintro e w' ⟨rfl, hb2⟩
     exact ⟨by rw [eqT_refl], hu.trans (hb2.mono hu.size)⟩
   go_wp2_with fail
   refine wp_region_noPanic ?_
   refine wp_region_held_drew (S := fun u => u.cell? ⟨b, o + k * 3, none⟩ = some (.int .i64 x1) ∧ u.cell? ⟨b, o + k * 3 + 1, none⟩ = some (.int .i64 x2) ∧ u.cell? ⟨b, o + k * 3 + 2, none⟩ = some (.slice la ll.length lc) ∧ u.cell? ⟨b', o' + k * 3, none⟩ = some (.int .i64 x1) ∧ u.cell? ⟨b', o' + k * 3 + 1, none⟩ = some (.int .i64 x2) ∧ u.cell? ⟨b', o' + k * 3 + 2, none⟩ = some (.slice la' ll.length lc')) (by kernel_rfl) (HC.out _ (Below.refl _ _).drew) (fun hHeld => ?_)
   (refine wpAnyH_take (i := 0) (v := ?_) (by simp only [qA, qB]; rfl) (by kernel_rfl) (by kernel_rfl) (by kernel_rfl) (fun _ _ _ h => h) (Or.inl ⟨by rfl, ?_⟩) (by assumption) ?_; rotate_left; (· (intro w hSw; (try dsimp only at hSw); go_simp <;> with_reducible rfl)); try simp only [Act.put, qD, qE, qF])
   (refine wpAnyH_take (i := 1) (v := ?_) (by simp only [qA, qB, qC]; rfl) (by kernel_rfl) (by kernel_rfl) (by kernel_rfl) (fun _ _ _ h => h) (Or.inl ⟨by rfl, ?_⟩) (by assumption) ?_; rotate_left; (· (intro w hSw; (try dsimp only at hSw); go_simp <;> with_reducible rfl)); try simp only [Act.put, qD, qE, qF])
   (refine wpAnyH_take (i := 2) (v := ?_) (by simp only [qA, qB, qC]; rfl) (by kernel_rfl) (by kernel_rfl) (by kernel_rfl) (fun _ _ _ h => h) (Or.inl ⟨by rfl, ?_⟩) (by assumption) ?_; rotate_left; (· (intro w hSw; (try dsimp only at hSw); go_simp <;> with_reducible rfl)); try simp only [Act.put, qD, qE, qF])
   (refine wpAnyH_take (i := 3) (v := ?_) (by simp only [qA, qB, qC]; rfl) (by kernel_rfl) (by kernel_rfl) (by kernel_rfl) (fun _ _ _ h => h) (Or.inl ⟨by rfl, ?_⟩) (by assumption) ?_; rotate_left; (· (intro w hSw; (try dsimp only at hSw); go_simp <;> with_reducible rfl)); try simp only [Act.put, qD, qE, qF])
   (refine wpAnyH_take (i := 4) (v := ?_) (by simp only [qA, qB, qC]; rfl) (by kernel_rfl) (by kernel_rfl) (by kernel_rfl) (fun _ _ _ h => h) (Or.inl ⟨by rfl, ?_⟩) (by assumption) ?_; rotate_left; (· (intro w hSw; (try dsimp only at hSw); go_simp <;> with_reducible rfl)); try simp only [Act.put, qD, qE, qF])
   (refine wpAnyH_take (i := 5) (v := ?_) (by simp only [qA, qB, qC]; rfl) (by kernel_rfl) (by kernel_rfl) (by kernel_rfl) (fun _ _ _ h => h) (Or.inl ⟨by rfl, ?_⟩) (by assumption) ?_; rotate_left; (· (intro w hSw; (try dsimp only at hSw); go_simp <;> with_reducible rfl)); try simp only [Act.put, qD, qE, qF])
   (refine wpAnyH_take (i := 6) (v := ?_) (by simp only [qA, qB, qC]; rfl) (by kernel_rfl) (by kernel_rfl) (by kernel_rfl) (fun _ _ _ h => h) (Or.inl ⟨by rfl, ?_⟩) (by assumption) ?_; rotate_left; (· (intro w hSw; (try dsimp only at hSw); go_simp <;> with_reducible rfl)); try simp only [Act.put, qD, qE, qF])
   (refine wpAnyH_take (i := 7) (v := ?_) (by simp only [qA, qB, qC]; rfl) (by kernel_rfl) (by kernel_rfl) (by kernel_rfl) (fun _ _ _ h => h) (Or.inl ⟨by rfl, ?_⟩) (by assumption) ?_; rotate_left; (· (intro w hSw; (try dsimp only at hSw); go_simp <;> with_reducible rfl)); try simp only [Act.put, qD, qE, qF])
   (refine wpAnyH_take (i := 8) (v := ?_) (by simp only [qA, qB, qC]; rfl) (by kernel_rfl) (by kernel_rfl) (by kernel_rfl) (fun _ _ _ h => h) (Or.inl ⟨by rfl, ?_⟩) (by assumption) ?_; rotate_left; (· (intro w hSw; (try dsimp only at hSw); go_simp <;> with_reducible rfl)); try simp only [Act.put, qD, qE, qF])
   (refine wpAnyH_take (i := 9) (v := ?_) (by simp only [qA, qB, qC]; rfl) (by kernel_rfl) (by kernel_rfl) (by kernel_rfl) (fun _ _ _ h => h) (Or.inl ⟨by rfl, ?_⟩) (by assumption) ?_; rotate_left; (· (intro w hSw; (try dsimp only at hSw); go_simp <;> with_reducible rfl)); try simp only [Act.put, qD, qE, qF])
   (refine wpAnyH_take (i := 10) (v := ?_) (by simp only [qA, qB, qC]; rfl) (by kernel_rfl) (by kernel_rfl) (by kernel_rfl) (fun _ _ _ h => h) (Or.inl ⟨by rfl, ?_⟩) (by assumption) ?_; rotate_left; (· (intro w hSw; (try dsimp only at hSw); go_simp <;> with_reducible rfl)); try simp only [Act.put, qD, qE, qF])
   (refine wpAnyH_take (i := 11) (v := ?_) (by simp only [qA, qB, qC]; rfl) (by kernel_rfl) (by kernel_rfl) (by kernel_rfl) (fun _ _ _ h => h) (Or.inl ⟨by rfl, ?_⟩) (by assumption) ?_; rotate_left; (· (intro w hSw; (try dsimp only at hSw); go_simp <;> with_reducible rfl)); try simp only [Act.put, qD, qE, qF])
   (refine wpAnyH_take (i := 12) (v := ?_) (by simp only [qA, qB, qC]; rfl) (by kernel_rfl) (by kernel_rfl) (by kernel_rfl) (fun _ _ _ h => h) (Or.inl ⟨by rfl, ?_⟩) (by assumption) ?_; rotate_left; (· (intro w hSw; (try dsimp only at hSw); go_simp <;> with_reducible rfl)); try simp only [Act.put, qD, qE, qF])
   (refine wpAnyH_take (i := 13) (v := ?_) (by simp only [qA, qB, qC]; rfl) (by kernel_rfl) (by kernel_rfl) (by kernel_rfl) (fun _ _ _ h => h) (Or.inl ⟨by rfl, ?_⟩) (by assumption) ?_; rotate_left; (· (intro w hSw; (try dsimp only at hSw); go_simp <;> with_reducible rfl)); try simp only [Act.put, qD, qE, qF])
   (refine wpAnyH_take (i := 14) (v := ?_) (by simp only [qA, qB, qC]; rfl) (by kernel_rfl) (by kernel_rfl) (by kernel_rfl) (fun _ _ _ h => h) (Or.inl ⟨by rfl, ?_⟩) (by assumption) ?_; rotate_left; (· (intro w hSw; (try dsimp only at hSw); go_simp <;> with_reducible rfl)); try simp only [Act.put, qD, qE, qF])
   (refine wpAnyH_take (i := 15) (v := ?_) (by simp only [qA, qB, qC]; rfl) (by kernel_rfl) (by kernel_rfl) (by kernel_rfl) (fun _ _ _ h => h) (Or.inl ⟨by rfl, ?_⟩) (by assumption) ?_; rotate_left; (· (intro w hSw; (try dsimp only at hSw); go_simp <;> with_reducible rfl)); try simp only [Act.put, qD, qE, qF])
   (refine wpAnyH_take (i := 16) (v := ?_) (by simp only [qA, qB, qC]; rfl) (by kernel_rfl) (by kernel_rfl) (by kernel_rfl) (fun _ _ _ h => h) (Or.inl ⟨by rfl, ?_⟩) (by assumption) ?_; rotate_left; (· (intro w hSw; (try dsimp only at hSw); go_simp <;> with_reducible rfl)); try simp only [Act.put, qD, qE, qF])
   (refine wpAnyH_take (i := 17) (v := ?_) (by simp only [qA, qB, qC]; rfl) (by kernel_rfl) (by kernel_rfl) (by kernel_rfl) (fun _ _ _ h => h) (Or.inl ⟨by rfl, ?_⟩) (by assumption) ?_; rotate_left; (· (intro w hSw; (try dsimp only at hSw); go_simp <;> with_reducible rfl)); try simp only [Act.put, qD, qE, qF])
   (refine wpAnyH_take (i := 18) (v := ?_) (by simp only [qA, qB, qC]; rfl) (by kernel_rfl) (by kernel_rfl) (by kernel_rfl) (fun _ _ _ h => h) (Or.inl ⟨by rfl, ?_⟩) (by assumption) ?_; rotate_left; (· (intro w hSw; (try dsimp only at hSw); go_simp <;> with_reducible rfl)); try simp only [Act.put, qD, qE, qF])
   (refine wpAnyH_take (i := 19) (v := ?_) (by simp only [qA, qB, qC]; rfl) (by kernel_rfl) (by kernel_rfl) (by kernel_rfl) (fun _ _ _ h => h) (Or.inl ⟨by rfl, ?_⟩) (by assumption) ?_; rotate_left; (· (intro w hSw; (try dsimp only at hSw); go_simp <;> with_reducible rfl)); try simp only [Act.put, qD, qE, qF])
   (refine wpAnyH_take (i := 20) (v := ?_) (by simp only [qA, qB, qC]; rfl) (by kernel_rfl) (by kernel_rfl) (by kernel_rfl) (fun _ _ _ h => h) (Or.inl ⟨by rfl, ?_⟩) (by assumption) ?_; rotate_left; (· (intro w hSw; (try dsimp only at hSw); go_simp <;> with_reducible rfl)); try simp only [Act.put, qD, qE, qF])
   (refine wpAnyH_take (i := 21) (v := ?_) (by simp only [qA, qB, qC]; rfl) (by kernel_rfl) (by kernel_rfl) (by kernel_rfl) (fun _ _ _ h => h) (Or.inl ⟨by rfl, ?_⟩) (by assumption) ?_; rotate_left; (· (intro w hSw; (try dsimp only at hSw); go_simp <;> with_reducible rfl)); try simp only [Act.put, qD, qE, qF])
   refine wpAnyH_ready (rs := [22]) (by kernel_rfl) (by simp) ?_
   refine AllReadyH.cons (by simp only [qA, qB, qC]; rfl) (fun K hK => ?_) AllReadyH.nil
   go_simp
   go_at_call 54
   refine (K15.out _ (by first | exact Below.refl _ _ | exact (Below.refl _ _).drew)).mono ?_
   rintro e w3 ⟨rfl, H3⟩
   refine hK.out _ _ ?_ (fun hHeld => ?_)
   ·exact HC.out w3 H3.out
   clear hK K
   try simp only [Act.put, qD, qE, qF]
   (refine wpAnyH_take (i := 23) (v := ?_) (by simp only [qA, qB, qC]; rfl) (by kernel_rfl) (by kernel_rfl) (by kernel_rfl) (fun _ _ _ h => h) (Or.inl ⟨by rfl, ?_⟩) (by assumption) ?_; rotate_left; (· (intro w hSw; (try dsimp only at hSw); go_simp <;> with_reducible rfl)); try simp only [Act.put, qD, qE, qF])
   (refine wpAnyH_take (i := 24) (v := ?_) (by simp only [qA, qB, qC]; rfl) (by kernel_rfl) (by kernel_rfl) (by kernel_rfl) (fun _ _ _ h => h) (Or.inl ⟨by rfl, ?_⟩) (by assumption) ?_; rotate_left; (· (intro w hSw; (try dsimp only at hSw); go_simp <;> with_reducible rfl)); try simp only [Act.put, qD, qE, qF])
   refine wpAnyH_done (by kernel_rfl) ?_ _
   refine NoPanic.normal ?_
   clear hHeld K15 HC
   have HE : Hid (Below w.heap.size w w3) := HK.out.trans (H3.out.mono HK.out.size)
   go_wp2_with fail
   go_roundw
   case rel => exact ⟨k + 1, by omega, by go_num, HE⟩
   case measure => simp [intOf]; omega
  ·have hltI : ¬ (k : Int) < (n : Int) := by omega
   go_wp2_with fail
   go_ret
   exact ⟨rfl, HK.out⟩
end Go.Proofs.YtljggjllijacjaaGreatDoor

namespace Go.Proofs.YtljggjllijacjaaGreatDoor
open Go.RowKit
attribute [local go_sem ↓] Go.wp_at_zero Go.wp_at_succ
/-- A row of terms, each in memory of its own, none of them in a book's rows. -/
structure TkR (w : World) (B : Nat) (vs : List Value) (us : List Value) (P : List (List C)) (pv : Value) : Prop where
 row : w.ownsRow B 24 1 pv P.length us
 el : ∀ (j : Nat) (v : Value) (x : List C), us[j]? = some v → P[j]? = some x → OwnT w B v x
 ap : Ap us
 apv : ∀ (j i : Nat) (v u : Value) (g : Nat), vs[j]? = some v → us[i]? = some u → u.ownBlock = some g → v.ownBlock ≠ some g
/-- What stays when rows are put into a book. -/
def Kb (b : Nat) (w w' : World) : Prop := w.heap.size ≤ w'.heap.size ∧ ∀ k, k < w.heap.size → k ≠ b → (∀ cu fr, w.heap[k]? ≠ some (Obj.cells cu 23 fr)) → w'.heap[k]? = w.heap[k]?
theorem Kb.refl (b : Nat) (w : World) : Kb b w w := ⟨Nat.le_refl _, fun _ _ _ _ => rfl⟩
theorem Kb.trans {b : Nat} {w w' w'' : World} (h : Kb b w w') (h' : Kb b w' w'') : Kb b w w'' :=
 ⟨Nat.le_trans h.1 h'.1, fun k h1 h2 h3 => (h'.2 k (Nat.lt_of_lt_of_le h1 h.1) h2 (fun cu fr e => h3 cu fr ((h.2 k h1 h2 h3).symm.trans e))).trans (h.2 k h1 h2 h3)⟩
theorem Kb.owns {b : Nat} {w w' : World} (h : Kb b w w') {cb : Array Value} (hb : Bk.BookAt w b cb) {B : Nat} {e : TypeId} {s n : Nat} {v : Value} {xs : List Value} (he : e ≠ 23) (he' : e ≠ 50) (ho : w.ownsRow B e s v n xs) : w'.ownsRow B e s v n xs := by
 refine Bk.owns_eq ho fun g hg => ?_
 obtain ⟨cu, fr, h4⟩ := Bk.owns_typed ho g hg
 refine h.2 g (ho.lt g hg).2 (fun e2 => ?_) (fun cu' fr' h5 => ?_)
 ·subst e2
  have hb' : w.heap[g]? = some (.cells cb 50 (0, 0)) := hb
  rw [hb'] at h4
  simp only [Option.some.injEq, Obj.cells.injEq] at h4
  exact he' h4.2.1.symm
 ·rw [h5] at h4
  simp only [Option.some.injEq, Obj.cells.injEq] at h4
  exact he h4.2.1.symm
theorem own_at {w : World} {n : Nat} {v : Value} {m : Nat} {us : List Value} (h1 : w.ownsRow n 24 1 v m us) (k : Nat) (hk : k < m) : ∃ g cap u, v = .slice (some ⟨g, 0, none⟩) m cap ∧ n ≤ g ∧ g < w.heap.size ∧ w.cell? ⟨g, k, none⟩ = some u ∧ us[k]? = some u := by
 have hul : us.length = m := by have := h1.1; omega
 rcases h1.2 with ⟨_, e⟩ | ⟨g, c, cur, e1, e2, e3, e4, e5, e6, e7⟩
 ·omega
 ·have hu : us[k]? = some us[k] := List.getElem?_eq_getElem (by omega)
  refine ⟨g, c, us[k], e1, e2, (Array.getElem?_eq_some_iff.1 e3).1, ?_, hu⟩
  have := range_of_owns' e3 e7 k _ hu
  simpa using this
/-- What TakeTerms leaves. -/
def Tks (B b : Nat) (vs : List Value) (ns : List Nat) (us : List Value) (P : List (List C)) (w w' : World) : Prop := ∃ nv', Bk.BkN w' B b nv' (vs ++ us) (ns ++ P.map List.length) ∧ Below B w w' ∧ Kb b w w'
set_option maxRecDepth 100000 in
set_option maxHeartbeats 4000000 in
theorem t14 (B b : Nat) (nv : Value) (vs us : List Value) (ns : List Nat) (P : List (List C)) (pa : Option Addr) (pn pc : Nat) (w : World) (h : Bk.BkN w B b nv vs ns) (hP : TkR w B vs us P (.slice pa pn pc)) (hn : (ns.length + P.length + 1) * 24 ≤ 140737488355328) :
  Calls Tryz.prog 14 #[.pointer (some ⟨b, 0, none⟩), .slice pa pn pc] w fun e w' => e = .returned (.tuple #[]) ∧ Tks B b vs ns us P w w' := by
 have hpn : P.length = pn := by
  obtain ⟨x, y, e⟩ := rowv_form' hP.row
  simp only [Value.slice.injEq] at e
  omega
 have HP : Hid (TkR w B vs us P (.slice pa pn pc) ∧ P.length = pn) := ⟨hP, hpn⟩
 have HB0 : Hid (Bk.BookAt w b (Bk.BkA nv)) := h.book
 have hus : us.length = pn := by have := hP.row.1; omega
 have HU : Hid (us.length = pn) := hus
 have HN : Hid ((ns.length + pn + 1) * 24 ≤ 140737488355328) := by rw [← hpn]; exact hn
 have H0 : Hid (∃ nv', Bk.BkN w B b nv' (vs ++ us.take 0) (ns ++ (P.take 0).map List.length) ∧ Below B w w ∧ Kb b w w) := ⟨nv, by simpa using h, Below.refl _ _, Kb.refl _ _⟩
 have hp63 : pn ≤ 9223372036854775807 := by omega
 clear h hP hpn hus hn
 go_enter Tryz.func14, Tryz.ntmps14
 go_wp2_with fail
 go_loopw [4] (fun i wr => ∃ k : Nat, k ≤ pn ∧ i = .int .i64 k ∧ Hid (∃ nv', Bk.BkN wr B b nv' (vs ++ us.take k) (ns ++ (P.take k).map List.length) ∧ Below B w wr ∧ Kb b w wr)) (fun i _ => pn - (intOf i).toNat)
 case atStart => exact ⟨0, Nat.zero_le _, rfl, H0⟩
 case round =>
  clear H0
  obtain ⟨k, hk, rfl, HK⟩ := hrel
  by_cases hlt : k < pn
  ·have hltI : (k : Int) < (pn : Int) := by omega
   have hk0 : (0 : Int) ≤ (k : Int) := by omega
   have hkP : k < P.length := by rw [HP.out.2]; exact hlt
   have hkU : k < us.length := by rw [HU.out]; exact hlt
   obtain ⟨nv', hBk, hbw, hkb⟩ := HK.out
   have hrow := hkb.owns HB0.out (by decide) (by decide) HP.out.1.row
   rw [HP.out.2] at hrow
   obtain ⟨g, cap, u, e1, hg0, hg1, cu, hu⟩ := own_at hrow k hlt
   have huk : us[k] = u := by
    rw [List.getElem?_eq_getElem hkU] at hu
    exact Option.some.inj hu
   have hoT : OwnT wr B u P[k] := hkb.owns HB0.out (by decide) (by decide) (HP.out.1.el k u _ hu (List.getElem?_eq_getElem hkP))
   obtain ⟨u1, u3, huf⟩ := ownT_form hoT
   obtain ⟨m, hm⟩ : ∃ m, P[k].length = m := ⟨_, rfl⟩
   rw [hm] at huf
   subst huf
   simp only [Value.slice.injEq] at e1
   obtain ⟨rfl, _, rfl⟩ := e1
   have H25 : Hid (Calls Tryz.prog 47 #[.pointer (some ⟨b, 0, none⟩), .slice u1 m u3] wr fun e w' => e = .returned (.tuple #[]) ∧ Bk.Tk B b (vs ++ us.take k) (ns ++ (P.take k).map List.length) u1 m u3 wr w') := by
    refine Bk.b25 B b nv' _ _ u1 m u3 P[k] wr hBk hm ⟨hoT, fun _ _ => rfl⟩ (fun j v g hv hg => ?_) ?_
    ·by_cases hj : j < vs.length
     ·rw [List.getElem?_append_left hj] at hv
      exact HP.out.1.apv j k v _ g hv hu hg
     ·rw [List.getElem?_append_right (by omega)] at hv
      have hjk : j - vs.length < k := by
       have := (List.getElem?_eq_some_iff.1 hv).1
       simp at this; omega
      rw [List.getElem?_take_of_lt hjk] at hv
      exact HP.out.1.ap k (j - vs.length) _ v g (by omega) hu hv hg
    ·have := HN.out
     have hkk : (ns ++ (P.take k).map List.length).length ≤ ns.length + pn := by
      simp; omega
     have h2 : ((ns ++ (P.take k).map List.length).length + 1) * 24 ≤ (ns.length + pn + 1) * 24 := Nat.mul_le_mul_right _ (by omega)
     exact Nat.le_trans h2 this
   have HX : Hid (Below B w wr ∧ Kb b w wr ∧ us.take (k + 1) = us.take k ++ [.slice u1 m u3] ∧ (P.take (k + 1)).map List.length = (P.take k).map List.length ++ [m]) := by
    refine ⟨hbw, hkb, ?_, ?_⟩
    ·rw [← huk, List.take_succ_eq_append_getElem hkU]
    ·rw [List.take_succ_eq_append_getElem hkP, List.map_append, ← hm]; rfl
   clear hBk hbw hkb hrow hu huk hoT hg0 hm hkP hkU
   go_wp2_with fail
   refine H25.out.mono ?_
   rintro e w3 ⟨rfl, h3⟩
   have HF : Hid (∃ nv', Bk.BkN w3 B b nv' (vs ++ us.take (k + 1)) (ns ++ (P.take (k + 1)).map List.length) ∧ Below B w w3 ∧ Kb b w w3) := by
    obtain ⟨nv2, k1, k2, k3⟩ := h3
    have hs : wr.heap.size ≤ w3.heap.size := k2.size
    refine ⟨nv2, ?_, HX.out.1.trans k2, HX.out.2.1.trans ⟨hs, k3⟩⟩
    rw [HX.out.2.2.1, HX.out.2.2.2, ← List.append_assoc, ← List.append_assoc]
    exact k1
   clear h3 H25 cu
   go_wp2_with fail
   go_roundw
   case rel => exact ⟨k + 1, by omega, by go_num, HF⟩
   case measure => simp [intOf]; omega
  ·have hltI : ¬ (k : Int) < (pn : Int) := by omega
   obtain rfl : k = pn := by omega
   have HE : Hid (Tks B b vs ns us P w wr) := by
    obtain ⟨nv', h1, h2, h3⟩ := HK.out
    have e1 : us.take k = us := List.take_of_length_le (by rw [HU.out]; exact Nat.le_refl _)
    have e2 : P.take k = P := List.take_of_length_le (by rw [HP.out.2]; exact Nat.le_refl _)
    rw [e1, e2] at h1
    exact ⟨nv', h1, h2, h3⟩
   clear HK
   go_wp2_with fail
   go_end0
   exact ⟨rfl, HE.out⟩
/-- A step's answer, with what is empty in it. -/
def StV (k : Int) (V : Nm) (T : List C) (P : List (List C)) (e : Ending) (w w' : World) : Prop := ∃ ta tn tc pa pn pc, e = .returned (.agg #[.int .u8 k, .int .i64 V.1, .int .i64 V.2, .slice ta tn tc, .slice pa pn pc]) ∧ OwnT w' w.heap.size (.slice ta tn tc) T ∧ OwnRow w' w.heap.size (.slice pa pn pc) P ∧ Below w.heap.size w w' ∧ (P = [] ∨ ta = none)
theorem stV_of {a b : List C} {e : Ending} {w w' : World} (h : StPost a b e w w') : StV (stK a b) (uV a b) (uT a b) (uP a b) e w w' := by
 obtain ⟨hb, h⟩ := h
 unfold uV uT uP
 rcases h with ⟨h1, h2⟩ | ⟨h1, h2⟩ | ⟨h1, ad, n, c, h2, h3⟩ | ⟨h1, ad, n, c, h2, h3⟩
 ·rw [h1, if_neg (by decide), if_neg (by decide), if_neg (by decide)]
  exact ⟨none, 0, 0, none, 0, 0, h2, World.ownsRow_nil _ _ _ _, ownRow_nil _ _, hb, .inl rfl⟩
 ·rw [h1, if_neg (by decide), if_neg (by decide), if_neg (by decide)]
  exact ⟨none, 0, 0, none, 0, 0, h2, World.ownsRow_nil _ _ _ _, ownRow_nil _ _, hb, .inl rfl⟩
 ·rw [h1, if_pos rfl, if_pos rfl, if_neg (by decide)]
  exact ⟨ad, n, c, none, 0, 0, h2, h3, ownRow_nil _ _, hb, .inl rfl⟩
 ·rw [h1, if_neg (by decide), if_neg (by decide), if_pos rfl]
  exact ⟨none, 0, 0, ad, n, c, h2, World.ownsRow_nil _ _ _ _, h3, hb, .inr rfl⟩
/-- Terms short enough, with short texts. -/
def Sht (l : List C) : Prop := l.length ≤ 256 ∧ ∀ c ∈ l, c.t.size ≤ maxLen
theorem sht_right {l : List C} (h : rightB l = true) : Sht l := ⟨(right_len h).2, (right_text h).2⟩
theorem sht_nil : Sht [] := ⟨by simp, by simp⟩
theorem stK_range (a b : List C) : 1 ≤ stK a b ∧ stK a b ≤ 4 := by
 unfold stK
 repeat' split
 all_goals decide
end Go.Proofs.YtljggjllijacjaaGreatDoor

namespace Go.Proofs.YtljggjllijacjaaGreatDoor
open Go.RowKit
attribute [local go_sem ↓] Go.wp_at_zero Go.wp_at_succ
/-- A block of five cells, and what stands in it. -/
def Fi (w : World) (g t : Nat) (a b c d e : Value) : Prop := w.heap[g]? = some (.cells #[a, b, c, d, e] t (0, 0))
theorem Fi.cells {w : World} {g t : Nat} {a b c d e : Value} (h : Fi w g t a b c d e) : (w.cell? ⟨g, 0, none⟩ = some a ∧ w.cell? ⟨g, 1, none⟩ = some b ∧ w.cell? ⟨g, 2, none⟩ = some c ∧ w.cell? ⟨g, 3, none⟩ = some d ∧ w.cell? ⟨g, 4, none⟩ = some e) ∧ g < w.heap.size := by
 have h' : w.heap[g]? = some (.cells #[a, b, c, d, e] t (0, 0)) := h
 refine ⟨⟨?_, ?_, ?_, ?_, ?_⟩, (Array.getElem?_eq_some_iff.1 h').1⟩ <;> (rw [cell_of_row w g _ _ t (0, 0) h']; rfl)
theorem Fi.below {w w' : World} {g t : Nat} {a b c d e : Value} (h : Fi w g t a b c d e) (hb : Below w.heap.size w w') : Fi w' g t a b c d e := by
 have h' : w.heap[g]? = some (.cells #[a, b, c, d, e] t (0, 0)) := h
 exact (hb.block g (Array.getElem?_eq_some_iff.1 h').1).trans h'
theorem Fi.new (w : World) (t : Nat) (a b c d e : Value) : Fi (w.alloc (.cells #[a, b, c, d, e] t)) w.heap.size t a b c d e := heap_alloc_new w _
end Go.Proofs.YtljggjllijacjaaGreatDoor
