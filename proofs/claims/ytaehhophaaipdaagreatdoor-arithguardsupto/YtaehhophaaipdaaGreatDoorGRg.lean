/- The closures of the tests, whichever. What the closure behind equal and unlike tells is what the plain side says. -/
import Derived.Test.YtaehhophaaipdaaGreatDoorGDbg
import Derived.Test.YtaehhophaaipdaaGreatDoorGLg
namespace Go.Proofs.YtaehhophaaipdaaGreatDoor
open Go.RowKit
theorem z142 (k : Nat) (h1 : 1 ≤ k) (h6 : k ≤ 6) (m : Hp) (w0 : World) (lb : Nat) (p : Value) (B g d : Nat) (hC : SumC m w0 lb p B g d) (c : C) (t : List C) (names : List Nm) (nums : List Int) (o : Int) (rest : List C) (names' : List Nm) (K : Nat) (v : Value) (w : World) (bl bf : Nat) (hs : Sms m d 2 t names [] 1 nums o rest names') (h2 : o = 1 → ∃ x y, nums = [x, y]) (hb : Below w0.heap.size w0 w) (hL : Lk w w0.heap.size lb p B g names K) (hT : TermAt w0 v (c :: t)) (hW : ∀ x ∈ t, wfN (x.vn, x.vk)) (hK : K + t.length < 999999999) (hbl : w.heap[bl]? = some (.cells #[pv lb] 78 (0, 0))) (hbf : w.heap[bf]? = some (.cells #[.func (Fn.func (108 + k)) #[] #[]] 145 (0, 0))) :
  Calls Tryz.prog 142 #[v, pv bl, pv bf] w (GdPost w0 lb p B g (cmpO k nums o) names' (K + t.length) w) := by
 have hk : k = 1 ∨ k = 2 ∨ k = 3 ∨ k = 4 ∨ k = 5 ∨ k = 6 := by omega
 rcases hk with rfl | rfl | rfl | rfl | rfl | rfl
 ·exact z142_1 m w0 lb p B g d hC c t names nums o rest names' K v w bl bf hs h2 hb hL hT hW hK hbl hbf
 ·exact z142_2 m w0 lb p B g d hC c t names nums o rest names' K v w bl bf hs h2 hb hL hT hW hK hbl hbf
 ·exact z142_3 m w0 lb p B g d hC c t names nums o rest names' K v w bl bf hs h2 hb hL hT hW hK hbl hbf
 ·exact z142_4 m w0 lb p B g d hC c t names nums o rest names' K v w bl bf hs h2 hb hL hT hW hK hbl hbf
 ·exact z142_5 m w0 lb p B g d hC c t names nums o rest names' K v w bl bf hs h2 hb hL hT hW hK hbl hbf
 ·exact z142_6 m w0 lb p B g d hC c t names nums o rest names' K v w bl bf hs h2 hb hL hT hW hK hbl hbf
theorem z144 (k : Nat) (h7 : 7 ≤ k) (h10 : k ≤ 10) (m : Hp) (hm : HpOk m) (w0 : World) (lb : Nat) (p : Option Addr) (B g : Nat) (hp : HpV w0 (.pointer p) m) (c : C) (t : List C) (e : C) (r : List C) (names : List Nm) (K : Nat) (v : Value) (w : World) (bl bf : Nat) (hf : IsFol m t (e :: r)) (hb : Below w0.heap.size w0 w) (hL : Lk w w0.heap.size lb (.pointer p) B g names K) (hT : TermAt w0 v (c :: t)) (hW : ∀ x ∈ t, wfN (x.vn, x.vk)) (ht : t.length * 48 ≤ 140737488355328) (hwe : wfN (e.vn, e.vk)) (hK : K < 999999999) (hbl : w.heap[bl]? = some (.cells #[pv lb] 78 (0, 0))) (hbf : w.heap[bf]? = some (.cells #[.func (Fn.func (109 + k)) #[] #[]] 147 (0, 0))) :
  Calls Tryz.prog 144 #[v, pv bl, pv bf] w (GdPost w0 lb (.pointer p) B g (askO k e) (askN e names) (K + 1) w) := by
 have hk : k = 7 ∨ k = 8 ∨ k = 9 ∨ k = 10 := by omega
 rcases hk with rfl | rfl | rfl | rfl
 ·exact z144_7 m hm w0 lb p B g hp c t e r names K v w bl bf hf hb hL hT hW ht hwe hK hbl hbf
 ·exact z144_8 m hm w0 lb p B g hp c t e r names K v w bl bf hf hb hL hT hW ht hwe hK hbl hbf
 ·exact z144_9 m hm w0 lb p B g hp c t e r names K v w bl bf hf hb hL hT hW ht hwe hK hbl hbf
 ·exact z144_10 m hm w0 lb p B g hp c t e r names K v w bl bf hf hb hL hT hW ht hwe hK hbl hbf
end Go.Proofs.YtaehhophaaipdaaGreatDoor

namespace Go.Proofs.YtaehhophaaipdaaGreatDoor
open Go.RowKit
theorem wN_both (c : C) (names : List Nm) : wN c names = bothN names (varN c) := by
 unfold wN varN
 split <;> rfl
theorem lik_same (k : Nat) (e f : C) (names : List Nm) : likPO k e f = (likR k e f).1 ∧ ((likR k e f).1 ≠ 2 → likPN k e f names = bothN names (likR k e f).2) := by
 unfold likPO likPN likR
 by_cases h : e.k = 4 ∧ eqC e f = true
 ·rw [if_pos h, if_pos h, if_pos h]
  by_cases hk : k = 11
  ·rw [if_pos hk, if_pos hk, if_pos hk]
   exact ⟨rfl, fun _ => rfl⟩
  ·rw [if_neg hk, if_neg hk, if_neg hk]
   exact ⟨rfl, fun h => absurd rfl h⟩
 ·rw [if_neg h, if_neg h, if_neg h]
  have e1 : wN f (wN e names) = bothN names (bothN (varN e) (varN f)) := by rw [wN_both, wN_both, both_assoc]
  rw [e1]
  by_cases hv : e.k = 4 ∨ f.k = 4
  ·have hne : bothN (varN e) (varN f) ≠ [] := by
    rcases hv with hv | hv
    ·exact both_ne _ _ (by unfold varN; rw [if_pos hv]; simp)
    ·exact both_ne2 _ _ (by unfold varN; rw [if_pos hv]; simp)
   rw [if_pos hv, if_neg hne]
   exact ⟨rfl, fun _ => rfl⟩
  ·have h1 : varN e = [] := by unfold varN; rw [if_neg (fun h => hv (.inl h))]
   have h2 : varN f = [] := by unfold varN; rw [if_neg (fun h => hv (.inr h))]
   rw [h1, h2, if_neg hv, if_pos (show bothN [] [] = [] from rfl)]
   exact ⟨rfl, fun _ => rfl⟩
theorem ask_same (k : Nat) (e : C) (names : List Nm) : askO k e = (askR k e).1 ∧ askN e names = bothN names (askR k e).2 := by
 unfold askO askN askR
 split <;> exact ⟨rfl, rfl⟩
theorem cmp_same (k : Nat) (rs : List V3) (nums : List Int) (o : Int) (names names' : List Nm) (h1 : failsR rs = true → o = 2) (h2 : failsR rs = false → names' = waitsF names rs ∧ nums = rs.map (·.1) ∧ o = if waitsF [] rs = [] then 1 else 3) : cmpO k nums o = (cmpR k rs).1 ∧ ((cmpR k rs).1 ≠ 2 → names' = bothN names (cmpR k rs).2) := by
 unfold cmpO cmpR
 cases hf : failsR rs
 ·obtain ⟨e1, e2, e3⟩ := h2 hf
  simp only [Bool.false_eq_true, if_false]
  by_cases hw : waitsF [] rs = []
  ·rw [if_pos hw] at e3
   rw [if_pos hw, e3, if_pos rfl, e2]
   refine ⟨rfl, fun _ => ?_⟩
   rw [e1, waits_of, hw]
  ·rw [if_neg hw] at e3
   rw [if_neg hw, e3, if_neg (by decide)]
   exact ⟨rfl, fun _ => by rw [e1, waits_of]⟩
 ·rw [h1 hf]
  exact ⟨rfl, fun h => absurd rfl h⟩
end Go.Proofs.YtaehhophaaipdaaGreatDoor
