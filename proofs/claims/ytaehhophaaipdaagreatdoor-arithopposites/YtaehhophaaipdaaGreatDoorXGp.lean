/- Contracts of the document's told, Is, kind. -/
import Derived.Test.YtaehhophaaipdaaGreatDoorGQp
import Derived.Test.YtaehhophaaipdaaGreatDoorQNp
namespace Go.Proofs.YtaehhophaaipdaaGreatDoor
open Go.RowKit
attribute [local go_sem ↓] Go.wp_at_zero Go.wp_at_succ
/-- Deref of the document, of any term. -/
def DerG (w0 : World) (p : Option Addr) (m : Hp) : Prop := ∀ (W : World) (t : List C) (v : Value), Below w0.heap.size w0 W → TermAt W v t → (∀ c ∈ t, wfN (c.vn, c.vk)) → t ≠ [] → Calls Tryz.prog 26 #[.pointer p, v] W fun e w' => ∃ a n cp l', e = .returned (.slice a n cp) ∧ Hid (IsFol m t l' ∧ TermAt w' (.slice a n cp) l' ∧ Below W.heap.size W w')
theorem derG_rf {w0 : World} {G : Nat → Prop} {rt : Nat} {bs : List Bn} (h : RfH w0 G rt bs) (hup : RisesH (hpOf bs)) (hD : DescH (hpOf bs)) (hwf : ∀ x l, lookH (hpOf bs) x = some l → wfN x ∧ ∀ c ∈ l, wfN (c.vn, c.vk)) (hn : bs.length ≤ 3518437208780) : DerG w0 (some ⟨rt, 0, none⟩) (hpOf bs) := fun W t v hb hT hW hne => by
  refine (z15 G rt bs t v W (h.below hb) hup hD hwf hn hT hW hne).mono ?_
  rintro e w' ⟨a, k, cp, l', rfl, H⟩
  obtain ⟨h1, rfl, h3, h4⟩ := H.out
  exact ⟨a, _, cp, l', rfl, h3, h1.below h4, h4⟩
/-- Deref, its first cell told. -/
theorem der_head {w0 : World} {p : Option Addr} {m : Hp} (hD : DerG w0 p m) {t : List C} {e : C} {r : List C} (hf : IsFol m t (e :: r)) {v : Value} {W : World} (hb : Below w0.heap.size w0 W) (hT : TermAt W v t) (hW : ∀ c ∈ t, wfN (c.vn, c.vk)) (hne : t ≠ []) :
    Calls Tryz.prog 26 #[.pointer p, v] W fun x w' => ∃ b o cp, x = .returned (.slice (some ⟨b, o, none⟩) (r.length + 1) cp) ∧ r.length + 1 ≤ cp ∧ Hid ((∀ w2, Below w'.heap.size w' w2 → w2.cell? ⟨b, o, none⟩ = some (.int .u8 e.k) ∧ w2.cell? ⟨b, o + 1, none⟩ = some (.string e.t) ∧ w2.cell? ⟨b, o + 2, none⟩ = some (.int .i64 e.n) ∧ w2.cell? ⟨b, o + 3, none⟩ = some (.int .i64 e.vn) ∧ w2.cell? ⟨b, o + 4, none⟩ = some (.int .i64 e.vk)) ∧ Below W.heap.size W w') := by
  refine (hD W t v hb hT hW hne).mono ?_
  rintro x w' ⟨a, n, cp, l', rfl, H⟩
  obtain ⟨h1, h2, h3⟩ := H.out
  have e1 := h1.uniq hf
  subst e1
  obtain ⟨b, o, cap, e2, e3, HC⟩ := head_cells h2
  simp only [Value.slice.injEq] at e2
  obtain ⟨rfl, rfl, rfl⟩ := e2
  exact ⟨b, o, _, rfl, e3, HC.out, h3⟩
end Go.Proofs.YtaehhophaaipdaaGreatDoor
