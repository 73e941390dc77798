/- Contract of 'both': values bound by the program and by the document. 'both': what a round does, step by step. Contract of Chain: a term, and all that it leads to. -/
import Derived.Test.YtljggjllijacjaaGreatDoorIDh
import Derived.Deep.Upon
namespace Go.Proofs.YtljggjllijacjaaGreatDoor
open Go.RowKit
attribute [local go_sem ↓] Go.wp_at_zero Go.wp_at_succ
theorem i24 (G : Nat → Prop) (rt : Nat) (bs : List Bn) (x : Nm) (l : List C) (v : Value) (w : World) (h : RfH w G rt bs) (hT : TermAt w v l) (hby : l.length * 48 ≤ 140737488355328) (hn : bs.length ≤ 3518437208780) :
    Calls Tryz.prog 35 #[.pointer (some ⟨rt, 0, none⟩), .agg #[.int .i64 x.1, .int .i64 x.2], v] w fun e w' => e = .returned (.int .i64 (bindE (hpOf bs) x l)) ∧ BindR w G rt bs x l w' := by
  by_cases he : x.1 < 0 ∨ oneT ⟨4, ⟨#[]⟩, 0, x.1, x.2⟩ = [] ∨ globalB l = false
  · exact i24_six G rt bs x l v w h hT hby hn he
  · cases h70 : hasB bs x
    · cases hv : isVarL l
      · exact i24_not G rt bs x l v w h hT hby hn he h70 hv
      · cases hl : lessN (varL l) x
        · exact i24_71 G rt bs x l v w h hT hby hn he h70 ⟨hv, hl⟩
        · exact i24_var G rt bs x l v w h hT hby hn he h70 (fun _ => hl) hv
    · exact i24_70 G rt bs x l v w h hT hby hn he h70
section
variable {P : Program}
end
theorem HpAt.keeps {w w' : World} {hb M n : Nat} {D : DataW Value} {m : Hp} {V : Nat → Prop} (h : HpAt w hb M n D m) (hV : VB D V) (h1 : w'.heap[hb]? = w.heap[hb]?) (h2 : w'.heap[M]? = w.heap[M]?) (h3 : ∀ g, V g → w'.heap[g]? = w.heap[g]?) : HpAt w' hb M n D m := by
  refine ⟨h1.trans h.blk, ?_, h.no, fun x l hx hl => ?_, h.desc, h.wf⟩
  · obtain ⟨es, ck, k1, k2⟩ := h.map
    exact ⟨es, ck, h2.trans k1, k2⟩
  · obtain ⟨v, k1, k2⟩ := h.yes x l hx hl
    exact ⟨v, k1, k2.keeps fun g hg => h3 g (hV x v hx k1 g hg)⟩
/-- Bindings that are handed in. -/
structure BdRow (w : World) (a : Option Addr) (n : Nat) (bs : List Bn) : Prop where
  row : Bs w a n bs
  el : ∀ b ∈ bs, TermAt w b.v b.l ∧ wfN b.x ∧ (∀ c ∈ b.l, wfN (c.vn, c.vk)) ∧ b.l.length * 48 ≤ 140737488355328
end Go.Proofs.YtljggjllijacjaaGreatDoor

namespace Go.Proofs.YtljggjllijacjaaGreatDoor
open Go.RowKit
theorem vb_cut {w : World} {hb M n : Nat} {D : DataW Value} {m : Hp} {V : Nat → Prop} (h : HpAt w hb M n D m) (hm : ∀ x l, lookH m x = some l → l ≠ []) (hV : VB D V) : VB D (fun g => V g ∧ g < w.heap.size) := by
  intro x v hx hv g hg
  refine ⟨hV x v hx hv g hg, ?_⟩
  have hh := Maps.has_true_of_atKey hv
  cases e : lookH m x with
  | none => rw [h.no x hx e] at hh; cases hh
  | some l =>
    obtain ⟨v', k1, k2⟩ := h.yes x l hx e
    have e1 := (hv (.held (.bool true))).symm.trans (k1 (.held (.bool true)))
    cases e1
    exact k2.lt (hm x l e) hg
section
variable {wB u u' : World} {hb M rt kk lo hi : Nat} {m : Hp} {G : Nat → Prop} {bs : List Bn} {l : List C} {ta : Option Addr} {tc : Nat}
theorem len_bind {x : Nm} (h : ∀ x l, lookH m x = some l → l.length * 48 ≤ 140737488355328 ∧ l ≠ [] ∧ rightB l = true) (hl : l.length * 48 ≤ 140737488355328) : ∀ y l', lookH (bindH m x l) y = some l' → l'.length * 48 ≤ 140737488355328 ∧ l' ≠ [] ∧ rightB l' = true := fun y l' hy => by
  unfold bindH at hy
  split at hy
  · next e =>
    rw [look_ins m x y l (bind_zero e)] at hy
    split at hy
    · cases hy
      unfold bindE at e
      split at e
      · cases e
      · next e3 =>
        have hg : globalB l = true := by
          cases e4 : globalB l
          · exact absurd (.inr (.inr e4)) e3
          · rfl
        unfold globalB at hg
        simp only [Bool.and_eq_true] at hg
        refine ⟨hl, fun e2 => ?_, hg.2⟩
        have := (right_len hg.2).1
        rw [e2] at this
        simp at this
    · exact h y l' hy
  · exact h y l' hy
end
end Go.Proofs.YtljggjllijacjaaGreatDoor

namespace Go.Proofs.YtljggjllijacjaaGreatDoor
open Go.RowKit
attribute [local go_sem ↓] Go.wp_at_zero Go.wp_at_succ
theorem infoT : ∃ i, Tryz.prog.info? 24 = some i ∧ i.zero = some (.slice none 0 0) ∧ i.size = 1 ∧ i.bytes = 24 := by
  have h : (Tryz.prog.info? 24).map (fun i => (i.zero, i.size, i.bytes)) = some (some (.slice none 0 0), 1, 24) := by kernel_rfl
  cases hq : Tryz.prog.info? 24 with
  | none => rw [hq] at h; cases h
  | some i =>
    rw [hq] at h
    simp only [Option.map_some, Option.some.injEq, Prod.mk.injEq] at h
    exact ⟨i, rfl, h.1, h.2.1, h.2.2⟩
end Go.Proofs.YtljggjllijacjaaGreatDoor
