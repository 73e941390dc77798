/- What NetOwn asks: plain sides. -/
import Derived.Test.YthpbfaddojcohaaBG
import Derived.Test.YthpbfaddojcohaaBH
import Derived.Test.YthpbfaddojcohaaNR
namespace Go.Proofs.Ythpbfaddojcohaa
open Go.RowKit
theorem BkS.below {w w' : World} {B b : Nat} {bv iv : Value} {nb ni : Nat} {vb vi : List Value} (h : BkS w B b bv iv nb ni vb vi) (hb : Below w.heap.size w w') : BkS w' B b bv iv nb ni vb vi :=
  ⟨(hb.block b (Array.getElem?_eq_some_iff.1 h.book).1).trans h.book, h.hb, owns_below h.rb hb, owns_below h.ri hb⟩
theorem ownL_kt {w w' : World} {B : Nat} {l : List Dg} {cs : List Dc} (h : OwnL w B l cs) (hk : KT w w') : OwnL w' B l cs :=
  ⟨h.1, fun i d x h1 h2 => ⟨(h.2 i d x h1 h2).1, hk.owns (by decide) (h.2 i d x h1 h2).2⟩⟩
/-- A datagram whose bytes are the caller's own. -/
def DOK (w : World) (B : Nat) (d : Dg) : Prop := ∃ xs : List Int, xs.length = d.bn ∧ OwnB w B d.ba d.bn d.bc xs
theorem dok_of {w : World} {A B : Nat} {l : List Dg} {cs : List Dc} (h : OwnL w A l cs) (hAB : B ≤ A) : ∀ d ∈ l, DOK w B d := by
  intro d hd
  obtain ⟨i, hi, e⟩ := List.getElem_of_mem hd
  have h1 : l[i]? = some d := by rw [List.getElem?_eq_getElem hi, e]
  have hic : i < cs.length := by rw [← h.1]; exact hi
  have h2 := h.2 i d cs[i] h1 (List.getElem?_eq_getElem hic)
  exact ⟨cs[i].xs, h2.1.2.2.2.2.symm, owns_less hAB h2.2⟩
theorem own_low {w : World} {A : Nat} {l : List Dg} {cs : List Dc} (h : OwnL w A l cs) : ∀ (i : Nat) (d : Dg) (g : Nat), l[i]? = some d → (slD d).ownBlock = some g → A ≤ g ∧ g < w.heap.size := by
  intro i d g h1 hg
  have hic : i < cs.length := by rw [← h.1]; exact (List.getElem?_eq_some_iff.1 h1).1
  exact owns_lt (h.2 i d cs[i] h1 (List.getElem?_eq_getElem hic)).2 hg
theorem ApL.append {l l' : List Dg} (h : ApL l) (h' : ApL l') (M : Nat) (h1 : ∀ (i : Nat) (d : Dg) (g : Nat), l[i]? = some d → (slD d).ownBlock = some g → g < M) (h2 : ∀ (i : Nat) (d : Dg) (g : Nat), l'[i]? = some d → (slD d).ownBlock = some g → M ≤ g) : ApL (l ++ l') := by
  have hget : ∀ (j : Nat) (u : Dg), (l ++ l')[j]? = some u → (j < l.length ∧ l[j]? = some u) ∨ (l.length ≤ j ∧ l'[j - l.length]? = some u) := by
    intro j u hu
    by_cases hj : j < l.length
    · rw [List.getElem?_append_left hj] at hu
      exact .inl ⟨hj, hu⟩
    · rw [List.getElem?_append_right (by omega)] at hu
      exact .inr ⟨by omega, hu⟩
  intro i j d d' g hne hd hd' hg hg'
  rcases hget i d hd with ⟨_, hi⟩ | ⟨hi0, hi⟩
  · rcases hget j d' hd' with ⟨_, hj⟩ | ⟨_, hj⟩
    · exact h i j d d' g hne hi hj hg hg'
    · have := h1 i d g hi hg
      have := h2 _ d' g hj hg'
      omega
  · rcases hget j d' hd' with ⟨_, hj⟩ | ⟨hj0, hj⟩
    · have := h1 j d' g hj hg'
      have := h2 _ d g hi hg
      omega
    · exact h' _ _ d d' g (by omega) hi hj hg hg'
theorem P1.make {e se : TypeId} {ik : IntKind} {mk : Nat → Int} {bk : Array Value} {w : World} {B b : Nat} {iv : Value} {vs : List Value} {ns : List Nat} (hne : e ≠ se ∧ e ≠ 64 ∧ se ≠ 64) (book : BookAt w b bk) (hb : B ≤ b) (row : w.ownsRow B se 1 iv ns.length vs)
    (hz : ∀ (j : Nat) (v : Value) (n : Nat), vs[j]? = some v → ns[j]? = some n → ∃ zs : List Int, zs.length = n ∧ OwnZ w B e ik v zs)
    (apart : ∀ (j j' : Nat) (v v' : Value) (g : Nat), j ≠ j' → vs[j]? = some v → vs[j']? = some v' → v.ownBlock = some g → v'.ownBlock ≠ some g) : P1 e se ik mk bk w B b iv vs ns 0 0 :=
  ⟨hne, book, hb, row, fun j v n hj => by omega, fun v n hv hn => by obtain ⟨zs, h1, h2⟩ := hz 0 v n hv hn; exact ⟨zs, by omega, by simpa using h2⟩, fun j v n _ hv hn => hz j v n hv hn, apart⟩
theorem bytesP1 {w : World} {b : Nat} {bv iv : Value} {nb ni : Nat} {vi : List Value} {L : List Dg} (h : BkS w b b bv iv nb ni (L.map slV) vi) (hn : nb = L.length) (hd : ∀ d ∈ L, DOK w b d) (ha : ApL L) : P1 5 44 .u8 mkB (Bk bv iv) w b b bv (L.map slV) (L.map (·.bn)) 0 0 := by
  refine P1.make (by decide) h.book h.hb (by rw [List.length_map, ← hn]; exact h.rb) ?_ ?_
  · intro j v n hv hn
    rw [List.getElem?_map, Option.map_eq_some_iff] at hv hn
    obtain ⟨d, e1, rfl⟩ := hv
    obtain ⟨d', e2, rfl⟩ := hn
    rw [e1] at e2; cases e2
    obtain ⟨xs, h1, h2⟩ := hd d (List.mem_of_getElem? e1)
    refine ⟨xs, h1, ?_, fun _ _ => rfl⟩
    rw [h1]
    exact h2
  · intro j j' v v' g hne hv hv' hg
    rw [List.getElem?_map, Option.map_eq_some_iff] at hv hv'
    obtain ⟨d, e1, rfl⟩ := hv
    obtain ⟨d', e2, rfl⟩ := hv'
    exact ha j j' d d' g hne e1 e2 hg
theorem bound1 {a m : Nat} (h : (m + m + 1) * 24 ≤ 140737488355328) (ha : a = m) : (0 + a + 1) * 24 ≤ 140737488355328 := Nat.le_trans (Nat.mul_le_mul_right 24 (by omega)) h
theorem bound2 {a b m : Nat} (h : (m + m + 1) * 24 ≤ 140737488355328) (ha : a = m) (hb : b = m) : (0 + a + b + 1) * 24 ≤ 140737488355328 := Nat.le_trans (Nat.mul_le_mul_right 24 (by omega)) h
theorem bound3 {a b m : Nat} (h : (m + m + 1) * 24 ≤ 140737488355328) (ha : a = m) (hb : b = m) : (a + b) * 24 ≤ 140737488355328 := by subst ha hb; omega
theorem bound4 {a m : Nat} (h : m * 56 ≤ 140737488355328) (ha : a ≤ m) : a ≤ 10000000000000 := by omega
theorem bound5 {m : Nat} (h : m * 56 ≤ 140737488355328) : m ≤ maxLen := by unfold maxLen; omega
def toZ (nd : Int) (xs : List (Nat × Dg)) : List Int := (xs.filter fun x => x.2.to == nd).map fun x => (x.1 : Int)
theorem toP_eq (nd : Int) (xs : List (Nat × Dg)) : toP nd xs = (toZ nd xs).map (Value.int .i64) := by simp [toP, toZ]
theorem toZ_length (nd : Int) (xs : List (Nat × Dg)) : (toZ nd xs).length ≤ xs.length := by simpa [toZ] using List.length_filter_le _ _
theorem ownZ_to {w : World} {A B : Nat} {u : Value} {nd : Int} {xs : List (Nat × Dg)} (h : w.ownsRow A 3 1 u (toP nd xs).length (toP nd xs)) (hAB : B ≤ A) : OwnZ w B 3 .i64 u (toZ nd xs) := by
  refine ⟨?_, fun _ _ => rfl⟩
  have h1 := owns_less hAB h
  rw [toP_eq, List.length_map] at h1
  exact h1
theorem intsP1 {w : World} {b : Nat} {bv iv : Value} {nb : Nat} {vb : List Value} {u u' : Value} {zs : List Int} (M : Nat) (h : BkS w b b bv iv nb 2 vb [u, u']) (h1 : OwnZ w b 3 .i64 u zs) (h2 : OwnZ w b 3 .i64 u' zs) (ha : ∀ g, u.ownBlock = some g → g < M) (hb : ∀ g, u'.ownBlock = some g → M ≤ g) : P1 3 67 .i64 mkI (Bk bv iv) w b b iv [u, u'] [zs.length, zs.length] 0 0 := by
  refine P1.make (by decide) h.book h.hb h.ri ?_ ?_
  · intro j v n hv hn
    match j, hv, hn with
    | 0, hv, hn => simp at hv hn; subst hv hn; exact ⟨zs, rfl, h1⟩
    | 1, hv, hn => simp at hv hn; subst hv hn; exact ⟨zs, rfl, h2⟩
  · intro j j' v v' g hne hv hv' hg hg'
    match j, j', hne, hv, hv' with
    | 0, 0, hne, _, _ => exact hne rfl
    | 1, 1, hne, _, _ => exact hne rfl
    | 0, 1, _, hv, hv' => simp at hv hv'; subst hv hv'; have := ha g hg; have := hb g hg'; omega
    | 1, 0, _, hv, hv' => simp at hv hv'; subst hv hv'; have := ha g hg'; have := hb g hg; omega
end Go.Proofs.Ythpbfaddojcohaa
