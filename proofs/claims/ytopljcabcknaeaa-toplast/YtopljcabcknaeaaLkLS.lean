/- The reference's SameOne and Same of rows of the same datagrams. -/
import Derived.Test.YtopljcabcknaeaaLkLO
import Derived.Laws.BytesArg
namespace Go.Proofs.Ytopljcabcknaeaa.Lk
open Go.RowKit
attribute [local go_sem ↓] Go.wp_at_zero Go.wp_at_succ
theorem row_conv {w : World} {B : Nat} {a : Option Addr} {n c : Nat} {xs : List Int} (h : Row w B 5 a n c (u8s xs)) : (convert 29 9 (.slice a n c)).run Try.prog w = .ok (.string (strOfNums xs)) w := by
  have hlen : xs.length = n := by have := h.len; unfold u8s at this; rw [List.length_map] at this; exact this
  rcases h.mem with ⟨e1, e2⟩ | ⟨g, cu, e1, _⟩
  · subst e1
    have hc := h.cap
    have h0 : xs = [] := List.eq_nil_of_length_eq_zero (by omega)
    subst h0
    exact run_convert_bytes_nil w 29 5 Try.underlying29 Try.underlying5 n c 9 Try.underlying9
  · subst e1
    refine run_convert_bytes_arg w 29 5 Try.underlying29 Try.underlying5 g 0 n c xs hlen (fun i hi => ?_) 9 Try.underlying9
    rcases h.reads.2 with e2 | ⟨ad, e2, e3⟩
    · omega
    · cases e2
      have := e3 i (.int .u8 (xs.getD i 0)) (by
        unfold u8s
        rw [List.getElem?_map, List.getElem?_eq_getElem (by omega)]
        simp [List.getD, List.getElem?_eq_getElem (show i < xs.length by omega)])
      rw [Addr.add_mid] at this
      exact this
theorem dg_rd {w : World} {B n : Nat} {av : Value} {ds : List Sl} (h : w.ownsRow B 32 5 av n (encAll ds 0)) {k : Nat} {d : Sl} (hd : ds[k]? = some d) : ∃ g c, av = .slice (some ⟨g, 0, none⟩) n c ∧ w.cell? ⟨g, k * 5, none⟩ = some (.int .i64 0) ∧ w.cell? ⟨g, k * 5 + 1, none⟩ = some (.int .i64 1) ∧ w.cell? ⟨g, k * 5 + 2, none⟩ = some (.bool false) ∧ w.cell? ⟨g, k * 5 + 3, none⟩ = some (.int .i64 (k : Int)) ∧ w.cell? ⟨g, k * 5 + 4, none⟩ = some d.v := by
  have hk := (List.getElem?_eq_some_iff.1 hd).1
  have hl := h.1
  rw [encAll_len] at hl
  rcases h.2 with ⟨_, e1⟩ | ⟨g, cap, cur, e1, _⟩
  · omega
  · have hc := h.cells (g := g) (by rw [e1]; rfl)
    have hg : ∀ i u, (encD (0 + k) d)[i]? = some u → w.cell? ⟨g, k * 5 + i, none⟩ = some u := fun i u hu => by
      have := hc _ u (encAll_get ds 0 k d hd i u hu)
      rw [Addr.add_mid, Nat.zero_add] at this
      exact this
    rw [Nat.zero_add] at hg
    exact ⟨g, cap, e1, hg 0 _ rfl, hg 1 _ rfl, hg 2 _ rfl, hg 3 _ rfl, hg 4 _ rfl⟩
end Go.Proofs.Ytopljcabcknaeaa.Lk
