/- The reference's SameOne and Same of rows of the same datagrams. -/
import Derived.Test.YtnhomejenjinaaaLQ
import Derived.Laws.BytesArg
namespace Go.Proofs.Ytnhomejenjinaaa
open Go.RowKit
attribute [local go_sem ↓] Go.wp_at_zero Go.wp_at_succ
theorem row_conv {w : World} {B : Nat} {a : Option Addr} {n c : Nat} {xs : List Int} (h : Row w B 5 a n c (u8s xs)) : (convert 34 9 (.slice a n c)).run Try.prog w = .ok (.string (strOfNums xs)) w := by
  have hlen : xs.length = n := by have := h.len; unfold u8s at this; rw [List.length_map] at this; exact this
  rcases h.mem with ⟨e1, e2⟩ | ⟨g, cu, e1, _⟩
  · subst e1
    have hc := h.cap
    have h0 : xs = [] := List.eq_nil_of_length_eq_zero (by omega)
    subst h0
    exact run_convert_bytes_nil w 34 5 Try.underlying34 Try.underlying5 n c 9 Try.underlying9
  · subst e1
    refine run_convert_bytes_arg w 34 5 Try.underlying34 Try.underlying5 g 0 n c xs hlen (fun i hi => ?_) 9 Try.underlying9
    rcases h.reads.2 with e2 | ⟨ad, e2, e3⟩
    · omega
    · cases e2
      have := e3 i (.int .u8 (xs.getD i 0)) (by
        unfold u8s
        rw [List.getElem?_map, List.getElem?_eq_getElem (by omega)]
        simp [List.getD, List.getElem?_eq_getElem (show i < xs.length by omega)])
      rw [Addr.add_mid] at this
      exact this
set_option maxRecDepth 100000 in
set_option maxHeartbeats 4000000 in
theorem r16 (k : Int) (a a' : Option Addr) (n n' c c' B B' : Nat) (xs : List Int) (w : World) (h : Row w B 5 a n c (u8s xs)) (h' : Row w B' 5 a' n' c' (u8s xs)) :
    Calls Try.prog 16 #[.agg #[.int .i64 0, .int .i64 1, .bool false, .int .i64 k, .slice a n c], .agg #[.int .i64 0, .int .i64 1, .bool false, .int .i64 k, .slice a' n' c']] w fun e w' => e = .returned (.bool true) ∧ Below w.heap.size w w' := by
  obtain ⟨W, hW⟩ : ∃ W, (w.alloc (.cells #[.int .i64 0, .int .i64 1, .bool false, .int .i64 k, .slice a n c] 36)).alloc (.cells #[.int .i64 0, .int .i64 1, .bool false, .int .i64 k, .slice a' n' c'] 36) = W := ⟨_, rfl⟩
  obtain ⟨b, hb⟩ : ∃ b, w.heap.size = b := ⟨_, rfl⟩
  have hbl : Below w.heap.size w W := by rw [← hW]; exact ((Below.refl _ w).alloc (Nat.le_refl _) _).alloc (by simp) _
  have hc1 : W.heap[b]? = some (.cells #[.int .i64 0, .int .i64 1, .bool false, .int .i64 k, .slice a n c] 36 (0, 0)) := by
    rw [← hW, ← hb]
    exact (heap_alloc_old _ _ (by simp)).trans (heap_alloc_new w _)
  have hc2 : W.heap[b + 1]? = some (.cells #[.int .i64 0, .int .i64 1, .bool false, .int .i64 k, .slice a' n' c'] 36 (0, 0)) := by
    rw [← hW, ← hb]
    have := heap_alloc_new (w.alloc (.cells #[.int .i64 0, .int .i64 1, .bool false, .int .i64 k, .slice a n c] 36)) (.cells #[.int .i64 0, .int .i64 1, .bool false, .int .i64 k, .slice a' n' c'] 36)
    simpa using this
  obtain ⟨x0, x1, x2, x3, x4, _, _, _, _, _⟩ := dg_cells hc1
  obtain ⟨y0, y1, y2, y3, y4, _, _, _, _, _⟩ := dg_cells hc2
  have v1 := row_conv (h.below hbl)
  have v2 := row_conv (h'.below hbl)
  have HB : Hid (Below w.heap.size w W) := hbl
  clear h h' hbl hc1 hc2
  go_enter Try.func16, Try.ntmps16
  go_wp2_with fail
  go_ret
  exact ⟨rfl, HB.out⟩
theorem dg_rd {w : World} {B n : Nat} {av : Value} {ds : List Sl} (h : w.ownsRow B 36 5 av n (encAll ds 0)) {k : Nat} {d : Sl} (hd : ds[k]? = some d) : ∃ g c, av = .slice (some ⟨g, 0, none⟩) n c ∧ w.cell? ⟨g, k * 5, none⟩ = some (.int .i64 0) ∧ w.cell? ⟨g, k * 5 + 1, none⟩ = some (.int .i64 1) ∧ w.cell? ⟨g, k * 5 + 2, none⟩ = some (.bool false) ∧ w.cell? ⟨g, k * 5 + 3, none⟩ = some (.int .i64 (k : Int)) ∧ w.cell? ⟨g, k * 5 + 4, none⟩ = some d.v := by
  have hk := (List.getElem?_eq_some_iff.1 hd).1
  have hl := h.1
  rw [encAll_len] at hl
  rcases h.2 with ⟨_, e1⟩ | ⟨g, cap, cur, e1, _⟩
  · omega
  · have hc := h.cells (g := g) (by rw [e1]; rfl)
    have hg : ∀ i u, (encD (0 + k) d)[i]? = some u → w.cell? ⟨g, k * 5 + i, none⟩ = some u := fun i u hu => by
      have := hc _ u (encAll_get ds 0 k d hd i u hu)
      rw [Addr.add_mid, Nat.zero_add] at this
      exact this
    rw [Nat.zero_add] at hg
    exact ⟨g, cap, e1, hg 0 _ rfl, hg 1 _ rfl, hg 2 _ rfl, hg 3 _ rfl, hg 4 _ rfl⟩
set_option maxRecDepth 100000 in
set_option maxHeartbeats 4000000 in
theorem r30 (a a' : Option Addr) (n c c' B B' : Nat) (ds es : List Sl) (ms : List (List Int)) (w : World) (h : w.ownsRow B 36 5 (.slice a n c) n (encAll ds 0)) (h' : w.ownsRow B' 36 5 (.slice a' n c') n (encAll es 0)) (hds : ds.length = n) (hes : es.length = n) (hms : ms.length = n) (hn : n ≤ 1000000)
    (hd : ∀ (k : Nat) (d : Sl) (xs : List Int), ds[k]? = some d → ms[k]? = some xs → ∃ B, Row w B 5 d.a d.n d.c (u8s xs)) (he : ∀ (k : Nat) (d : Sl) (xs : List Int), es[k]? = some d → ms[k]? = some xs → ∃ B, Row w B 5 d.a d.n d.c (u8s xs)) :
    Calls Try.prog 30 #[.slice a n c, .slice a' n c'] w fun e w' => e = .returned (.bool true) ∧ Below w.heap.size w w' := by
  have HK : Hid (∀ W, Below w.heap.size w W → ∀ k, k < n → ∃ g g' d e xs, a = some ⟨g, 0, none⟩ ∧ a' = some ⟨g', 0, none⟩ ∧ Hid (ds[k]? = some d ∧ es[k]? = some e ∧ ∃ A A', Row W A 5 d.a d.n d.c (u8s xs) ∧ Row W A' 5 e.a e.n e.c (u8s xs)) ∧ (W.cell? ⟨g, k * 5, none⟩ = some (.int .i64 0) ∧ W.cell? ⟨g, k * 5 + 1, none⟩ = some (.int .i64 1) ∧ W.cell? ⟨g, k * 5 + 2, none⟩ = some (.bool false) ∧ W.cell? ⟨g, k * 5 + 3, none⟩ = some (.int .i64 (k : Int)) ∧ W.cell? ⟨g, k * 5 + 4, none⟩ = some d.v) ∧ (W.cell? ⟨g', k * 5, none⟩ = some (.int .i64 0) ∧ W.cell? ⟨g', k * 5 + 1, none⟩ = some (.int .i64 1) ∧ W.cell? ⟨g', k * 5 + 2, none⟩ = some (.bool false) ∧ W.cell? ⟨g', k * 5 + 3, none⟩ = some (.int .i64 (k : Int)) ∧ W.cell? ⟨g', k * 5 + 4, none⟩ = some e.v)) := fun W hW k hk => by
    have e1 : ds[k]? = some ds[k] := List.getElem?_eq_getElem (by omega)
    have e2 : es[k]? = some es[k] := List.getElem?_eq_getElem (by omega)
    have e3 : ms[k]? = some ms[k] := List.getElem?_eq_getElem (by omega)
    obtain ⟨A, hA⟩ := hd k _ _ e1 e3
    obtain ⟨A', hA'⟩ := he k _ _ e2 e3
    obtain ⟨g, gc, hge, z⟩ := dg_rd (owns_below h hW) e1
    obtain ⟨g', gc', hge', z'⟩ := dg_rd (owns_below h' hW) e2
    simp only [Value.slice.injEq, true_and] at hge hge'
    exact ⟨g, g', _, _, _, hge.1, hge'.1, ⟨e1, e2, A, A', hA.below hW, hA'.below hW⟩, z, z'⟩
  clear h h' hds hes hms hd he
  obtain ⟨b, hb⟩ : ∃ b, w.heap.size = b := ⟨_, rfl⟩
  have HS : Hid (w.heap.size = b) := hb
  rw [hb] at HK ⊢
  clear hb
  go_enter Try.func30, Try.ntmps30
  go_wp2_with fail
  go_loopw [5] (fun iv wr => ∃ k : Nat, iv = .int .i64 k ∧ k ≤ n ∧ Hid (Below b w wr)) (fun iv _ => n - (intOf iv).toNat)
  case atStart => exact ⟨0, rfl, Nat.zero_le _, Below.refl _ w⟩
  case round =>
    obtain ⟨k, rfl, hk, HI⟩ := hrel
    by_cases hlt : k < n
    · have hltI : (k : Int) < (n : Int) := by omega
      have hk0 : (0 : Int) ≤ (k : Int) := by omega
      obtain ⟨g, g', ⟨da, dn, dc⟩, ⟨ea, en, ec⟩, xs, rfl, rfl, HR, ⟨z0, z1, z2, z3, z4⟩, ⟨y0, y1, y2, y3, y4⟩⟩ := HK.out wr HI.out k hlt
      simp only [Sl.v] at z4 y4
      have HB : Hid (Below wr.heap.size wr wr.drew) := (Below.refl _ wr).drew
      have H16 : Hid (∀ U, Below wr.heap.size wr U → Calls Try.prog 16 #[.agg #[.int .i64 0, .int .i64 1, .bool false, .int .i64 k, .slice da dn dc], .agg #[.int .i64 0, .int .i64 1, .bool false, .int .i64 k, .slice ea en ec]] U fun e w' => e = .returned (.bool true) ∧ Hid (Below b w w')) := fun U hU => by
        obtain ⟨_, _, A, A', h1, h2⟩ := HR.out
        have h3 := HI.out.size
        have h4 := HS.out
        refine (r16 k da ea dn en dc ec A A' xs U (h1.below hU) (h2.below hU)).mono ?_
        rintro e w' ⟨rfl, h5⟩
        exact ⟨rfl, HI.out.trans ((hU.trans (h5.mono hU.size)).mono (by omega))⟩
      clear HR
      go_wp2_with fail
      go_region_law (go_simp; refine (H16.out wr.drew HB.out).mono ?_; rintro e w1 ⟨rfl, HF⟩)
      all_goals (
        go_wp2_with fail
        go_roundw
        case rel => exact ⟨k + 1, by go_num, hlt, HF.out⟩
        case measure => simp [intOf]; omega)
    · have hltI : ¬ (k : Int) < (n : Int) := by omega
      go_wp2_with fail
      go_ret
      exact ⟨rfl, HI.out⟩
end Go.Proofs.Ytnhomejenjinaaa
