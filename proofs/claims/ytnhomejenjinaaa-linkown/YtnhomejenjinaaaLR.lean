/- The reference's Outbox of a link of two nodes. -/
import Derived.Test.YtnhomejenjinaaaLQ
namespace Go.Proofs.Ytnhomejenjinaaa
open Go.RowKit
attribute [local go_sem ↓] Go.wp_at_zero Go.wp_at_succ
section
variable {P : Program}
theorem wpList_append_any (w : World) {ops : Array Oper} {rest : List Oper} {o : Oper} {a : Act} {Q : Exit → Act → World → Prop} (hgd : o.guard = none) (s x : Operand) (t : TypeId)
    (ho : o.op = .call { callee := .builtin .append, args := #[s, x], argTypes := #[t, t] })
    (base : Nat) (e : TypeId) (i : TypeInfo) (z : Value) (size bytes : Nat) (ht : P.underlying t = some (.slice e)) (hi : P.info? e = some i) (hz : i.zero = some z)
    (hsize : i.size = size) (hby : i.bytes = bytes) (hzs : z.cells.size = size) (hsz : 0 < size)
    (v : Value) (n : Nat) (xs : List Value) (hs : a.eval s = v) (hown : w.ownsRow base e size v n xs)
    (ax : Option Addr) (m c : Nat) (news : List Value) (hx : a.eval x = .slice ax m c) (hl : news.length = m * size) (hnews : m = 0 ∨ ∃ ad, ax = some ad ∧ ∀ j u, news[j]? = some u → w.cell? (ad.add j) = some u) (h1 : ∀ u ∈ news, u.oneCell' = true)
    (h63 : n + m ≤ maxLen) (hbytes : (n + m) * bytes ≤ 140737488355328) (hbase : base ≤ w.heap.size)
    (h : ∀ a' c' w', w'.ownsRow base e size (.slice a' (n + m) c') (n + m) (xs ++ news) → w.grownBy w' v.ownBlock → wpList P ops Q rest (a.put o.dst (.slice a' (n + m) c')) w') : wpList P ops Q (o :: rest) a w := by
  have form : ∀ {w : World} {v : Value} {k : Nat} {ys : List Value}, w.ownsRow base e size v k ys → ∃ a' c', v = .slice a' k c' := fun {w v k ys} h => by
    rcases h.2 with ⟨h1, h2⟩ | ⟨g, cap, cur, h1, _⟩
    · exact ⟨none, 0, by rw [h1, h2]⟩
    · exact ⟨_, _, h1⟩
  cases ax with
  | some ad =>
    refine wpList_append_own w hgd s x t ho base e i z size bytes ht hi hz hsize hby hzs hsz v n xs hs hown ad m c news hx hl ?_ h1 h63 hbytes hbase fun v' w' h2 h3 _ => ?_
    · rcases hnews with e | ⟨ad', e, h2⟩
      · intro j u hu
        have : news = [] := List.eq_nil_of_length_eq_zero (by rw [hl, e, Nat.zero_mul])
        rw [this] at hu; simp at hu
      · cases e; exact h2
    · obtain ⟨a', c', rfl⟩ := form h2
      exact h a' c' w' h2 h3
  | none =>
    have hm : m = 0 := by
      rcases hnews with e | ⟨ad', e, _⟩
      · exact e
      · cases e
    subst hm
    obtain rfl : news = [] := List.eq_nil_of_length_eq_zero (by rw [hl, Nat.zero_mul])
    obtain ⟨a', c', rfl⟩ := form hown
    have hle : n ≤ c' := by
      rcases hown.2 with ⟨h1, h2⟩ | ⟨g, cap, cur, h1, _, _, h4, _⟩
      · cases h1; omega
      · cases h1; exact h4
    have hrun := run_append_nothing w t t o.type e i ht hi a' n c' hle (.slice none 0 c) (Src.ofNil w ht c)
    refine wpList_plain hgd fun K hK => ?_
    unfold Oper.wp execOp
    simp only [ho, resolve, invoke, builtin, Sem.run_bind, Sem.run_pure, Result.andThen_ok, List.map_toArray, List.map_cons, List.map_nil, hs, hx, hrun]
    exact hK _ _ (h a' c' w (by simpa using hown) ⟨rfl, rfl, rfl, Nat.le_refl _, fun _ _ _ => rfl⟩)
end
theorem encAll_one : ∀ (l : List Sl) (k : Nat), ∀ u ∈ encAll l k, u.oneCell' = true
  | [], _, u, h => by cases h
  | s :: r, k, u, h => by
    simp only [encAll, List.mem_append, encD, List.mem_cons, List.not_mem_nil, or_false] at h
    rcases h with (rfl | rfl | rfl | rfl | rfl) | h
    · rfl
    · rfl
    · rfl
    · rfl
    · rfl
    · exact encAll_one r (k + 1) u h
set_option maxRecDepth 100000 in
set_option maxHeartbeats 4000000 in
theorem r31 (B rb : Nat) (ov : Value) (ds : List Sl) (ms : List (List Int)) (w : World) (h : RkG w B rb ov ds ms) (hl : ds.length ≤ 1000000) :
    Calls Try.prog 31 #[.pointer (some ⟨rb, 0, none⟩)] w fun e w' => ∃ a c, e = .returned (.slice a ds.length c) ∧ w'.ownsRow w.heap.size 36 5 (.slice a ds.length c) ds.length (encAll ds 0) ∧ Below w.heap.size w w' := by
  obtain ⟨i36, hi36, hz36, hs36, hb36⟩ := info36
  obtain ⟨a, c, rfl⟩ := owns_slice h.row
  obtain ⟨n, hn⟩ : ∃ n, ds.length = n := ⟨_, rfl⟩
  have HR := h.row
  have HB := h.blk
  rw [hn] at HR HB hl ⊢
  have HN : Hid (∀ W, Below w.heap.size w W → n = 0 ∨ ∃ ad, a = some ad ∧ ∀ j u, (encAll ds 0)[j]? = some u → W.cell? (ad.add j) = some u) := fun W hW => by
    rcases HR.2 with ⟨e1, e2⟩ | ⟨g, cap, cur, e1, _⟩
    · exact .inl e2
    · cases e1
      exact .inr ⟨⟨g, 0, none⟩, rfl, (owns_below HR hW).cells (g := g) rfl⟩
  have HC : Hid (∀ W, Below w.heap.size w W → RkC W rb (n : Int) (.slice a n c)) := fun W hW => (HB.below hW).cells
  have hlen : (encAll ds 0).length = n * 5 := by rw [encAll_len, hn]
  obtain ⟨c0, c1, c3, c7, c10, c11, c12, c13, f3, f11⟩ := HC.out w (Below.refl _ w)
  clear h HR HB hn
  obtain ⟨b, hb⟩ : ∃ b, w.heap.size = b := ⟨_, rfl⟩
  have HS : Hid (w.heap.size = b) := hb
  rw [hb] at HN HC ⊢
  go_enter Try.func31, Try.ntmps31
  go_wp2_with fail
  refine wp_loop_rounds 5 ?_
  rw [rounds_succ]
  go_wp2_with (at_builtin; refine wpList_append_any _ rfl _ _ 51 rfl b 36 i36 (.agg dz) 5 56 Try.underlying51 hi36 hz36 hs36 hb36 rfl (by decide) (.slice none 0 0) 0 [] rfl (World.ownsRow_nil _ _ _ _) none 0 0 [] rfl rfl (.inl rfl) (fun u hu => by cases hu) (by unfold maxLen; omega) (by omega) (by rw [hb]; exact Nat.le_refl _) ?_)
  intro a0 k0 w0 hr0 hg0
  have H0 : Hid (w0.ownsRow b 36 5 (.slice a0 0 k0) 0 [] ∧ Below b w w0) := ⟨by simpa using hr0, by rw [← HS.out]; exact (Below.refl _ w).grown hg0 (Nat.le_refl _) (fun g hg => by cases hg)⟩
  clear hr0 hg0 c0 c1 c3 c7 c10 c11 c12 c13 f3 f11
  obtain ⟨c0, c1, c3, c7, c10, c11, c12, c13, f3, f11⟩ := HC.out w0 H0.out.2
  try simp only [Nat.add_zero]
  go_wp2_with fail
  rw [rounds_succ]
  go_wp2_with (at_builtin; refine wpList_append_any _ rfl _ _ 51 rfl b 36 i36 (.agg dz) 5 56 Try.underlying51 hi36 hz36 hs36 hb36 rfl (by decide) (.slice a0 0 k0) 0 [] rfl H0.out.1 a n c (encAll ds 0) rfl hlen (HN.out w0 H0.out.2) (encAll_one ds 0) (by unfold maxLen; omega) (by omega) (by have := HS.out; have := H0.out.2.size; omega) ?_)
  intro a1 k1 w1 hr1 hg1
  have H1 : Hid (w1.ownsRow b 36 5 (.slice a1 n k1) n (encAll ds 0) ∧ Below b w w1) := ⟨by simpa using hr1, H0.out.2.grown hg1 (by have := HS.out; have := H0.out.2.size; omega) (fun g hg => (H0.out.1.lt g hg).1)⟩
  clear hr1 hg1 c0 c1 c3 c7 c10 c11 c12 c13 f3 f11
  obtain ⟨c0, c1, c3, c7, c10, c11, c12, c13, f3, f11⟩ := HC.out w1 H1.out.2
  try simp only [Nat.zero_add]
  go_wp2_with fail
  rw [rounds_succ]
  go_wp2_with (at_builtin; refine wpList_append_any _ rfl _ _ 51 rfl b 36 i36 (.agg dz) 5 56 Try.underlying51 hi36 hz36 hs36 hb36 rfl (by decide) (.slice a1 n k1) n (encAll ds 0) rfl H1.out.1 none 0 0 [] rfl rfl (.inl rfl) (fun u hu => by cases hu) (by unfold maxLen; omega) (by omega) (by have := HS.out; have := H1.out.2.size; omega) ?_)
  intro a2 k2 w2 hr2 hg2
  have H2 : Hid (w2.ownsRow b 36 5 (.slice a2 n k2) n (encAll ds 0) ∧ Below b w w2) := ⟨by simpa using hr2, H1.out.2.grown hg2 (by have := HS.out; have := H1.out.2.size; omega) (fun g hg => (H1.out.1.lt g hg).1)⟩
  clear hr2 hg2 c0 c1 c3 c7 c10 c11 c12 c13 f3 f11
  obtain ⟨c0, c1, c3, c7, c10, c11, c12, c13, f3, f11⟩ := HC.out w2 H2.out.2
  try simp only [Nat.add_zero]
  go_wp2_with fail
  rw [rounds_succ]
  go_wp2_with (at_builtin; refine wpList_append_any _ rfl _ _ 51 rfl b 36 i36 (.agg dz) 5 56 Try.underlying51 hi36 hz36 hs36 hb36 rfl (by decide) (.slice a2 n k2) n (encAll ds 0) rfl H2.out.1 none 0 0 [] rfl rfl (.inl rfl) (fun u hu => by cases hu) (by unfold maxLen; omega) (by omega) (by have := HS.out; have := H2.out.2.size; omega) ?_)
  intro a3 k3 w3 hr3 hg3
  have H3 : Hid (w3.ownsRow b 36 5 (.slice a3 n k3) n (encAll ds 0) ∧ Below b w w3) := ⟨by simpa using hr3, H2.out.2.grown hg3 (by have := HS.out; have := H2.out.2.size; omega) (fun g hg => (H2.out.1.lt g hg).1)⟩
  clear hr3 hg3
  try simp only [Nat.add_zero]
  go_wp2_with fail
  rw [rounds_succ]
  go_wp2_with fail
  go_ret
  exact ⟨a3, k3, rfl, H3.out.1, H3.out.2⟩
end Go.Proofs.Ytnhomejenjinaaa
