/- One law of append for rows of structs, whatever slice is added; contract of the reference's Asked. -/
import Derived.Test.YtdonclnjgopmbaaPD
namespace Go.Proofs.Ytdonclnjgopmbaa
open Go.RowKit
attribute [local go_sem ↓] Go.wp_at_zero Go.wp_at_succ
section
variable {P : Program}
theorem wpList_append_any (w : World) {ops : Array Oper} {rest : List Oper} {o : Oper} {a : Act} {Q : Exit → Act → World → Prop} (hgd : o.guard = none) (s x : Operand) (t : TypeId)
    (ho : o.op = .call { callee := .builtin .append, args := #[s, x], argTypes := #[t, t] })
    (base : Nat) (e : TypeId) (i : TypeInfo) (z : Value) (size bytes : Nat) (ht : P.underlying t = some (.slice e)) (hi : P.info? e = some i) (hz : i.zero = some z)
    (hsize : i.size = size) (hby : i.bytes = bytes) (hzs : z.cells.size = size) (hsz : 0 < size)
    (v : Value) (n : Nat) (xs : List Value) (hs : a.eval s = v) (hown : w.ownsRow base e size v n xs)
    (ax : Option Addr) (m c : Nat) (news : List Value) (hx : a.eval x = .slice ax m c) (hl : news.length = m * size) (hnews : m = 0 ∨ ∃ ad, ax = some ad ∧ ∀ j u, news[j]? = some u → w.cell? (ad.add j) = some u) (h1 : ∀ u ∈ news, u.oneCell' = true)
    (h63 : n + m ≤ maxLen) (hbytes : (n + m) * bytes ≤ 140737488355328) (hbase : base ≤ w.heap.size)
    (h : ∀ a' c' w', w'.ownsRow base e size (.slice a' (n + m) c') (n + m) (xs ++ news) → w.grownBy w' v.ownBlock → wpList P ops Q rest (a.put o.dst (.slice a' (n + m) c')) w') : wpList P ops Q (o :: rest) a w := by
  have form : ∀ {w : World} {v : Value} {k : Nat} {ys : List Value}, w.ownsRow base e size v k ys → ∃ a' c', v = .slice a' k c' := fun {w v k ys} h => by
    rcases h.2 with ⟨h1, h2⟩ | ⟨g, cap, cur, h1, _⟩
    · exact ⟨none, 0, by rw [h1, h2]⟩
    · exact ⟨_, _, h1⟩
  cases ax with
  | some ad =>
    refine wpList_append_own w hgd s x t ho base e i z size bytes ht hi hz hsize hby hzs hsz v n xs hs hown ad m c news hx hl ?_ h1 h63 hbytes hbase fun v' w' h2 h3 _ => ?_
    · rcases hnews with e | ⟨ad', e, h2⟩
      · intro j u hu
        have : news = [] := List.eq_nil_of_length_eq_zero (by rw [hl, e, Nat.zero_mul])
        rw [this] at hu; simp at hu
      · cases e; exact h2
    · obtain ⟨a', c', rfl⟩ := form h2
      exact h a' c' w' h2 h3
  | none =>
    have hm : m = 0 := by
      rcases hnews with e | ⟨ad', e, _⟩
      · exact e
      · cases e
    subst hm
    obtain rfl : news = [] := List.eq_nil_of_length_eq_zero (by rw [hl, Nat.zero_mul])
    obtain ⟨a', c', rfl⟩ := form hown
    have hle : n ≤ c' := by
      rcases hown.2 with ⟨h1, h2⟩ | ⟨g, cap, cur, h1, _, _, h4, _⟩
      · cases h1; omega
      · cases h1; exact h4
    have hrun := run_append_nothing w t t o.type e i ht hi a' n c' hle (.slice none 0 c) (Src.ofNil w ht c)
    refine wpList_plain hgd fun K hK => ?_
    unfold Oper.wp execOp
    simp only [ho, resolve, invoke, builtin, Sem.run_bind, Sem.run_pure, Result.andThen_ok, List.map_toArray, List.map_cons, List.map_nil, hs, hx, hrun]
    exact hK _ _ (h a' c' w (by simpa using hown) ⟨rfl, rfl, rfl, Nat.le_refl _, fun _ _ _ => rfl⟩)
end
theorem owns_form {w : World} {base : Nat} {e : TypeId} {s : Nat} {v : Value} {n : Nat} {xs : List Value} (h : w.ownsRow base e s v n xs) : ∃ ad cap, v = .slice ad n cap := by
  rcases h.2 with ⟨h1, h2⟩ | ⟨g, cap, cur, h1, _⟩
  · exact ⟨none, 0, by rw [h1, h2]⟩
  · exact ⟨_, _, h1⟩
theorem owns_range {w : World} {base : Nat} {e : TypeId} {s n : Nat} {a : Option Addr} {c : Nat} {xs : List Value} (h : w.ownsRow base e s (.slice a n c) n xs) : (∀ g, blk a = some g → base ≤ g ∧ g < w.heap.size) ∧ (n = 0 ∨ ∃ b o, a = some ⟨b, o, none⟩ ∧ b < w.heap.size ∧ w.rangeAt b o xs) := by
  rcases h.2 with ⟨h1, h2⟩ | ⟨g, cap, cur, h1, h2, h3, _, _, _, h7⟩
  · cases h1; exact ⟨(fun g e => by cases e), .inl rfl⟩
  · cases h1
    have hlt := (Array.getElem?_eq_some_iff.1 h3).1
    refine ⟨(fun g' e => by cases e; exact ⟨h2, hlt⟩), .inr ⟨g, 0, rfl, hlt, fun j u hu => ?_⟩⟩
    rw [Nat.zero_add, cell_of_row _ _ _ _ _ _ h3]
    rw [← h7, List.getElem?_take] at hu
    split at hu
    · simpa using hu
    · cases hu
theorem ns_owns {w : World} {base : Nat} {n : Nat} {a : Option Addr} {c : Nat} {xs : List Nm} (h : w.ownsRow base 28 2 (.slice a n c) n (xs.flatMap encM)) (hl : xs.length = n) : Ns w a n xs := ⟨hl, (owns_range h).2⟩
theorem new_name (w : World) (x1 x2 : Int) : ∀ j u, ([.int .i64 x1, .int .i64 x2] : List Value)[j]? = some u → (w.alloc (.cells #[.int .i64 x1, .int .i64 x2] 28)).cell? ((⟨w.heap.size, 0, none⟩ : Addr).add j) = some u := fun j u hu => by
  rw [Addr.add_mid, Nat.zero_add, cell_of_row _ w.heap.size j _ 28 (0, 0) (heap_alloc_new w _)]; simpa using hu
theorem one_name (x1 x2 : Int) : ∀ u ∈ ([.int .i64 x1, .int .i64 x2] : List Value), u.oneCell' = true := fun u hu => by
  simp at hu; rcases hu with rfl | rfl <;> rfl
set_option maxRecDepth 100000 in
set_option maxHeartbeats 2000000 in
theorem o34 (G : Nat → Prop) (rt : Nat) (rs : List Rw) (ws : List Nm) (w : World) (h : RfAt w G rt rs ws) (hn : rs.length ≤ 1000000) :
    Calls Try.prog 34 #[.pointer (some ⟨rt, 0, none⟩)] w fun e w' => ∃ a c, e = .returned (.slice a rs.length c) ∧ Ns w' a rs.length (rs.map Rw.x) ∧ Below w.heap.size w w' := by
  obtain ⟨i0, hi, hz, hs2, hby⟩ := infoN
  obtain ⟨n, hnn⟩ : ∃ n, rs.length = n := ⟨_, rfl⟩
  have HX : Hid (RfAt w G rt rs ws ∧ rs.length = n) := ⟨h, hnn⟩
  have hn' : n ≤ 1000000 := hnn ▸ hn
  rw [hnn]
  clear h hn hnn
  go_enter Try.func34, Try.ntmps34
  go_wp2_with fail
  go_loopw [3, 4] (fun l i wr => ∃ k : Nat, k ≤ n ∧ i = .int .i64 k ∧ Hid (wr.ownsRow w.heap.size 28 2 l k (((rs.map Rw.x).take k).flatMap encM) ∧ Below w.heap.size w wr)) (fun _ i _ => n - (intOf i).toNat)
  case atStart => exact ⟨0, Nat.zero_le _, rfl, by simpa using World.ownsRow_nil _ _ _ _, Below.refl _ _⟩
  case round =>
    obtain ⟨k, hk, rfl, HK⟩ := hrel
    obtain ⟨ra, rc, wa, wc, q0, _, hRs, _⟩ := (HX.out.1.below HK.out.2).cells
    rw [HX.out.2] at q0
    by_cases hlt : k < n
    · have hlt1 : (k : Int) < (n : Int) := by omega
      have hk0 : (0 : Int) ≤ (k : Int) := by omega
      obtain ⟨b1, o1, hk1, rfl, _, c0, c1, c2⟩ := hRs.at (k := k) (by have := HX.out.2; omega)
      clear c2 hRs
      have HT : Hid (((rs.map Rw.x).take (k + 1)).flatMap encM = ((rs.map Rw.x).take k).flatMap encM ++ [.int .i64 rs[k].x.1, .int .i64 rs[k].x.2]) := by
        show _ = _
        rw [← List.take_append_getElem (l := rs.map Rw.x) (i := k) (by simpa using hk1), List.flatMap_append]; simp [encM]
      generalize rs[k].x = y at *
      obtain ⟨y1, y2⟩ := y
      simp only at c0 c1
      clear hk1
      have hbase : w.heap.size ≤ (wr.alloc (.cells #[.int .i64 y1, .int .i64 y2] 28)).heap.size := by have := HK.out.2.size; simp; omega
      have HB1 : Hid (Below w.heap.size w (wr.alloc (.cells #[.int .i64 y1, .int .i64 y2] 28))) := HK.out.2.alloc HK.out.2.size _
      have HO : Hid (World.ownsRow (wr.alloc (.cells #[.int .i64 y1, .int .i64 y2] 28)) w.heap.size 28 2 _ k (((rs.map Rw.x).take k).flatMap encM)) := HK.out.1.alloc _
      go_wp2_with (at_builtin; refine wpList_append_any _ rfl _ _ 29 rfl w.heap.size 28 i0 _ 2 16 Try.underlying29 hi hz hs2 hby rfl (by decide) _ _ _ rfl HO.out (some ⟨wr.heap.size, 0, none⟩) 1 1 [.int .i64 y1, .int .i64 y2] rfl rfl (.inr ⟨_, rfl, new_name wr y1 y2⟩) (one_name y1 y2) (by unfold maxLen; omega) (by omega) hbase ?_)
      intro a' c' w' hown hgr
      have HF : Hid (w'.ownsRow w.heap.size 28 2 (.slice a' (k + 1) c') (k + 1) (((rs.map Rw.x).take (k + 1)).flatMap encM) ∧ Below w.heap.size w w') := ⟨by rw [HT.out]; exact hown, HB1.out.grown hgr hbase (fun g hg => (HO.out.lt g hg).1)⟩
      clear hown hgr
      go_wp2_with fail
      go_roundw
      case rel => exact ⟨k + 1, by omega, by go_num, HF.out⟩
      case measure => simp [intOf]; omega
    · obtain ⟨a', c', hv⟩ := owns_form HK.out.1
      have HE : Hid ((rs.map Rw.x).take k = rs.map Rw.x ∧ k = n) := ⟨List.take_of_length_le (by have := HX.out.2; simp; omega), by omega⟩
      subst hv
      clear hRs
      go_wp2_with fail
      go_ret
      obtain ⟨e1, e2⟩ := HE.out
      have h1 := HK.out.1
      rw [e1] at h1
      subst e2
      exact ⟨a', c', rfl, ns_owns h1 (by rw [List.length_map]; exact HX.out.2), HK.out.2⟩
end Go.Proofs.Ytdonclnjgopmbaa
