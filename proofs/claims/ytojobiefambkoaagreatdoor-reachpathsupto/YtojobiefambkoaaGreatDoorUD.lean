/- Contract of the document's Path. -/
import Derived.Test.YtojobiefambkoaaGreatDoorUC
namespace Go.Proofs.YtojobiefambkoaaGreatDoor
open Go.RowKit
attribute [local go_sem ↓] Go.wp_at_zero Go.wp_at_succ
/-- A row's place and a name stay readable. -/
abbrev PrS (W0 : World) (rb i : Nat) (pv : Value) (pb q : Nat) (l1 l2 : Int) (W : World) : Prop := W.cell? ⟨rb, i, none⟩ = some pv ∧ W.cell? ⟨pb, q, none⟩ = some (.int .i64 l1) ∧ W.cell? ⟨pb, q + 1, none⟩ = some (.int .i64 l2) ∧ Hid (Below W0.heap.size W0 W ∧ rb < W0.heap.size ∧ pb < W0.heap.size)
theorem prS_to {W0 W : World} {rb i pb q : Nat} {pv : Value} {l1 l2 : Int} (h0 : W0.cell? ⟨rb, i, none⟩ = some pv) (h1 : W0.cell? ⟨pb, q, none⟩ = some (.int .i64 l1)) (h2 : W0.cell? ⟨pb, q + 1, none⟩ = some (.int .i64 l2)) (hr : rb < W0.heap.size) (hp : pb < W0.heap.size) (hb : Below W0.heap.size W0 W) : PrS W0 rb i pv pb q l1 l2 W :=
  ⟨(hb.cell (p := ⟨rb, i, none⟩) hr).trans h0, (hb.cell (p := ⟨pb, q, none⟩) hp).trans h1, (hb.cell (p := ⟨pb, q + 1, none⟩) hp).trans h2, hb, hr, hp⟩
abbrev PsS (rb i : Nat) (pv : Value) (pb q : Nat) (l1 l2 : Int) (W : World) : Prop := W.cell? ⟨rb, i, none⟩ = some pv ∧ W.cell? ⟨pb, q, none⟩ = some (.int .i64 l1) ∧ W.cell? ⟨pb, q + 1, none⟩ = some (.int .i64 l2)
theorem psS_to {W0 W : World} {rb i pb q : Nat} {pv : Value} {l1 l2 : Int} (h0 : W0.cell? ⟨rb, i, none⟩ = some pv) (h1 : W0.cell? ⟨pb, q, none⟩ = some (.int .i64 l1)) (h2 : W0.cell? ⟨pb, q + 1, none⟩ = some (.int .i64 l2)) (hr : rb < W0.heap.size) (hp : pb < W0.heap.size) (hb : Below W0.heap.size W0 W) : PsS rb i pv pb q l1 l2 W :=
  ⟨(hb.cell (p := ⟨rb, i, none⟩) hr).trans h0, (hb.cell (p := ⟨pb, q, none⟩) hp).trans h1, (hb.cell (p := ⟨pb, q + 1, none⟩) hp).trans h2⟩
/-- A place of a row stays where the row grows. -/
theorem row_stays {W W' : World} {B rb n c i : Nat} {e : TypeId} {us ys : List Value} {v' pv : Value} {n' : Nat} (h : W.ownsRow B e 1 (.slice (some ⟨rb, 0, none⟩) n c) n us) (ho : W'.ownsRow B e 1 v' n' (us ++ ys)) (hl : v'.ownBlock = (Value.slice (some ⟨rb, 0, none⟩) n c).ownBlock ∨ (v'.ownBlock = some W.heap.size ∧ W.grownBy W' none)) (hi : i < n) (hc : W.cell? ⟨rb, i, none⟩ = some pv) : W'.cell? ⟨rb, i, none⟩ = some pv := by
  rcases hl with hl | ⟨_, hg⟩
  · have hul : us.length = n := by have := h.1; omega
    have e1 : us[i]? = some pv := by
      rw [h.cellAt i (by omega)] at hc
      exact hc
    rcases ho.2 with ⟨e, _⟩ | ⟨g, cap, cur, e, g1, g2, g3, g4, g5, g6⟩
    · rw [e] at hl
      simp [Value.ownBlock] at hl
    · rw [e] at hl
      simp [Value.ownBlock] at hl
      subst hl
      have h5 := range_of_owns g2 g6 i pv (by rw [List.getElem?_append_left (by omega)]; exact e1)
      rw [Nat.zero_add] at h5
      exact h5
  · have hlt := (h.lt rb rfl).2
    exact (hg.cell_far ⟨rb, i, none⟩ hlt (by simp)).trans hc
theorem cell_new0 (W : World) (v : Value) (t : TypeId) : (W.alloc (.cells #[v] t)).cell? ((⟨W.heap.size, 0, none⟩ : Addr).add 0) = some v := by
  rw [Addr.add_mid, Nat.add_zero, cell_of_row _ W.heap.size 0 _ t (0, 0) (heap_alloc_new W _)]
  rfl
section
variable {P : Program}
theorem stepH_append_two {w : World} {ops : Array Oper} {o : Oper} {a : Act} {K : Act → World → Prop} {Q : Exit → Act → World → Prop} {E : Prop} (hgd : o.guard = none) (s x : Operand) (t : TypeId)
    (ho : o.op = .call { callee := .builtin .append, args := #[s, x], argTypes := #[t, t] })
    (base : Nat) (e : TypeId) (i : TypeInfo) (z : Value) (size bytes : Nat) (ht : P.underlying t = some (.slice e)) (hi : P.info? e = some i) (hz : i.zero = some z)
    (hsize : i.size = size) (hby : i.bytes = bytes) (hzs : z.cells.size = size) (hsz : 0 < size)
    (v : Value) (m0 : Nat) (xs : List Value) (hs : a.eval s = v) (hown : w.ownsRow base e size v m0 xs)
    (ad : Addr) (m c : Nat) (news : List Value) (hx : a.eval x = .slice (some ad) m c) (hl : news.length = m * size) (hnews : ∀ j u, news[j]? = some u → w.cell? (ad.add j) = some u) (h1 : ∀ u ∈ news, u.oneCell' = true)
    (h63 : m0 + m ≤ maxLen) (hbytes : (m0 + m) * bytes ≤ 140737488355328) (hbase : base ≤ w.heap.size)
    (h : ∀ v' w', w'.ownsRow base e size v' (m0 + m) (xs ++ news) → w.grownBy w' v.ownBlock → (v'.ownBlock = v.ownBlock ∨ (v'.ownBlock = some w.heap.size ∧ w.grownBy w' none)) → K (a.put o.dst v') w') :
    if Region.wanted o (yielded ops a.tmps) = true then Oper.wp P o a w K Q else E := by
  have hw : Region.wanted o (yielded ops a.tmps) = true := by simp [Region.wanted, hgd]
  rw [if_pos hw]
  obtain ⟨v', w', hr, h2, h3, h4⟩ := Bk.append_two (P := P) w base t o.type e i z size bytes ht hi hz hsize hby hzs hsz v m0 xs hown ad m c news hl hnews h1 h63 hbytes hbase
  unfold Oper.wp
  simp [execOp, ho, resolve, invoke, builtin, hs, hx, hr, Result.andThen, Oper.upon]
  exact h v' w' h2 h3 h4
end
/-- A row of paths at a place. -/
theorem Pq.at {W : World} {B : Nat} {kv rv : Value} {known : List Nm} {cs : List (List Nm)} (h : Pq W B kv rv known cs) {i : Nat} {ra : Option Addr} {rn rc : Nat} (hv : rv = .slice ra rn rc) (hi : i < cs.length) (hc : cs[i] ≠ []) :
    ∃ rb pb pc L, ra = some ⟨rb, 0, none⟩ ∧ rn = cs.length ∧ (cs[i]).length = L + 1 ∧ W.cell? ⟨rb, i, none⟩ = some (.slice (some ⟨pb, 0, none⟩) (L + 1) pc) ∧ OwnN W B (.slice (some ⟨pb, 0, none⟩) (L + 1) pc) (cs[i]).reverse ∧ W.cell? ⟨pb, L * 2, none⟩ = some (.int .i64 (hd0 cs[i]).1) ∧ W.cell? ⟨pb, L * 2 + 1, none⟩ = some (.int .i64 (hd0 cs[i]).2) ∧ rb < W.heap.size ∧ pb < W.heap.size ∧ pc ≤ maxLen := by
  obtain ⟨us, h1, h2⟩ := h.rw
  have hul : us.length = cs.length := by have := h1.1; omega
  obtain ⟨h3, _⟩ := h2 i us[i] cs[i] (List.getElem?_eq_getElem (by omega)) (List.getElem?_eq_getElem hi)
  generalize hcg : cs[i] = c at *
  have hcell : ∃ rb, ra = some ⟨rb, 0, none⟩ ∧ rn = cs.length ∧ W.cell? ⟨rb, i, none⟩ = some us[i] ∧ rb < W.heap.size := by
    rcases h1.2 with ⟨e, h0⟩ | ⟨g, cap, cur, e, g1, g2, g3, g4, g5, g6⟩
    · omega
    · rw [hv] at e
      simp only [Value.slice.injEq] at e
      obtain ⟨rfl, rfl, _⟩ := e
      have h5 := range_of_owns g2 g6 i us[i] (List.getElem?_eq_getElem (by omega))
      rw [Nat.zero_add] at h5
      exact ⟨g, rfl, rfl, h5, (Array.getElem?_eq_some_iff.1 g2).1⟩
  obtain ⟨rb, e1, e2, e3, e4⟩ := hcell
  have hpos : 0 < c.length := List.length_pos_iff.2 hc
  rcases h3.2 with ⟨e, h0⟩ | ⟨g, cap, cur, e, g1, g2, g3, g4, g5, g6⟩
  · rw [List.length_reverse] at h0
    omega
  · have hrl : c.reverse.length = (c.length - 1) + 1 := by rw [List.length_reverse]; omega
    have e5 : c.reverse[c.length - 1]'(by omega) = hd0 c := by
      rw [List.getElem_reverse]
      unfold hd0
      cases c with
      | nil => simp at hpos
      | cons x r => simp
    obtain ⟨p0, p1⟩ := name_cells (range_of_owns g2 g6) (c.length - 1) (by omega)
    rw [e5, Nat.zero_add] at p0 p1
    rw [hrl] at e
    refine ⟨rb, g, cap, c.length - 1, e1, e2, by omega, by rw [e3, e], ?_, p0, p1, e4, (Array.getElem?_eq_some_iff.1 g2).1, g4⟩
    rw [← e]
    exact h3
/-- A path copied into memory of its own, and the name that is put behind it. -/
def Mh (w4 : World) (c : List Nm) (L : Nat) (v1 v2 : Int) (u : World) (da : Option Addr) (dc nb : Nat) : Prop := Below w4.heap.size w4 u ∧ u.ownsRow w4.heap.size 49 2 (.slice da (L + 1) dc) (L + 1) (flatN c.reverse) ∧ (∀ j x, (flatN [(v1, v2)])[j]? = some x → u.cell? ((⟨nb, 0, none⟩ : Addr).add j) = some x) ∧ w4.heap.size ≤ u.heap.size
theorem mh_a {w4 X u : World} {c : List Nm} {L : Nat} {v1 v2 : Int} {da : Option Addr} {dc z : Nat} (hb : Below w4.heap.size w4 X) (hz : w4.heap.size ≤ z) (ho : u.ownsRow w4.heap.size 49 2 (.slice da (L + 1) dc) (L + 1) (flatN c.reverse)) (hg : X.grownBy u (Value.slice (some ⟨z, 0, none⟩) 0 0).ownBlock) : Below w4.heap.size w4 u ∧ Mh w4 c L v1 v2 (u.alloc (.cells #[.int .i64 v1, .int .i64 v2] 49)) da dc u.heap.size := by
  have h1 : Below w4.heap.size w4 u := hb.grown hg hb.size (fun g hg => by simp [Value.ownBlock] at hg; omega)
  have h2 : Below w4.heap.size w4 (u.alloc (.cells #[.int .i64 v1, .int .i64 v2] 49)) := h1.alloc h1.size _
  exact ⟨h1, h2, ho.alloc _, newsN_new u (v1, v2), h2.size⟩
theorem mh_b {w4 X u : World} {c : List Nm} {L : Nat} {v1 v2 : Int} {da : Option Addr} {dc z nb : Nat} (hb : Below w4.heap.size w4 X) (hz : w4.heap.size ≤ z) (hn : ∀ j x, (flatN [(v1, v2)])[j]? = some x → X.cell? ((⟨nb, 0, none⟩ : Addr).add j) = some x) (hne : nb ≠ z) (hlt : nb < X.heap.size) (ho : u.ownsRow w4.heap.size 49 2 (.slice da (L + 1) dc) (L + 1) (flatN c.reverse)) (hg : X.grownBy u (Value.slice (some ⟨z, 0, none⟩) 0 0).ownBlock) : Mh w4 c L v1 v2 u da dc nb := by
  have h1 : Below w4.heap.size w4 u := hb.grown hg hb.size (fun g hg => by simp [Value.ownBlock] at hg; omega)
  refine ⟨h1, ho, fun j x hx => ?_, h1.size⟩
  rw [Addr.add_mid]
  refine (hg.cell_far ⟨nb, 0 + j, none⟩ hlt (by simp [Value.ownBlock]; omega)).trans ?_
  have h := hn j x hx
  rw [Addr.add_mid] at h
  exact h
set_option maxRecDepth 100000 in
set_option maxHeartbeats 16000000 in
theorem z21 {p : Value} {m : Hp} (x y : Nm) (w : World) (h : RfV w p m) (hup : RisesH m) (hm : GoodH m) (hu : (univ m [x]).length ≤ 1000000000) :
    Calls Tryz.prog 21 #[p, .agg #[.int .i64 x.1, .int .i64 x.2], .agg #[.int .i64 y.1, .int .i64 y.2]] w fun e w' => ∃ a k c, e = .returned (.tuple #[.slice a k c, .bool (pathF m x y).isSome]) ∧ Hid (NamesAt w' (.slice a k c) ((pathF m x y).getD []).reverse ∧ Below w.heap.size w w') := by
  obtain ⟨i0, hi, hz, hs, hby⟩ := info23
  obtain ⟨i36, ki, kz, ks, kby⟩ := Bk.info31
  have hpf : ∃ q, p = .pointer q := by
    rcases h with ⟨h, _⟩ | ⟨_, _, _, h, _⟩ <;> exact ⟨_, h⟩
  obtain ⟨q, rfl⟩ := hpf
  obtain ⟨U, hU⟩ : ∃ U, (univ m [x]).length = U := ⟨_, rfl⟩
  rw [hU] at hu
  obtain ⟨x1, x2⟩ := x
  obtain ⟨y1, y2⟩ := y
  have HV : Hid (RfV w (.pointer q) m ∧ RisesH m ∧ GoodH m ∧ (univ m [(x1, x2)]).length = U) := ⟨h, hup, hm, hU⟩
  clear h hup hm hU
  dsimp only
  have HS0 : Hid (∀ (W2 W3 W4 W5 : World), (w.alloc (.cells #[.int .i64 x1, .int .i64 x2] 49)).alloc (.cells #[.int .i64 y1, .int .i64 y2] 49) = W2 → W2.alloc (.cells #[.int .i64 x1, .int .i64 x2] 49) = W3 → W3.alloc (.cells #[.int .i64 x1, .int .i64 x2] 49) = W4 → W4.alloc (.cells #[.slice (some ⟨w.heap.size + 1 + 1 + 1, 0, none⟩) 1 1] 23) = W5 → Pq W5 W2.heap.size (.slice (some ⟨w.heap.size + 1 + 1, 0, none⟩) 1 1) (.slice (some ⟨w.heap.size + 1 + 1 + 1 + 1, 0, none⟩) 1 1) [(x1, x2)] [[(x1, x2)]] ∧ Below W2.heap.size W2 W5 ∧ Below w.heap.size w W2 ∧ W2.heap[w.heap.size + 1]? = some (.cells #[.int .i64 y1, .int .i64 y2] 49 (0, 0))) := by
    intro W2 W3 W4 W5 e2 e3 e4 e5
    have s2 : W2.heap.size = w.heap.size + 1 + 1 := by rw [← e2]; simp
    have s3 : W3.heap.size = w.heap.size + 1 + 1 + 1 := by rw [← e3]; simp [s2]
    have s4 : W4.heap.size = w.heap.size + 1 + 1 + 1 + 1 := by rw [← e4]; simp [s3]
    have k3 : W3.heap[W2.heap.size]? = some (.cells #[.int .i64 x1, .int .i64 x2] 49 (0, 0)) := by rw [← e3]; exact heap_alloc_new W2 _
    have k4 : W4.heap[W3.heap.size]? = some (.cells #[.int .i64 x1, .int .i64 x2] 49 (0, 0)) := by rw [← e4]; exact heap_alloc_new W3 _
    have k5 : W5.heap[W4.heap.size]? = some (.cells #[.slice (some ⟨w.heap.size + 1 + 1 + 1, 0, none⟩) 1 1] 23 (0, 0)) := by rw [← e5]; exact heap_alloc_new W4 _
    have b3 : Below W2.heap.size W2 W3 := by rw [← e3]; exact below_alloc _ _
    have b4 : Below W3.heap.size W3 W4 := by rw [← e4]; exact below_alloc _ _
    have b5 : Below W4.heap.size W4 W5 := by rw [← e5]; exact below_alloc _ _
    have b35 : Below W3.heap.size W3 W5 := b4.trans (b5.mono b4.size)
    have h3 := (b35.block W2.heap.size (by omega)).trans k3
    have h4 := (b5.block W3.heap.size (by omega)).trans k4
    refine ⟨⟨⟨rfl, .inr ⟨w.heap.size + 1 + 1, 1, _, rfl, by omega, by rw [← s2]; exact h3, Nat.le_refl _, by decide, rfl, rfl⟩⟩, [.slice (some ⟨w.heap.size + 1 + 1 + 1, 0, none⟩) 1 1], ⟨rfl, .inr ⟨w.heap.size + 1 + 1 + 1 + 1, 1, _, rfl, by omega, by rw [← s4]; exact k5, Nat.le_refl _, by decide, rfl, rfl⟩⟩, fun j u c hu hc => ?_⟩, b3.trans (b35.mono b3.size), ?_, ?_⟩
    · have hj : j = 0 := by
        have := (List.getElem?_eq_some_iff.1 hc).1
        simpa using this
      subst hj
      simp at hu hc
      subst hu hc
      refine ⟨⟨rfl, .inr ⟨w.heap.size + 1 + 1 + 1, 1, _, rfl, by omega, by rw [← s3]; exact h4, Nat.le_refl _, by decide, rfl, rfl⟩⟩, fun g hg e => ?_⟩
      simp [Value.ownBlock] at hg e
      omega
    · rw [← e2]
      exact (below_alloc w _).alloc (by simp) _
    · rw [← e2]
      have := heap_alloc_new (w.alloc (.cells #[.int .i64 x1, .int .i64 x2] 49)) (.cells #[.int .i64 y1, .int .i64 y2] 49)
      simpa using this
  go_enter Tryz.func21, Tryz.ntmps21
  go_wp2_with fail
  obtain ⟨W2, e2⟩ : ∃ W, (w.alloc (.cells #[.int .i64 x1, .int .i64 x2] 49)).alloc (.cells #[.int .i64 y1, .int .i64 y2] 49) = W := ⟨_, rfl⟩
  obtain ⟨W3, e3⟩ : ∃ W, W2.alloc (.cells #[.int .i64 x1, .int .i64 x2] 49) = W := ⟨_, rfl⟩
  obtain ⟨W4, e4⟩ : ∃ W, W3.alloc (.cells #[.int .i64 x1, .int .i64 x2] 49) = W := ⟨_, rfl⟩
  obtain ⟨W5, e5⟩ : ∃ W, W4.alloc (.cells #[.slice (some ⟨w.heap.size + 1 + 1 + 1, 0, none⟩) 1 1] 23) = W := ⟨_, rfl⟩
  have HSs := HS0.out W2 W3 W4 W5 e2 e3 e4 e5
  clear HS0
  rw [e2, e3, e4, e5]
  clear e2 e3 e4 e5
  generalize w.heap.size + 1 + 1 + 1 + 1 = n4 at *
  generalize w.heap.size + 1 + 1 = n2 at *
  obtain ⟨n1, hn1⟩ : ∃ n, w.heap.size + 1 = n := ⟨_, rfl⟩
  obtain ⟨n0, hn0⟩ : ∃ n, w.heap.size = n := ⟨_, rfl⟩
  rw [hn1] at HSs ⊢
  rw [hn0]
  clear hn1
  have HS : Hid (_ ∧ _) := HSs
  clear HSs
  go_loopw [8, 9, 10] (fun kv rv iv wr => ∃ (A Q : List (List Nm)) (known : List Nm) (rn : Nat) (rva : Option Addr) (rc : Nat), rv = .slice rva rn rc ∧ iv = .int .i64 (A.length : Nat) ∧ (A ++ Q).length = rn ∧ rn ≤ U ∧ (∃ ka kn kc, kv = .slice ka kn kc) ∧ Hid (PaI m (x1, x2) (y1, y2) A Q known ∧ Pq wr W2.heap.size kv rv known (A ++ Q) ∧ Below W2.heap.size W2 wr)) (fun _ _ iv _ => U - (intOf iv).toNat)
  case atStart =>
    refine ⟨[], [[(x1, x2)]], [(x1, x2)], 1, _, _, rfl, rfl, rfl, ?_, ⟨_, _, _, rfl⟩, PaI.start _ _ _, HS.out.1, HS.out.2.1⟩
    have h := (PaI.start m (x1, x2) (y1, y2)).len.1
    rw [HV.out.2.2.2] at h
    simpa using h
  case round =>
    obtain ⟨A, Q, known, rn, rva, rc, rfl, rfl, hrn, hrU, ⟨ka, kn, kc, rfl⟩, HK⟩ := hrel
    obtain ⟨i, hi'⟩ : ∃ i, A.length = i := ⟨_, rfl⟩
    have hA : Hid (A.length = i) := hi'
    rw [hi']
    rw [List.length_append, hi'] at hrn
    clear hi'
    cases Q with
    | nil =>
      have hin : ¬ (i : Int) < (rn : Int) := by simp at hrn; omega
      have hP : pathF m (x1, x2) (y1, y2) = none := HK.out.1.done
      have HE : Hid (Below w.heap.size w wr) := by
        have h := HS.out.2.2.1
        exact h.trans (HK.out.2.2.mono h.size)
      clear hn0
      go_wp2_with fail
      refine bodyPost_ret (v := .tuple #[.slice none 0 0, .bool false]) (by simp [results, Tryz.results21, go_sem]) rfl ⟨none, 0, 0, rfl, ?_, HE.out⟩
      exact ⟨by simp, .inl ⟨rfl, none, rfl⟩⟩
    | cons c Q =>
      have hin : (i : Int) < (rn : Int) := by simp at hrn; omega
      have hi0 : (0 : Int) ≤ (i : Int) := by omega
      have hiU : i ≤ 1000000000 := by omega
      have hiU2 : i < U := by simp at hrn; omega
      have hcne : c ≠ [] := (HK.out.1.len.2 c (by simp)).1
      have hilt : i < (A ++ c :: Q).length := by rw [List.length_append, hA.out]; simp
      have hgc : (A ++ c :: Q)[i] = c := by
        rw [List.getElem_append_right (by rw [hA.out]; exact Nat.le_refl _)]
        simp [hA.out]
      obtain ⟨rb, pb, pc, L, rfl, -, hcl, r0, hown, p0, p1, hrb, hpb, hpc⟩ := Pq.at HK.out.2.1 rfl hilt (by rw [hgc]; exact hcne)
      rw [hgc] at hcl hown p0 p1
      have hL63 : L + 1 ≤ 9223372036854775807 := by
        rcases hown.2 with ⟨e, _⟩ | ⟨g, cap, cur, e, _, _, h4, h5, _⟩
        · simp at e
        · simp only [Value.slice.injEq] at e
          unfold maxLen at h5
          omega
      have hwL : IntKind.i64.wrap (L : Int) = (L : Int) := by rw [IntKind.wrap_i64]; omega
      have hL0 : (0 : Int) ≤ (L : Int) := by omega
      have hL1 : (L : Int) < (L : Int) + 1 := by omega
      obtain ⟨⟨l1, l2⟩, hl⟩ : ∃ l, hd0 c = l := ⟨_, rfl⟩
      rw [hl] at p0 p1
      dsimp only at p0 p1
      have HC : Hid (hd0 c = (l1, l2) ∧ c.length = L + 1 ∧ OwnN wr W2.heap.size (.slice (some ⟨pb, 0, none⟩) (L + 1) pc) c.reverse ∧ rb < wr.heap.size ∧ pb < wr.heap.size ∧ wr.cell? ⟨rb, i, none⟩ = some (.slice (some ⟨pb, 0, none⟩) (L + 1) pc)) := ⟨hl, hcl, hown, hrb, hpb, r0⟩
      have hS6 : PrS wr rb i (.slice (some ⟨pb, 0, none⟩) (L + 1) pc) pb (L * 2) l1 l2 wr.drew := prS_to r0 p0 p1 hrb hpb (Below.refl _ wr).drew
      obtain ⟨WD, hWD⟩ : ∃ W, wr.drew = W := ⟨_, rfl⟩
      have HD : Hid (Below wr.heap.size wr WD) := by rw [← hWD]; exact (Below.refl _ wr).drew
      obtain ⟨⟨e0, e1, f0, f1⟩, _⟩ := stored2 (x := .int .i64 l1) (y := .int .i64 l2) (wr := WD) rfl rfl
      obtain ⟨V, hV⟩ : ∃ V, WD.alloc (.cells #[.int .i64 l1, .int .i64 l2] 49) = V := ⟨_, rfl⟩
      have hb1 : Below WD.heap.size WD V := by rw [← hV]; exact below_alloc _ _
      have hb2 : V.heap[WD.heap.size]? = some (.cells #[.int .i64 l1, .int .i64 l2] 49 (0, 0)) := by rw [← hV]; exact heap_alloc_new _ _
      have HA6 : Hid (PrS wr rb i (.slice (some ⟨pb, 0, none⟩) (L + 1) pc) pb (L * 2) l1 l2 (WD.alloc (.cells #[.int .i64 0, .int .i64 0] 49)) ∧ (WD.alloc (.cells #[.int .i64 0, .int .i64 0] 49)).frozen? ⟨WD.heap.size, 0, none⟩ = false ∧ (WD.alloc (.cells #[.int .i64 0, .int .i64 0] 49)).frozen? ⟨WD.heap.size, 1, none⟩ = false ∧ (WD.alloc (.cells #[.int .i64 0, .int .i64 0] 49)).cell? ⟨WD.heap.size, 0, none⟩ = some (.int .i64 0) ∧ (WD.alloc (.cells #[.int .i64 0, .int .i64 0] 49)).cell? ⟨WD.heap.size, 1, none⟩ = some (.int .i64 0) ∧ PrS wr rb i (.slice (some ⟨pb, 0, none⟩) (L + 1) pc) pb (L * 2) l1 l2 V ∧ Below wr.heap.size wr V ∧ V.heap[WD.heap.size]? = some (.cells #[.int .i64 l1, .int .i64 l2] 49 (0, 0))) :=
        ⟨prS_to r0 p0 p1 hrb hpb (HD.out.alloc HD.out.size _), f0, f1, e0, e1, prS_to r0 p0 p1 hrb hpb (HD.out.trans (hb1.mono HD.out.size)), HD.out.trans (hb1.mono HD.out.size), hb2⟩
      clear r0 p0 p1 hrb hpb hown hb1 hb2 HD e0 e1 f0 f1 hl hcl hgc hilt hcne
      go_wp2_with fail
      refine wp_region_noPanic ?_
      refine wp_region_held_drew (S := PrS wr rb i (.slice (some ⟨pb, 0, none⟩) (L + 1) pc) pb (L * 2) l1 l2) (by kernel_rfl) hS6 (fun hHeld => ?_)
      refine wpAnyH_take (i := 0) (v := ?_) (by simp only [List.getElem?_toArray, List.getElem?_cons_zero]; rfl) (by kernel_rfl) (by kernel_rfl) (by kernel_rfl) (fun _ _ _ h => h) (Or.inl ⟨by rfl, ?_⟩) (by assumption) ?_; rotate_left; (· (intro w hSw; (try dsimp only at hSw); go_simp <;> with_reducible rfl)); try simp only [Act.put, List.setIfInBounds_toArray, List.set_cons_zero, List.set_cons_succ]
      refine wpAnyH_take (i := 1) (v := ?_) (by simp only [List.getElem?_toArray, List.getElem?_cons_zero, List.getElem?_cons_succ]; rfl) (by kernel_rfl) (by kernel_rfl) (by kernel_rfl) (fun _ _ _ h => h) (Or.inl ⟨by rfl, ?_⟩) (by assumption) ?_; rotate_left; (· (intro w hSw; (try dsimp only at hSw); go_simp <;> with_reducible rfl)); try simp only [Act.put, List.setIfInBounds_toArray, List.set_cons_zero, List.set_cons_succ]
      refine wpAnyH_take (i := 2) (v := ?_) (by simp only [List.getElem?_toArray, List.getElem?_cons_zero, List.getElem?_cons_succ]; rfl) (by kernel_rfl) (by kernel_rfl) (by kernel_rfl) (fun _ _ _ h => h) (Or.inl ⟨by rfl, ?_⟩) (by assumption) ?_; rotate_left; (· (intro w hSw; (try dsimp only at hSw); go_simp <;> with_reducible rfl)); try simp only [Act.put, List.setIfInBounds_toArray, List.set_cons_zero, List.set_cons_succ]
      refine wpAnyH_take (i := 3) (v := ?_) (by simp only [List.getElem?_toArray, List.getElem?_cons_zero, List.getElem?_cons_succ]; rfl) (by kernel_rfl) (by kernel_rfl) (by kernel_rfl) (fun _ _ _ h => h) (Or.inl ⟨by rfl, ?_⟩) (by assumption) ?_; rotate_left; (· (intro w hSw; (try dsimp only at hSw); go_simp <;> with_reducible rfl)); try simp only [Act.put, List.setIfInBounds_toArray, List.set_cons_zero, List.set_cons_succ]
      refine wpAnyH_take (i := 4) (v := ?_) (by simp only [List.getElem?_toArray, List.getElem?_cons_zero, List.getElem?_cons_succ]; rfl) (by kernel_rfl) (by kernel_rfl) (by kernel_rfl) (fun _ _ _ h => h) (Or.inl ⟨by rfl, ?_⟩) (by assumption) ?_; rotate_left; (· (intro w hSw; (try dsimp only at hSw); go_simp <;> with_reducible rfl)); try simp only [Act.put, List.setIfInBounds_toArray, List.set_cons_zero, List.set_cons_succ]
      refine wpAnyH_take (i := 5) (v := ?_) (by simp only [List.getElem?_toArray, List.getElem?_cons_zero, List.getElem?_cons_succ]; rfl) (by kernel_rfl) (by kernel_rfl) (by kernel_rfl) (fun _ _ _ h => h) (Or.inl ⟨by rfl, ?_⟩) (by assumption) ?_; rotate_left; (· (intro w hSw; (try dsimp only at hSw); go_simp <;> with_reducible rfl)); try simp only [Act.put, List.setIfInBounds_toArray, List.set_cons_zero, List.set_cons_succ]
      refine wpAnyH_take (i := 6) (v := ?_) (by simp only [List.getElem?_toArray, List.getElem?_cons_zero, List.getElem?_cons_succ]; rfl) (by kernel_rfl) (by kernel_rfl) (by kernel_rfl) (fun _ _ _ h => h) (Or.inl ⟨by rfl, ?_⟩) (by assumption) ?_; rotate_left; (· (intro w hSw; (try dsimp only at hSw); go_simp <;> with_reducible rfl)); try simp only [Act.put, List.setIfInBounds_toArray, List.set_cons_zero, List.set_cons_succ]
      refine wpAnyH_take (i := 7) (v := ?_) (by simp only [List.getElem?_toArray, List.getElem?_cons_zero, List.getElem?_cons_succ]; rfl) (by kernel_rfl) (by kernel_rfl) (by kernel_rfl) (fun _ _ _ h => h) (Or.inl ⟨by rfl, ?_⟩) (by assumption) ?_; rotate_left; (· (intro w hSw; (try dsimp only at hSw); go_simp <;> with_reducible rfl)); try simp only [Act.put, List.setIfInBounds_toArray, List.set_cons_zero, List.set_cons_succ]
      refine wpAnyH_take (i := 8) (v := ?_) (by simp only [List.getElem?_toArray, List.getElem?_cons_zero, List.getElem?_cons_succ]; rfl) (by kernel_rfl) (by kernel_rfl) (by kernel_rfl) (fun _ _ _ h => h) (Or.inl ⟨by rfl, ?_⟩) (by assumption) ?_; rotate_left; (· (intro w hSw; (try dsimp only at hSw); go_simp <;> with_reducible rfl)); try simp only [Act.put, List.setIfInBounds_toArray, List.set_cons_zero, List.set_cons_succ]
      refine wpAnyH_take (i := 9) (v := ?_) (by simp only [List.getElem?_toArray, List.getElem?_cons_zero, List.getElem?_cons_succ]; rfl) (by kernel_rfl) (by kernel_rfl) (by kernel_rfl) (fun _ _ _ h => h) (Or.inl ⟨by rfl, ?_⟩) (by assumption) ?_; rotate_left; (· (intro w hSw; (try dsimp only at hSw); go_simp <;> with_reducible rfl)); try simp only [Act.put, List.setIfInBounds_toArray, List.set_cons_zero, List.set_cons_succ]
      refine wpAnyH_take (i := 10) (v := ?_) (by simp only [List.getElem?_toArray, List.getElem?_cons_zero, List.getElem?_cons_succ]; rfl) (by kernel_rfl) (by kernel_rfl) (by kernel_rfl) (fun _ _ _ h => h) (Or.inl ⟨by rfl, ?_⟩) (by assumption) ?_; rotate_left; (· (intro w hSw; (try dsimp only at hSw); go_simp <;> with_reducible rfl)); try simp only [Act.put, List.setIfInBounds_toArray, List.set_cons_zero, List.set_cons_succ]
      refine wpAnyH_take (i := 11) (v := ?_) (by simp only [List.getElem?_toArray, List.getElem?_cons_zero, List.getElem?_cons_succ]; rfl) (by kernel_rfl) (by kernel_rfl) (by kernel_rfl) (fun _ _ _ h => h) (Or.inl ⟨by rfl, ?_⟩) (by assumption) ?_; rotate_left; (· (intro w hSw; (try dsimp only at hSw); go_simp <;> with_reducible rfl)); try simp only [Act.put, List.setIfInBounds_toArray, List.set_cons_zero, List.set_cons_succ]
      refine wpAnyH_ready (rs := [12]) (by kernel_rfl) (by simp) ?_
      refine AllReadyH.cons (by simp only [List.getElem?_toArray, List.getElem?_cons_zero, List.getElem?_cons_succ]; rfl) (fun K hK => ?_) AllReadyH.nil
      go_simp
      refine hK.out _ _ HA6.out.1 (fun hHeld => ?_)
      clear hK K
      try simp only [Act.put, List.setIfInBounds_toArray, List.set_cons_zero, List.set_cons_succ]
      refine wpAnyH_ready (rs := [13]) (by kernel_rfl) (by simp) ?_
      refine AllReadyH.cons (by simp only [List.getElem?_toArray, List.getElem?_cons_zero, List.getElem?_cons_succ]; rfl) (fun K hK => ?_) AllReadyH.nil
      have f0 := HA6.out.2.1
      have f1 := HA6.out.2.2.1
      have c0 := HA6.out.2.2.2.1
      have c1 := HA6.out.2.2.2.2.1
      go_simp
      refine hK.out _ _ HA6.out.2.2.2.2.2.1 (fun hHeld => ?_)
      clear f0 f1 c0 c1
      clear hK K
      try simp only [Act.put, List.setIfInBounds_toArray, List.set_cons_zero, List.set_cons_succ]
      refine wpAnyH_done (by kernel_rfl) ?_ _
      refine NoPanic.normal ?_
      have HB6 : Hid (Below wr.heap.size wr V ∧ V.heap[WD.heap.size]? = some (.cells #[.int .i64 l1, .int .i64 l2] 49 (0, 0)) ∧ Below W2.heap.size W2 V ∧ Below w.heap.size w V) := by
        have h1 := HA6.out.2.2.2.2.2.2
        have h2 := HK.out.2.2.trans (h1.1.mono HK.out.2.2.size)
        exact ⟨h1.1, h1.2, h2, HS.out.2.2.1.trans (h2.mono HS.out.2.2.1.size)⟩
      obtain ⟨vb, hvb⟩ : ∃ vb, WD.heap.size = vb := ⟨_, rfl⟩
      rw [hvb] at HB6 ⊢
      have r0 := hHeld.1
      clear hHeld HA6 hV hWD hS6 hvb
      have g0 : V.cell? ⟨vb, 0, none⟩ = some (.int .i64 l1) := by rw [cell_of_row V vb 0 _ 49 (0, 0) HB6.out.2.1]; rfl
      have g1 : V.cell? ⟨vb, 1, none⟩ = some (.int .i64 l2) := by rw [cell_of_row V vb 1 _ 49 (0, 0) HB6.out.2.1]; rfl
      have HN1 : Hid (V.heap[n1]? = some (.cells #[.int .i64 y1, .int .i64 y2] 49 (0, 0))) := (HB6.out.2.2.1.block n1 (Array.getElem?_eq_some_iff.1 HS.out.2.2.2).1).trans HS.out.2.2.2
      have q0 : V.cell? ⟨n1, 0, none⟩ = some (.int .i64 y1) := by rw [cell_of_row V n1 0 _ 49 (0, 0) HN1.out]; rfl
      have q1 : V.cell? ⟨n1, 1, none⟩ = some (.int .i64 y2) := by rw [cell_of_row V n1 1 _ 49 (0, 0) HN1.out]; rfl
      have hE := eql23b l1 l2 y1 y2
      cases hly : (l1 == y1 && l2 == y2)
      · rw [hly] at hE
        have HNO : Hid (eqN (hd0 c) (y1, y2) = false) := by
          show _ = _
          rw [HC.out.1]
          exact hly
        have H38 := z38 (l1, l2) V (HV.out.1.below HB6.out.2.2.2) HV.out.2.1 HV.out.2.2.1
        clear hly
        go_wp2_with fail
        refine H38.mono ?_
        rintro e w10 ⟨ma, mj, mc, rfl, HM⟩
        clear H38 hE q0 q1 g0 g1 r0
        have HPV : Hid (Pq V W2.heap.size (.slice ka kn kc) (.slice (some ⟨rb, 0, none⟩) rn rc) known (A ++ c :: Q)) := HK.out.2.1.below HB6.out.1
        have HML : Hid ((leadsH m (l1, l2)).length ≤ 256) := (leads_len HV.out.2.2.1 (l1, l2)).1
        have hmj : mj ≤ 256 := by
          have h1 := HML.out
          have h2 := HM.out.1
          omega
        have HI0 : Hid ((firstF known c ((leadsH m (l1, l2)).take 0)).1.length = kn ∧ (A ++ c :: Q ++ (firstF known c ((leadsH m (l1, l2)).take 0)).2).length = rn ∧ Pq w10 W2.heap.size (.slice ka kn kc) (.slice (some ⟨rb, 0, none⟩) rn rc) (firstF known c ((leadsH m (l1, l2)).take 0)).1 (A ++ c :: Q ++ (firstF known c ((leadsH m (l1, l2)).take 0)).2) ∧ Below W2.heap.size W2 w10 ∧ Km V w10 w10 ∧ Kb V w10 (.slice ka kn kc) ∧ Kb V w10 (.slice (some ⟨rb, 0, none⟩) rn rc)) := by
          have e1 : firstF known c ((leadsH m (l1, l2)).take 0) = (known, []) := by simp [firstF]
          rw [e1]
          simp only [List.append_nil]
          have h1 := HPV.out.below HM.out.2.2
          obtain ⟨us, h2, _⟩ := HPV.out.rw
          refine ⟨ownN_len HPV.out.kn, ?_, h1, HB6.out.2.2.1.trans (HM.out.2.2.mono HB6.out.2.2.1.size), ⟨Nat.le_refl _, fun _ _ _ => rfl⟩, Kb.of HPV.out.kn, Kb.of h2⟩
          rw [List.length_append, hA.out]
          exact hrn
        have HOM : Hid (OwnN w10 V.heap.size (.slice ma mj mc) (leadsH m (l1, l2)) ∧ (leadsH m (l1, l2)).length = mj) := ⟨HM.out.2.1, HM.out.1⟩
        have HRN : Hid ((A ++ c :: Q).length = rn) := by
          show _ = _
          rw [List.length_append, hA.out]
          exact hrn
        have HPA : Hid (PaI m (x1, x2) (y1, y2) A (c :: Q) known) := HK.out.1
        have hkn : kn ≤ U := by
          have h1 := ownN_len HPV.out.kn
          have h2 := HPA.out.kn
          have h3 := HRN.out
          rw [List.length_append] at h3
          omega
        clear HM HK HB6 HN1 HPV hrn hin hwL hL0 hL1
        go_wp2_with fail
        go_loopw [8, 9, 13] (fun kv rv iv wr' => ∃ (k : Nat) (ka : Option Addr) (kn kc : Nat) (rva : Option Addr) (rn' rc : Nat), kv = .slice ka kn kc ∧ rv = .slice rva rn' rc ∧ iv = .int .i64 k ∧ k ≤ mj ∧ Hid ((firstF known c ((leadsH m (l1, l2)).take k)).1.length = kn ∧ (A ++ c :: Q ++ (firstF known c ((leadsH m (l1, l2)).take k)).2).length = rn' ∧ Pq wr' W2.heap.size kv rv (firstF known c ((leadsH m (l1, l2)).take k)).1 (A ++ c :: Q ++ (firstF known c ((leadsH m (l1, l2)).take k)).2) ∧ Below W2.heap.size W2 wr' ∧ Km V w10 wr' ∧ Kb V w10 kv ∧ Kb V w10 rv)) (fun _ _ iv _ => mj - (intOf iv).toNat)
        case atStart => exact ⟨0, ka, kn, kc, _, rn, rc, rfl, rfl, rfl, Nat.zero_le _, HI0⟩
        case round =>
          clear HI0
          obtain ⟨k, ka, kn, kc, rva, rn', rc, rfl, rfl, rfl, hk, HI⟩ := hrel
          by_cases hlt : k < mj
          · have hltI : (k : Int) < (mj : Int) := by omega
            have hk0 : (0 : Int) ≤ (k : Int) := by omega
            have hmr : NamesAt wr (.slice ma mj mc) (leadsH m (l1, l2)) := namesAt_of_owns (HI.out.2.2.2.2.1.own HOM.out.1) (by have := HOM.out.2; unfold maxLen; omega)
            obtain ⟨mb, mo, hx, rfl, hbl, p0, p1⟩ := names_at hmr hlt
            have HT : Hid ((leadsH m (l1, l2)).take (k + 1) = (leadsH m (l1, l2)).take k ++ [(leadsH m (l1, l2))[k]]) := List.take_succ_eq_append_getElem hx
            have HMX : Hid (∀ W, Km V w10 W → W.cell? ⟨mb, mo + k * 2, none⟩ = some (.int .i64 (leadsH m (l1, l2))[k].1) ∧ W.cell? ⟨mb, mo + k * 2 + 1, none⟩ = some (.int .i64 (leadsH m (l1, l2))[k].2) ∧ mb < W.heap.size) := fun W hW => by
              have hmr' : NamesAt W (.slice (some ⟨mb, mo, none⟩) mj mc) (leadsH m (l1, l2)) := namesAt_of_owns (hW.own HOM.out.1) (by have := HOM.out.2; unfold maxLen; omega)
              obtain ⟨b', o', _, e1, h1, h2, h3⟩ := names_at hmr' hlt
              simp only [Option.some.injEq, Addr.mk.injEq, and_true] at e1
              obtain ⟨rfl, rfl⟩ := e1
              exact ⟨h2, h3, h1⟩
            generalize (leadsH m (l1, l2))[k] = v at *
            obtain ⟨v1, v2⟩ := v
            simp only at p0 p1
            have hFk : (firstF known c ((leadsH m (l1, l2)).take k)).2.length ≤ k := by
              have h1 := firstF_len known c ((leadsH m (l1, l2)).take k)
              rw [List.length_take] at h1
              omega
            obtain ⟨F, hF⟩ : ∃ F, firstF known c ((leadsH m (l1, l2)).take k) = F := ⟨_, rfl⟩
            have HF1 : Hid (firstF known c ((leadsH m (l1, l2)).take (k + 1)) = firstS c F (v1, v2)) := by
              show _ = _
              rw [HT.out, firstF_snoc, hF]
            have HFM : Hid (F.1.length = known.length + F.2.length) := by
              have h1 := (fst_of known c ((leadsH m (l1, l2)).take k)).mt
              rw [hF] at h1
              show _ = _
              rw [h1, List.length_append, List.length_map]
            rw [hF] at HI hFk
            obtain ⟨F1, F2⟩ := F
            dsimp only at HI hFk HFM
            have hkn' : kn ≤ 1000000256 ∧ rn' ≤ 1000000256 := by
              have h1 := HI.out.1
              have h2 := HI.out.2.1
              have h3 := HPA.out.kn
              have h4 := HRN.out
              have h5 := HFM.out
              rw [List.length_append, HRN.out] at h2
              rw [List.length_append] at h4
              omega
            obtain ⟨hknb, hrnb⟩ := hkn'
            have H37 : Calls Tryz.prog 37 #[.slice ka kn kc, .agg #[.int .i64 v1, .int .i64 v2]] wr fun e w' => e = .returned (.bool (hasN F1 (v1, v2))) ∧ Below wr.heap.size wr w' := c43 F1 (.slice ka kn kc) (v1, v2) wr (namesAt_of_owns HI.out.2.2.1.kn (by have := HI.out.1; unfold maxLen; omega))
            clear hmr hx hF hbl
            cases hh : hasN F1 (v1, v2)
            · have HFS : Hid (firstF known c ((leadsH m (l1, l2)).take (k + 1)) = (F1 ++ [(v1, v2)], F2 ++ [(v1, v2) :: c])) := by
                show _ = _
                rw [HF1.out]
                unfold firstS
                rw [hh]
                rfl
              rw [hh] at H37
              clear hh HF1
              go_wp2_with fail
              refine H37.mono ?_
              rintro e w3 ⟨rfl, h3⟩
              have HI3 : Hid (Pq w3 W2.heap.size (.slice ka kn kc) (.slice rva rn' rc) F1 (A ++ c :: Q ++ F2) ∧ Below W2.heap.size W2 w3 ∧ Km V w10 w3) := ⟨HI.out.2.2.1.below h3, HI.out.2.2.2.1.trans (h3.mono HI.out.2.2.2.1.size), HI.out.2.2.2.2.1.below h3⟩
              have HL3 : Hid (F1.length = kn ∧ (A ++ c :: Q ++ F2).length = rn' ∧ Kb V w10 (.slice ka kn kc) ∧ Kb V w10 (.slice rva rn' rc)) := ⟨HI.out.1, HI.out.2.1, HI.out.2.2.2.2.2.1, HI.out.2.2.2.2.2.2⟩
              clear H37 h3 HI p0 p1
              obtain ⟨k0, k1, _⟩ := HMX.out w3 HI3.out.2.2
              have HO3 : Hid (w3.ownsRow W2.heap.size 49 2 (.slice ka kn kc) kn (flatN F1)) := by
                have h := HI3.out.1.kn
                unfold OwnN at h
                rw [HL3.out.1] at h
                exact h
              have hsz := HI3.out.2.1.size
              have hnews := newsN_new w3 (v1, v2)
              have hnews : Hid (∀ j' u, (flatN [(v1, v2)])[j']? = some u → (w3.alloc (.cells #[.int .i64 v1, .int .i64 v2] 49)).cell? ((⟨w3.heap.size, 0, none⟩ : Addr).add j') = some u) := hnews
              have hlen : Hid ((flatN [(v1, v2)]).length = 1 * 2) := rfl
              go_wp2_with (at_builtin; refine Bk.wpList_append_two rfl _ _ 23 rfl W2.heap.size 49 i0 (.agg #[.int .i64 0, .int .i64 0]) 2 16 Tryz.underlying23 hi hz hs hby rfl (by decide) _ _ _ rfl (HO3.out.alloc _) ⟨w3.heap.size, 0, none⟩ 1 1 (flatN [(v1, v2)]) rfl hlen.out hnews.out (flatN_one _) (by unfold maxLen; omega) (by omega) (by simp; omega) ?_)
              intro v' w4 hown hgr hloc
              obtain ⟨ka', kc', hvf⟩ := Bk.rowv_form hown
              subst hvf
              have HI4 : Hid (Pq w4 W2.heap.size (.slice ka' (kn + 1) kc') (.slice rva rn' rc) (F1 ++ [(v1, v2)]) (A ++ c :: Q ++ F2) ∧ Below W2.heap.size W2 w4 ∧ Km V w10 w4 ∧ Kb V w10 (.slice ka' (kn + 1) kc')) := by
                have ha := below_alloc w3 (.cells #[.int .i64 v1, .int .i64 v2] 49)
                have hl : (Value.slice ka' (kn + 1) kc').ownBlock = (Value.slice ka kn kc).ownBlock ∨ (Value.slice ka' (kn + 1) kc').ownBlock = some (w3.alloc (.cells #[.int .i64 v1, .int .i64 v2] 49)).heap.size := by
                  rcases hloc with h | ⟨h, _⟩
                  · exact .inl h
                  · exact .inr (by simpa using h)
                have hm := HI3.out.2.2.below ha
                refine ⟨(HI3.out.1.below ha).know ?_ hgr hl, (HI3.out.2.1.alloc hsz _).grown hgr (by simp; omega) (fun g hg => (HO3.out.lt g hg).1), hm.grown HL3.out.2.2.1 hgr, HL3.out.2.2.1.grown hm hl⟩
                rw [HL3.out.1, flatN_append]
                exact hown
              clear hown hgr hloc HO3 hnews k0 k1 hsz HI3
              have hi63 : i < (A ++ c :: Q ++ F2).length := by rw [List.length_append, List.length_append, hA.out]; simp; omega
              have hgc : (A ++ c :: Q ++ F2)[i] = c := by
                rw [List.getElem_append_left (by rw [List.length_append, hA.out]; simp), List.getElem_append_right (by rw [hA.out]; exact Nat.le_refl _)]
                simp [hA.out]
              obtain ⟨rb, pb, pc, L', rfl, -, hcl, r0, hown, -, -, hrb, hpb, hpc'⟩ := Pq.at HI4.out.1 rfl hi63 (by rw [hgc]; intro e; have := HC.out.2.1; rw [e] at this; simp at this)
              rw [hgc] at hcl hown
              obtain rfl : L' = L := by have := HC.out.2.1; omega
              obtain ⟨p0, p1, hmb⟩ := HMX.out w4 HI4.out.2.2.1
              have hLU : L' ≤ 1000000000 := by
                have h1 := (HPA.out.len.2 c (by simp)).2
                rw [HV.out.2.2.2] at h1
                omega
              have hirn : i < rn' := by have := HL3.out.2.1; omega
              have hirnI : (i : Int) < (rn' : Int) := by omega
              have HCL : Hid ((flatN c.reverse).length = (L' + 1) * 2) := by
                show _ = _
                rw [flatN_length, List.length_reverse, hcl]
              have hS15 : PsS rb i (.slice (some ⟨pb, 0, none⟩) (L' + 1) pc) mb (mo + k * 2) v1 v2 w4.drew := psS_to r0 p0 p1 hrb hmb (Below.refl _ w4).drew
              have HSto : Hid (∀ W, Below w4.heap.size w4 W → PsS rb i (.slice (some ⟨pb, 0, none⟩) (L' + 1) pc) mb (mo + k * 2) v1 v2 W) := fun W hW => psS_to r0 p0 p1 hrb hmb hW
              obtain ⟨us, HUS⟩ : ∃ us, Hid (w4.ownsRow W2.heap.size 23 1 (.slice (some ⟨rb, 0, none⟩) rn' rc) rn' us ∧ ∀ (j : Nat) (u : Value) (d : List Nm), us[j]? = some u → (A ++ c :: Q ++ F2)[j]? = some d → OwnN w4 W2.heap.size u d.reverse ∧ ∀ g, u.ownBlock = some g → (Value.slice ka' (kn + 1) kc').ownBlock ≠ some g) := by
                obtain ⟨us, h1, h2⟩ := HI4.out.1.rw
                rw [HL3.out.2.1] at h1
                exact ⟨us, h1, h2⟩
              obtain ⟨WE, hWE⟩ : ∃ W, w4.drew = W := ⟨_, rfl⟩
              have HD : Hid (Below w4.heap.size w4 WE) := by rw [← hWE]; exact (Below.refl _ w4).drew
              have HCO : Hid (OwnN w4 W2.heap.size (.slice (some ⟨pb, 0, none⟩) (L' + 1) pc) c.reverse) := hown
              have HX : Hid (∀ (X : World) (z : Nat), Below w4.heap.size w4 X → X.heap[z]? = some (.cells #[] 49 (0, 0)) → w4.heap.size ≤ z → X.ownsRow w4.heap.size 49 2 (.slice (some ⟨z, 0, none⟩) 0 0) 0 [] ∧ (∀ j u, (flatN c.reverse)[j]? = some u → X.cell? ((⟨pb, 0, none⟩ : Addr).add j) = some u) ∧ w4.heap.size ≤ X.heap.size) := by
                intro X z hX hz0 hz1
                have h2 : OwnN X W2.heap.size (.slice (some ⟨pb, 0, none⟩) (L' + 1) pc) c.reverse := owns_below HCO.out hX
                refine ⟨⟨rfl, .inr ⟨z, 0, #[], rfl, hz1, hz0, Nat.le_refl _, by simp, rfl, rfl⟩⟩, ?_, hX.size⟩
                obtain ⟨b', o', e1, hr⟩ : ∃ b' o', (some ⟨pb, 0, none⟩ : Option Addr) = some ⟨b', o', none⟩ ∧ ∀ j u, (flatN c.reverse)[j]? = some u → X.cell? ⟨b', o' + j, none⟩ = some u := by
                  rcases h2.2 with ⟨e, _⟩ | ⟨g, cap, cur, e, g1, g2, _, _, _, g6⟩
                  · simp at e
                  · simp only [Value.slice.injEq] at e
                    exact ⟨g, 0, e.1, range_of_owns g2 g6⟩
                simp only [Option.some.injEq, Addr.mk.injEq, and_true] at e1
                obtain ⟨rfl, rfl⟩ := e1
                exact fun j u hu => by rw [Addr.add_mid]; exact hr j u hu
              have HWA : Hid (Below w4.heap.size w4 (WE.alloc (.cells #[] 49)) ∧ (WE.alloc (.cells #[] 49)).heap[WE.heap.size]? = some (.cells #[] 49 (0, 0)) ∧ w4.heap.size ≤ WE.heap.size) := ⟨HD.out.alloc HD.out.size _, heap_alloc_new WE _, HD.out.size⟩
              have HWB : Hid (Below w4.heap.size w4 ((WE.alloc (.cells #[] 49)).alloc (.cells #[.int .i64 v1, .int .i64 v2] 49)) ∧ ((WE.alloc (.cells #[] 49)).alloc (.cells #[.int .i64 v1, .int .i64 v2] 49)).heap[WE.heap.size]? = some (.cells #[] 49 (0, 0)) ∧ (∀ j x, (flatN [(v1, v2)])[j]? = some x → ((WE.alloc (.cells #[] 49)).alloc (.cells #[.int .i64 v1, .int .i64 v2] 49)).cell? ((⟨WE.heap.size + 1, 0, none⟩ : Addr).add j) = some x)) := by
                have h := newsN_new (WE.alloc (.cells #[] 49)) (v1, v2)
                refine ⟨HWA.out.1.alloc HWA.out.1.size _, ?_, by simpa using h⟩
                rw [heap_alloc_old _ _ (by simp)]
                exact HWA.out.2.1
              have HWC : Hid (Below w4.heap.size w4 (WE.alloc (.cells #[.int .i64 v1, .int .i64 v2] 49)) ∧ Below w4.heap.size w4 ((WE.alloc (.cells #[.int .i64 v1, .int .i64 v2] 49)).alloc (.cells #[] 49)) ∧ ((WE.alloc (.cells #[.int .i64 v1, .int .i64 v2] 49)).alloc (.cells #[] 49)).heap[WE.heap.size + 1]? = some (.cells #[] 49 (0, 0)) ∧ (∀ j x, (flatN [(v1, v2)])[j]? = some x → ((WE.alloc (.cells #[.int .i64 v1, .int .i64 v2] 49)).alloc (.cells #[] 49)).cell? ((⟨WE.heap.size, 0, none⟩ : Addr).add j) = some x)) := by
                have h := newsN_new WE (v1, v2)
                have h1 : Below w4.heap.size w4 (WE.alloc (.cells #[.int .i64 v1, .int .i64 v2] 49)) := HD.out.alloc HD.out.size _
                refine ⟨h1, h1.alloc h1.size _, by simpa using heap_alloc_new (WE.alloc (.cells #[.int .i64 v1, .int .i64 v2] 49)) (.cells #[] 49), fun j x hx => ?_⟩
                exact Go.Lib.cell?_alloc_some _ (h j x hx)
              have HE2f : Hid (∀ (ea : Option Addr) (ec : Nat) (da : Option Addr) (dc nb : Nat) (u u6 : World), Mh w4 c L' v1 v2 u da dc nb → u6.ownsRow w4.heap.size 49 2 (.slice ea (L' + 1 + 1) ec) (L' + 1 + 1) (flatN c.reverse ++ flatN [(v1, v2)]) → u.grownBy u6 (Value.slice da (L' + 1) dc).ownBlock → Hid (PsS rb i (.slice (some ⟨pb, 0, none⟩) (L' + 1) pc) mb (mo + k * 2) v1 v2 u6 ∧ PsS rb i (.slice (some ⟨pb, 0, none⟩) (L' + 1) pc) mb (mo + k * 2) v1 v2 (u6.alloc (.cells #[.slice ea (L' + 1 + 1) ec] 23)) ∧ (u6.alloc (.cells #[.slice ea (L' + 1 + 1) ec] 23)).ownsRow W2.heap.size 23 1 (.slice (some ⟨rb, 0, none⟩) rn' rc) rn' us ∧ (∀ j u, [Value.slice ea (L' + 1 + 1) ec][j]? = some u → (u6.alloc (.cells #[.slice ea (L' + 1 + 1) ec] 23)).cell? ((⟨u6.heap.size, 0, none⟩ : Addr).add j) = some u) ∧ W2.heap.size ≤ (u6.alloc (.cells #[.slice ea (L' + 1 + 1) ec] 23)).heap.size ∧ Below w4.heap.size w4 (u6.alloc (.cells #[.slice ea (L' + 1 + 1) ec] 23)) ∧ OwnN (u6.alloc (.cells #[.slice ea (L' + 1 + 1) ec] 23)) w4.heap.size (.slice ea (L' + 1 + 1) ec) ((v1, v2) :: c).reverse)) := fun ea ec da dc nb u u6 hMh hown hgr => by
                have h1 : Below w4.heap.size w4 u6 := hMh.1.grown hgr hMh.1.size (fun g hg => (hMh.2.1.lt g hg).1)
                have h2 : Below w4.heap.size w4 (u6.alloc (.cells #[.slice ea (L' + 1 + 1) ec] 23)) := h1.alloc h1.size _
                refine ⟨HSto.out _ h1, HSto.out _ h2, owns_below' HUS.out.1 h2, ?_, Nat.le_trans HI4.out.2.1.size h2.size, h2, ?_⟩
                · intro j u hu
                  have hj : j = 0 := by
                    have := (List.getElem?_eq_some_iff.1 hu).1
                    simpa using this
                  subst hj
                  simp only [List.getElem?_cons_zero, Option.some.injEq] at hu
                  subst hu
                  exact cell_new0 u6 _ _
                · have e1 : ((v1, v2) :: c).reverse.length = L' + 1 + 1 := by
                    rw [List.length_reverse, List.length_cons, HC.out.2.1]
                  show World.ownsRow _ _ _ _ _ _ _
                  rw [e1, List.reverse_cons, flatN_append]
                  exact hown.alloc _
              have HE3f : Hid (∀ (ea : Option Addr) (ec : Nat) (fa : Option Addr) (fc : Nat) (u6 u7 : World), Below w4.heap.size w4 (u6.alloc (.cells #[.slice ea (L' + 1 + 1) ec] 23)) → OwnN (u6.alloc (.cells #[.slice ea (L' + 1 + 1) ec] 23)) w4.heap.size (.slice ea (L' + 1 + 1) ec) ((v1, v2) :: c).reverse → u7.ownsRow W2.heap.size 23 1 (.slice fa (rn' + 1) fc) (rn' + 1) (us ++ [.slice ea (L' + 1 + 1) ec]) → (u6.alloc (.cells #[.slice ea (L' + 1 + 1) ec] 23)).grownBy u7 (Value.slice (some ⟨rb, 0, none⟩) rn' rc).ownBlock → ((Value.slice fa (rn' + 1) fc).ownBlock = (Value.slice (some ⟨rb, 0, none⟩) rn' rc).ownBlock ∨ ((Value.slice fa (rn' + 1) fc).ownBlock = some (u6.alloc (.cells #[.slice ea (L' + 1 + 1) ec] 23)).heap.size ∧ (u6.alloc (.cells #[.slice ea (L' + 1 + 1) ec] 23)).grownBy u7 none)) → Hid (PsS rb i (.slice (some ⟨pb, 0, none⟩) (L' + 1) pc) mb (mo + k * 2) v1 v2 u7 ∧ (firstF known c ((leadsH m (l1, l2)).take (k + 1))).1.length = kn + 1 ∧ (A ++ c :: Q ++ (firstF known c ((leadsH m (l1, l2)).take (k + 1))).2).length = rn' + 1 ∧ Pq u7 W2.heap.size (.slice ka' (kn + 1) kc') (.slice fa (rn' + 1) fc) (firstF known c ((leadsH m (l1, l2)).take (k + 1))).1 (A ++ c :: Q ++ (firstF known c ((leadsH m (l1, l2)).take (k + 1))).2) ∧ Below W2.heap.size W2 u7 ∧ Km V w10 u7 ∧ Kb V w10 (.slice ka' (kn + 1) kc') ∧ Kb V w10 (.slice fa (rn' + 1) fc))) := fun ea ec fa fc u6 u7 hb ho hown hgr hloc' => by
                rw [HFS.out]
                have hloc : (Value.slice fa (rn' + 1) fc).ownBlock = (Value.slice (some ⟨rb, 0, none⟩) rn' rc).ownBlock ∨ (Value.slice fa (rn' + 1) fc).ownBlock = some (u6.alloc (.cells #[.slice ea (L' + 1 + 1) ec] 23)).heap.size := hloc'.imp id fun h => h.1
                dsimp only
                have hm := HI4.out.2.2.1.below hb
                have h2 : Below W2.heap.size W2 (u6.alloc (.cells #[.slice ea (L' + 1 + 1) ec] 23)) := HI4.out.2.1.trans (hb.mono HI4.out.2.1.size)
                have e3 : A ++ c :: Q ++ (F2 ++ [(v1, v2) :: c]) = A ++ c :: Q ++ F2 ++ [(v1, v2) :: c] := by simp
                rw [e3]
                have hm7 : Km V w10 u7 := hm.grown HL3.out.2.2.2 hgr
                obtain ⟨m0, m1, _⟩ := HMX.out u7 hm7
                refine ⟨⟨row_stays (owns_below' HUS.out.1 hb) hown hloc' (by omega) (HSto.out _ hb).1, m0, m1⟩, by rw [List.length_append, HL3.out.1]; rfl, by rw [List.length_append, HL3.out.2.1]; rfl, ?_, h2.grown hgr h2.size (fun g hg => (HUS.out.1.lt g hg).1), hm7, HI4.out.2.2.2, HL3.out.2.2.2.grown hm hloc⟩
                refine HI4.out.1.more hb us ?_ HUS.out.2 (row_low ho HI4.out.2.1.size) (fun g hg => (ho.lt g hg).1) ?_ hgr
                · rw [HL3.out.2.1]
                  exact HUS.out.1
                · rw [HL3.out.2.1]
                  exact hown
              clear r0 p0 p1 hrb hmb hown hcl hgc hi63 HD
              go_wp2_with fail
              refine wp_region_noPanic ?_
              refine wp_region_held_drew (S := PsS rb i (.slice (some ⟨pb, 0, none⟩) (L' + 1) pc) mb (mo + k * 2) v1 v2) (by kernel_rfl) hS15 (fun hHeld => ?_)
              refine wpAnyH_take (i := 0) (v := ?_) (by simp only [List.getElem?_toArray, List.getElem?_cons_zero]; rfl) (by kernel_rfl) (by kernel_rfl) (by kernel_rfl) (fun _ _ _ h => h) (Or.inl ⟨by rfl, ?_⟩) (by assumption) ?_; rotate_left; (· (intro w hSw; (try dsimp only at hSw); go_simp <;> with_reducible rfl)); try simp only [Act.put, List.setIfInBounds_toArray, List.set_cons_zero, List.set_cons_succ]
              refine wpAnyH_take (i := 2) (v := ?_) (by simp only [List.getElem?_toArray, List.getElem?_cons_zero, List.getElem?_cons_succ]; rfl) (by kernel_rfl) (by kernel_rfl) (by kernel_rfl) (fun _ _ _ h => h) (Or.inl ⟨by rfl, ?_⟩) (by assumption) ?_; rotate_left; (· (intro w hSw; (try dsimp only at hSw); go_simp <;> with_reducible rfl)); try simp only [Act.put, List.setIfInBounds_toArray, List.set_cons_zero, List.set_cons_succ]
              refine wpAnyH_take (i := 3) (v := ?_) (by simp only [List.getElem?_toArray, List.getElem?_cons_zero, List.getElem?_cons_succ]; rfl) (by kernel_rfl) (by kernel_rfl) (by kernel_rfl) (fun _ _ _ h => h) (Or.inl ⟨by rfl, ?_⟩) (by assumption) ?_; rotate_left; (· (intro w hSw; (try dsimp only at hSw); go_simp <;> with_reducible rfl)); try simp only [Act.put, List.setIfInBounds_toArray, List.set_cons_zero, List.set_cons_succ]
              refine wpAnyH_take (i := 4) (v := ?_) (by simp only [List.getElem?_toArray, List.getElem?_cons_zero, List.getElem?_cons_succ]; rfl) (by kernel_rfl) (by kernel_rfl) (by kernel_rfl) (fun _ _ _ h => h) (Or.inl ⟨by rfl, ?_⟩) (by assumption) ?_; rotate_left; (· (intro w hSw; (try dsimp only at hSw); go_simp <;> with_reducible rfl)); try simp only [Act.put, List.setIfInBounds_toArray, List.set_cons_zero, List.set_cons_succ]
              refine wpAnyH_take (i := 5) (v := ?_) (by simp only [List.getElem?_toArray, List.getElem?_cons_zero, List.getElem?_cons_succ]; rfl) (by kernel_rfl) (by kernel_rfl) (by kernel_rfl) (fun _ _ _ h => h) (Or.inl ⟨by rfl, ?_⟩) (by assumption) ?_; rotate_left; (· (intro w hSw; (try dsimp only at hSw); go_simp <;> with_reducible rfl)); try simp only [Act.put, List.setIfInBounds_toArray, List.set_cons_zero, List.set_cons_succ]
              refine wpAnyH_take (i := 7) (v := ?_) (by simp only [List.getElem?_toArray, List.getElem?_cons_zero, List.getElem?_cons_succ]; rfl) (by kernel_rfl) (by kernel_rfl) (by kernel_rfl) (fun _ _ _ h => h) (Or.inl ⟨by rfl, ?_⟩) (by assumption) ?_; rotate_left; (· (intro w hSw; (try dsimp only at hSw); go_simp <;> with_reducible rfl)); try simp only [Act.put, List.setIfInBounds_toArray, List.set_cons_zero, List.set_cons_succ]
              refine wpAnyH_take (i := 8) (v := ?_) (by simp only [List.getElem?_toArray, List.getElem?_cons_zero, List.getElem?_cons_succ]; rfl) (by kernel_rfl) (by kernel_rfl) (by kernel_rfl) (fun _ _ _ h => h) (Or.inl ⟨by rfl, ?_⟩) (by assumption) ?_; rotate_left; (· (intro w hSw; (try dsimp only at hSw); go_simp <;> with_reducible rfl)); try simp only [Act.put, List.setIfInBounds_toArray, List.set_cons_zero, List.set_cons_succ]
              refine wpAnyH_take (i := 9) (v := ?_) (by simp only [List.getElem?_toArray, List.getElem?_cons_zero, List.getElem?_cons_succ]; rfl) (by kernel_rfl) (by kernel_rfl) (by kernel_rfl) (fun _ _ _ h => h) (Or.inl ⟨by rfl, ?_⟩) (by assumption) ?_; rotate_left; (· (intro w hSw; (try dsimp only at hSw); go_simp <;> with_reducible rfl)); try simp only [Act.put, List.setIfInBounds_toArray, List.set_cons_zero, List.set_cons_succ]
              refine wpAnyH_take (i := 10) (v := ?_) (by simp only [List.getElem?_toArray, List.getElem?_cons_zero, List.getElem?_cons_succ]; rfl) (by kernel_rfl) (by kernel_rfl) (by kernel_rfl) (fun _ _ _ h => h) (Or.inl ⟨by rfl, ?_⟩) (by assumption) ?_; rotate_left; (· (intro w hSw; (try dsimp only at hSw); go_simp <;> with_reducible rfl)); try simp only [Act.put, List.setIfInBounds_toArray, List.set_cons_zero, List.set_cons_succ]
              refine wpAnyH_ready (rs := [1, 11]) (by kernel_rfl) (by simp) ?_
              refine AllReadyH.cons (by simp only [List.getElem?_toArray, List.getElem?_cons_zero, List.getElem?_cons_succ]; rfl) (fun K hK => ?_) (AllReadyH.cons (by simp only [List.getElem?_toArray, List.getElem?_cons_zero, List.getElem?_cons_succ]; rfl) (fun K hK => ?_) AllReadyH.nil)
              · go_simp
                refine hK.out _ _ (HSto.out _ HWA.out.1) (fun hHeld => ?_)
                clear hK K
                try simp only [Act.put, List.setIfInBounds_toArray, List.set_cons_zero, List.set_cons_succ]
                refine wpAnyH_ready (rs := [6, 11]) (by kernel_rfl) (by simp) ?_
                refine AllReadyH.cons (by simp only [List.getElem?_toArray, List.getElem?_cons_zero, List.getElem?_cons_succ]; rfl) (fun K hK => ?_) (AllReadyH.cons (by simp only [List.getElem?_toArray, List.getElem?_cons_zero, List.getElem?_cons_succ]; rfl) (fun K hK => ?_) AllReadyH.nil)
                · have HXA := HX.out _ _ HWA.out.1 HWA.out.2.1 HWA.out.2.2
                  refine stepH_append (by rfl) _ _ 23 (by rfl) w4.heap.size 49 i0 (.agg #[.int .i64 0, .int .i64 0]) 2 16 Tryz.underlying23 hi hz hs hby rfl (by decide) _ _ _ (by rfl) HXA.1 ⟨pb, 0, none⟩ (L' + 1) pc (flatN c.reverse) (by rfl) HCL.out HXA.2.1 (flatN_one _) (by unfold maxLen; omega) (by omega) HXA.2.2 ?_
                  intro v' w5 hown hgr _
                  rw [Nat.zero_add, List.nil_append] at hown
                  obtain ⟨da, dc, hvf⟩ := Bk.rowv_form hown
                  subst hvf
                  obtain ⟨hb5, hm5⟩ := mh_a (v1 := v1) (v2 := v2) HWA.out.1 HWA.out.2.2 hown hgr
                  have HM : Hid (_ ∧ _) := hm5
                  refine hK.out _ _ (HSto.out _ hb5) (fun hHeld => ?_)
                  clear hown hgr HXA hb5 hm5
                  clear hK K
                  try simp only [Act.put, List.setIfInBounds_toArray, List.set_cons_zero, List.set_cons_succ]
                  refine wpAnyH_ready (rs := [11]) (by kernel_rfl) (by simp) ?_
                  refine AllReadyH.cons (by simp only [List.getElem?_toArray, List.getElem?_cons_zero, List.getElem?_cons_succ]; rfl) (fun K hK => ?_) AllReadyH.nil
                  go_simp
                  refine hK.out _ _ (HSto.out _ HM.out.1) (fun hHeld => ?_)
                  clear hK K
                  try simp only [Act.put, List.setIfInBounds_toArray, List.set_cons_zero, List.set_cons_succ]
                  refine wpAnyH_ready (rs := [12]) (by kernel_rfl) (by simp) ?_
                  refine AllReadyH.cons (by simp only [List.getElem?_toArray, List.getElem?_cons_zero, List.getElem?_cons_succ]; rfl) (fun K hK => ?_) AllReadyH.nil
                  refine stepH_append (by rfl) _ _ 23 (by rfl) w4.heap.size 49 i0 (.agg #[.int .i64 0, .int .i64 0]) 2 16 Tryz.underlying23 hi hz hs hby rfl (by decide) _ _ _ (by rfl) HM.out.2.1 ⟨w5.heap.size, 0, none⟩ 1 1 (flatN [(v1, v2)]) (by rfl) hlen.out HM.out.2.2.1 (flatN_one _) (by unfold maxLen; omega) (by omega) HM.out.2.2.2 ?_
                  intro v' w6 hown hgr _
                  obtain ⟨ea, ec, hvf⟩ := Bk.rowv_form hown
                  subst hvf
                  have HE2 := HE2f.out ea ec da dc _ _ w6 HM.out hown hgr
                  refine hK.out _ _ HE2.out.1 (fun hHeld => ?_)
                  clear hown hgr HM
                  clear hK K
                  try simp only [Act.put, List.setIfInBounds_toArray, List.set_cons_zero, List.set_cons_succ]
                  refine wpAnyH_ready (rs := [13]) (by kernel_rfl) (by simp) ?_
                  refine AllReadyH.cons (by simp only [List.getElem?_toArray, List.getElem?_cons_zero, List.getElem?_cons_succ]; rfl) (fun K hK => ?_) AllReadyH.nil
                  go_simp
                  refine hK.out _ _ HE2.out.2.1 (fun hHeld => ?_)
                  clear hK K
                  try simp only [Act.put, List.setIfInBounds_toArray, List.set_cons_zero, List.set_cons_succ]
                  refine wpAnyH_ready (rs := [14]) (by kernel_rfl) (by simp) ?_
                  refine AllReadyH.cons (by simp only [List.getElem?_toArray, List.getElem?_cons_zero, List.getElem?_cons_succ]; rfl) (fun K hK => ?_) AllReadyH.nil
                  refine stepH_append_two (by rfl) _ _ 42 (by rfl) W2.heap.size 23 i36 (.slice none 0 0) 1 24 Tryz.underlying42 ki kz ks kby rfl (by decide) _ _ _ (by rfl) HE2.out.2.2.1 ⟨w6.heap.size, 0, none⟩ 1 1 [.slice ea (L' + 1 + 1) ec] (by rfl) rfl HE2.out.2.2.2.1 (fun u hu => by simp at hu; subst hu; rfl) (by unfold maxLen; omega) (by omega) HE2.out.2.2.2.2.1 ?_
                  intro v' w7 hown hgr hloc
                  obtain ⟨fa, fc, hvf⟩ := Bk.rowv_form hown
                  subst hvf
                  have HE3 := HE3f.out ea ec fa fc w6 w7 HE2.out.2.2.2.2.2.1 HE2.out.2.2.2.2.2.2 hown hgr hloc
                  refine hK.out _ _ HE3.out.1 (fun hHeld => ?_)
                  clear hown hgr hloc HE2
                  clear hK K
                  try simp only [Act.put, List.setIfInBounds_toArray, List.set_cons_zero, List.set_cons_succ]
                  refine wpAnyH_take (i := 15) (v := ?_) (by simp only [List.getElem?_toArray, List.getElem?_cons_zero, List.getElem?_cons_succ]; rfl) (by kernel_rfl) (by kernel_rfl) (by kernel_rfl) (fun _ _ _ h => h) (Or.inl ⟨by rfl, ?_⟩) (by assumption) ?_; rotate_left; (· (intro w hSw; (try dsimp only at hSw); go_simp <;> with_reducible rfl)); try simp only [Act.put, List.setIfInBounds_toArray, List.set_cons_zero, List.set_cons_succ]
                  refine wpAnyH_done (by kernel_rfl) ?_ _
                  refine NoPanic.normal ?_
                  clear hS15 HSto HUS HE2f HE3f HX HWA HWB HWC hHeld hWE
                  go_wp2_with fail
                  go_roundw
                  case rel => exact ⟨k + 1, ka', kn + 1, kc', fa, rn' + 1, fc, rfl, rfl, by go_num, by omega, HE3.out.2⟩
                  case measure => simp [intOf]; omega
                · go_simp
                  refine hK.out _ _ (HSto.out _ HWB.out.1) (fun hHeld => ?_)
                  clear hK K
                  try simp only [Act.put, List.setIfInBounds_toArray, List.set_cons_zero, List.set_cons_succ]
                  refine wpAnyH_ready (rs := [6]) (by kernel_rfl) (by simp) ?_
                  refine AllReadyH.cons (by simp only [List.getElem?_toArray, List.getElem?_cons_zero, List.getElem?_cons_succ]; rfl) (fun K hK => ?_) AllReadyH.nil
                  have HXA := HX.out _ _ HWB.out.1 HWB.out.2.1 HWA.out.2.2
                  refine stepH_append (by rfl) _ _ 23 (by rfl) w4.heap.size 49 i0 (.agg #[.int .i64 0, .int .i64 0]) 2 16 Tryz.underlying23 hi hz hs hby rfl (by decide) _ _ _ (by rfl) HXA.1 ⟨pb, 0, none⟩ (L' + 1) pc (flatN c.reverse) (by rfl) HCL.out HXA.2.1 (flatN_one _) (by unfold maxLen; omega) (by omega) HXA.2.2 ?_
                  intro v' w5 hown hgr _
                  rw [Nat.zero_add, List.nil_append] at hown
                  obtain ⟨da, dc, hvf⟩ := Bk.rowv_form hown
                  subst hvf
                  have hm5 := mh_b (nb := WE.heap.size + 1) HWB.out.1 HWA.out.2.2 HWB.out.2.2 (by omega) (by simp) hown hgr
                  have HM : Hid (_ ∧ _) := hm5
                  refine hK.out _ _ (HSto.out _ HM.out.1) (fun hHeld => ?_)
                  clear hown hgr HXA hm5
                  clear hK K
                  try simp only [Act.put, List.setIfInBounds_toArray, List.set_cons_zero, List.set_cons_succ]
                  refine wpAnyH_ready (rs := [12]) (by kernel_rfl) (by simp) ?_
                  refine AllReadyH.cons (by simp only [List.getElem?_toArray, List.getElem?_cons_zero, List.getElem?_cons_succ]; rfl) (fun K hK => ?_) AllReadyH.nil
                  refine stepH_append (by rfl) _ _ 23 (by rfl) w4.heap.size 49 i0 (.agg #[.int .i64 0, .int .i64 0]) 2 16 Tryz.underlying23 hi hz hs hby rfl (by decide) _ _ _ (by rfl) HM.out.2.1 ⟨WE.heap.size + 1, 0, none⟩ 1 1 (flatN [(v1, v2)]) (by rfl) hlen.out HM.out.2.2.1 (flatN_one _) (by unfold maxLen; omega) (by omega) HM.out.2.2.2 ?_
                  intro v' w6 hown hgr _
                  obtain ⟨ea, ec, hvf⟩ := Bk.rowv_form hown
                  subst hvf
                  have HE2 := HE2f.out ea ec da dc _ _ w6 HM.out hown hgr
                  refine hK.out _ _ HE2.out.1 (fun hHeld => ?_)
                  clear hown hgr HM
                  clear hK K
                  try simp only [Act.put, List.setIfInBounds_toArray, List.set_cons_zero, List.set_cons_succ]
                  refine wpAnyH_ready (rs := [13]) (by kernel_rfl) (by simp) ?_
                  refine AllReadyH.cons (by simp only [List.getElem?_toArray, List.getElem?_cons_zero, List.getElem?_cons_succ]; rfl) (fun K hK => ?_) AllReadyH.nil
                  go_simp
                  refine hK.out _ _ HE2.out.2.1 (fun hHeld => ?_)
                  clear hK K
                  try simp only [Act.put, List.setIfInBounds_toArray, List.set_cons_zero, List.set_cons_succ]
                  refine wpAnyH_ready (rs := [14]) (by kernel_rfl) (by simp) ?_
                  refine AllReadyH.cons (by simp only [List.getElem?_toArray, List.getElem?_cons_zero, List.getElem?_cons_succ]; rfl) (fun K hK => ?_) AllReadyH.nil
                  refine stepH_append_two (by rfl) _ _ 42 (by rfl) W2.heap.size 23 i36 (.slice none 0 0) 1 24 Tryz.underlying42 ki kz ks kby rfl (by decide) _ _ _ (by rfl) HE2.out.2.2.1 ⟨w6.heap.size, 0, none⟩ 1 1 [.slice ea (L' + 1 + 1) ec] (by rfl) rfl HE2.out.2.2.2.1 (fun u hu => by simp at hu; subst hu; rfl) (by unfold maxLen; omega) (by omega) HE2.out.2.2.2.2.1 ?_
                  intro v' w7 hown hgr hloc
                  obtain ⟨fa, fc, hvf⟩ := Bk.rowv_form hown
                  subst hvf
                  have HE3 := HE3f.out ea ec fa fc w6 w7 HE2.out.2.2.2.2.2.1 HE2.out.2.2.2.2.2.2 hown hgr hloc
                  refine hK.out _ _ HE3.out.1 (fun hHeld => ?_)
                  clear hown hgr hloc HE2
                  clear hK K
                  try simp only [Act.put, List.setIfInBounds_toArray, List.set_cons_zero, List.set_cons_succ]
                  refine wpAnyH_take (i := 15) (v := ?_) (by simp only [List.getElem?_toArray, List.getElem?_cons_zero, List.getElem?_cons_succ]; rfl) (by kernel_rfl) (by kernel_rfl) (by kernel_rfl) (fun _ _ _ h => h) (Or.inl ⟨by rfl, ?_⟩) (by assumption) ?_; rotate_left; (· (intro w hSw; (try dsimp only at hSw); go_simp <;> with_reducible rfl)); try simp only [Act.put, List.setIfInBounds_toArray, List.set_cons_zero, List.set_cons_succ]
                  refine wpAnyH_done (by kernel_rfl) ?_ _
                  refine NoPanic.normal ?_
                  clear hS15 HSto HUS HE2f HE3f HX HWA HWB HWC hHeld hWE
                  go_wp2_with fail
                  go_roundw
                  case rel => exact ⟨k + 1, ka', kn + 1, kc', fa, rn' + 1, fc, rfl, rfl, by go_num, by omega, HE3.out.2⟩
                  case measure => simp [intOf]; omega
              · go_simp
                refine hK.out _ _ (HSto.out _ HWC.out.1) (fun hHeld => ?_)
                clear hK K
                try simp only [Act.put, List.setIfInBounds_toArray, List.set_cons_zero, List.set_cons_succ]
                refine wpAnyH_ready (rs := [1]) (by kernel_rfl) (by simp) ?_
                refine AllReadyH.cons (by simp only [List.getElem?_toArray, List.getElem?_cons_zero, List.getElem?_cons_succ]; rfl) (fun K hK => ?_) AllReadyH.nil
                go_simp
                refine hK.out _ _ (HSto.out _ HWC.out.2.1) (fun hHeld => ?_)
                clear hK K
                try simp only [Act.put, List.setIfInBounds_toArray, List.set_cons_zero, List.set_cons_succ]
                refine wpAnyH_ready (rs := [6]) (by kernel_rfl) (by simp) ?_
                refine AllReadyH.cons (by simp only [List.getElem?_toArray, List.getElem?_cons_zero, List.getElem?_cons_succ]; rfl) (fun K hK => ?_) AllReadyH.nil
                have HXA := HX.out _ _ HWC.out.2.1 HWC.out.2.2.1 (Nat.le_succ_of_le HWA.out.2.2)
                refine stepH_append (by rfl) _ _ 23 (by rfl) w4.heap.size 49 i0 (.agg #[.int .i64 0, .int .i64 0]) 2 16 Tryz.underlying23 hi hz hs hby rfl (by decide) _ _ _ (by rfl) HXA.1 ⟨pb, 0, none⟩ (L' + 1) pc (flatN c.reverse) (by rfl) HCL.out HXA.2.1 (flatN_one _) (by unfold maxLen; omega) (by omega) HXA.2.2 ?_
                intro v' w5 hown hgr _
                rw [Nat.zero_add, List.nil_append] at hown
                obtain ⟨da, dc, hvf⟩ := Bk.rowv_form hown
                subst hvf
                have hm5 := mh_b (nb := WE.heap.size) HWC.out.2.1 (Nat.le_succ_of_le HWA.out.2.2) HWC.out.2.2.2 (by omega) (by simp; omega) hown hgr
                have HM : Hid (_ ∧ _) := hm5
                refine hK.out _ _ (HSto.out _ HM.out.1) (fun hHeld => ?_)
                clear hown hgr HXA hm5
                clear hK K
                try simp only [Act.put, List.setIfInBounds_toArray, List.set_cons_zero, List.set_cons_succ]
                refine wpAnyH_ready (rs := [12]) (by kernel_rfl) (by simp) ?_
                refine AllReadyH.cons (by simp only [List.getElem?_toArray, List.getElem?_cons_zero, List.getElem?_cons_succ]; rfl) (fun K hK => ?_) AllReadyH.nil
                refine stepH_append (by rfl) _ _ 23 (by rfl) w4.heap.size 49 i0 (.agg #[.int .i64 0, .int .i64 0]) 2 16 Tryz.underlying23 hi hz hs hby rfl (by decide) _ _ _ (by rfl) HM.out.2.1 ⟨WE.heap.size, 0, none⟩ 1 1 (flatN [(v1, v2)]) (by rfl) hlen.out HM.out.2.2.1 (flatN_one _) (by unfold maxLen; omega) (by omega) HM.out.2.2.2 ?_
                intro v' w6 hown hgr _
                obtain ⟨ea, ec, hvf⟩ := Bk.rowv_form hown
                subst hvf
                have HE2 := HE2f.out ea ec da dc _ _ w6 HM.out hown hgr
                refine hK.out _ _ HE2.out.1 (fun hHeld => ?_)
                clear hown hgr HM
                clear hK K
                try simp only [Act.put, List.setIfInBounds_toArray, List.set_cons_zero, List.set_cons_succ]
                refine wpAnyH_ready (rs := [13]) (by kernel_rfl) (by simp) ?_
                refine AllReadyH.cons (by simp only [List.getElem?_toArray, List.getElem?_cons_zero, List.getElem?_cons_succ]; rfl) (fun K hK => ?_) AllReadyH.nil
                go_simp
                refine hK.out _ _ HE2.out.2.1 (fun hHeld => ?_)
                clear hK K
                try simp only [Act.put, List.setIfInBounds_toArray, List.set_cons_zero, List.set_cons_succ]
                refine wpAnyH_ready (rs := [14]) (by kernel_rfl) (by simp) ?_
                refine AllReadyH.cons (by simp only [List.getElem?_toArray, List.getElem?_cons_zero, List.getElem?_cons_succ]; rfl) (fun K hK => ?_) AllReadyH.nil
                refine stepH_append_two (by rfl) _ _ 42 (by rfl) W2.heap.size 23 i36 (.slice none 0 0) 1 24 Tryz.underlying42 ki kz ks kby rfl (by decide) _ _ _ (by rfl) HE2.out.2.2.1 ⟨w6.heap.size, 0, none⟩ 1 1 [.slice ea (L' + 1 + 1) ec] (by rfl) rfl HE2.out.2.2.2.1 (fun u hu => by simp at hu; subst hu; rfl) (by unfold maxLen; omega) (by omega) HE2.out.2.2.2.2.1 ?_
                intro v' w7 hown hgr hloc
                obtain ⟨fa, fc, hvf⟩ := Bk.rowv_form hown
                subst hvf
                have HE3 := HE3f.out ea ec fa fc w6 w7 HE2.out.2.2.2.2.2.1 HE2.out.2.2.2.2.2.2 hown hgr hloc
                refine hK.out _ _ HE3.out.1 (fun hHeld => ?_)
                clear hown hgr hloc HE2
                clear hK K
                try simp only [Act.put, List.setIfInBounds_toArray, List.set_cons_zero, List.set_cons_succ]
                refine wpAnyH_take (i := 15) (v := ?_) (by simp only [List.getElem?_toArray, List.getElem?_cons_zero, List.getElem?_cons_succ]; rfl) (by kernel_rfl) (by kernel_rfl) (by kernel_rfl) (fun _ _ _ h => h) (Or.inl ⟨by rfl, ?_⟩) (by assumption) ?_; rotate_left; (· (intro w hSw; (try dsimp only at hSw); go_simp <;> with_reducible rfl)); try simp only [Act.put, List.setIfInBounds_toArray, List.set_cons_zero, List.set_cons_succ]
                refine wpAnyH_done (by kernel_rfl) ?_ _
                refine NoPanic.normal ?_
                clear hS15 HSto HUS HE2f HE3f HX HWA HWB HWC hHeld hWE
                go_wp2_with fail
                go_roundw
                case rel => exact ⟨k + 1, ka', kn + 1, kc', fa, rn' + 1, fc, rfl, rfl, by go_num, by omega, HE3.out.2⟩
                case measure => simp [intOf]; omega
            · have HFS : Hid (firstF known c ((leadsH m (l1, l2)).take (k + 1)) = (F1, F2)) := by
                show _ = _
                rw [HF1.out]
                unfold firstS
                rw [hh]
                rfl
              rw [hh] at H37
              clear hh HF1
              go_wp2_with fail
              refine H37.mono ?_
              rintro e w3 ⟨rfl, h3⟩
              have HF : Hid ((firstF known c ((leadsH m (l1, l2)).take (k + 1))).1.length = kn ∧ (A ++ c :: Q ++ (firstF known c ((leadsH m (l1, l2)).take (k + 1))).2).length = rn' ∧ Pq w3 W2.heap.size (.slice ka kn kc) (.slice rva rn' rc) (firstF known c ((leadsH m (l1, l2)).take (k + 1))).1 (A ++ c :: Q ++ (firstF known c ((leadsH m (l1, l2)).take (k + 1))).2) ∧ Below W2.heap.size W2 w3 ∧ Km V w10 w3 ∧ Kb V w10 (.slice ka kn kc) ∧ Kb V w10 (.slice rva rn' rc)) := by
                rw [HFS.out]
                exact ⟨HI.out.1, HI.out.2.1, HI.out.2.2.1.below h3, HI.out.2.2.2.1.trans (h3.mono HI.out.2.2.2.1.size), HI.out.2.2.2.2.1.below h3, HI.out.2.2.2.2.2⟩
              clear H37 h3 HI p0 p1
              go_wp2_with fail
              go_roundw
              case rel => exact ⟨k + 1, ka, kn, kc, rva, rn', rc, rfl, rfl, by go_num, by omega, HF⟩
              case measure => simp [intOf]; omega
          · have hltI : ¬ (k : Int) < (mj : Int) := by omega
            have hkm : k = mj := by omega
            have HNX : Hid (∃ known' Q', PaI m (x1, x2) (y1, y2) (A ++ [c]) Q' known' ∧ ((A ++ [c]) ++ Q').length = rn' ∧ Pq wr W2.heap.size (.slice ka kn kc) (.slice rva rn' rc) known' ((A ++ [c]) ++ Q') ∧ Below W2.heap.size W2 wr) := by
              have h1 := HPA.out.next HNO.out
              rw [HC.out.1] at h1
              have h2 := HI.out
              rw [List.take_of_length_le (by rw [HOM.out.2]; omega)] at h2
              refine ⟨_, _, h1, ?_, ?_, h2.2.2.2.1⟩
              · rw [← h2.2.1]; simp
              · have h3 := h2.2.2.1
                rw [show A ++ c :: Q ++ (firstF known c (leadsH m (l1, l2))).2 = A ++ [c] ++ (Q ++ (firstF known c (leadsH m (l1, l2))).2) by simp] at h3
                exact h3
            clear HI
            go_wp2_with fail
            go_roundw
            case rel =>
              obtain ⟨known', Q', h1, h2, h3, h4⟩ := HNX.out
              have h5 := h1.len.1
              rw [HV.out.2.2.2, ← List.length_append, h2] at h5
              exact ⟨A ++ [c], Q', known', rn', rva, rc, rfl, by rw [List.length_append, hA.out]; go_num, h2, h5, ⟨_, _, _, rfl⟩, h1, h3, h4⟩
            case measure => simp [intOf]; omega
      · rw [hly] at hE
        have HP : Hid (pathF m (x1, x2) (y1, y2) = some c) := HK.out.1.hit (by
          rw [HC.out.1]
          exact hly)
        have HR : Hid (NamesAt V (.slice (some ⟨pb, 0, none⟩) (L + 1) pc) c.reverse ∧ Below w.heap.size w V) := by
          refine ⟨namesAt_of_owns (owns_below HC.out.2.2.1 HB6.out.1) ?_, HB6.out.2.2.2⟩
          rw [List.length_reverse, HC.out.2.1]
          unfold maxLen
          omega
        clear hly HK HN1 HB6
        go_wp2_with fail
        refine bodyPost_ret (v := .tuple #[.slice (some ⟨pb, 0, none⟩) (L + 1) pc, .bool true]) (by simp [results, Tryz.results21, go_sem]) rfl ⟨_, _, _, by rw [HP.out]; rfl, ?_, HR.out.2⟩
        rw [HP.out]
        exact HR.out.1
end Go.Proofs.YtojobiefambkoaaGreatDoor
