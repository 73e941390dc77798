/- Both tables side by side: what they have in common, and each call of both. -/
import Derived.Test.YtdonclnjgopmbaaPG
import Derived.Test.YtdonclnjgopmbaaPJ
import Derived.Test.YtdonclnjgopmbaaPK
import Derived.Test.YtdonclnjgopmbaaOE
namespace Go.Proofs.Ytdonclnjgopmbaa
open Go.RowKit
/-- Both tables tell the same. -/
structure Lk (m : Nm → List Int) (q : Nm → Bool) (rs : List Rw) (ws : List Nm) : Prop where
  up : UpR rs
  upw : ws.Pairwise ltN
  rows : ∀ x, x ∈ rs.map Rw.x ↔ wfN x ∧ m x ≠ []
  row : ∀ x, wfN x → rowL rs x = m x
  wnt : ∀ x, x ∈ ws ↔ wfN x ∧ q x = true
theorem rowL_mem : ∀ (rs : List Rw) (r : Rw), UpR rs → r ∈ rs → rowL rs r.x = r.l
  | [], r, _, h => by cases h
  | q :: t, r, hu, h => by
    have hu' := List.pairwise_cons.1 hu
    by_cases e : q.x = r.x
    · rcases List.mem_cons.1 h with rfl | h
      · simp [rowL]
      · have := hu'.1 r h
        rw [e] at this
        exact absurd this (ltN_irr _)
    · have hr : r ∈ t := by
        rcases List.mem_cons.1 h with rfl | h
        · exact absurd rfl e
        · exact h
      have := rowL_mem t r hu'.2 hr
      simpa [rowL, e] using this
theorem lk_ask {m : Nm → List Int} {q : Nm → Bool} {rs : List Rw} {ws : List Nm} (h : Lk m q rs ws) {v : Nm} (hv : wfN v) (s : Sl) (l : List Int) (hl : l ≠ []) : Lk (setAt m v l) q (askR rs ⟨v, s, l⟩) ws := by
  have hm := askR_mem ⟨v, s, l⟩ rs h.up
  have hu := askR_up ⟨v, s, l⟩ rs h.up
  have hin : ∀ x, x ∈ (askR rs ⟨v, s, l⟩).map Rw.x ↔ x = v ∨ (x ∈ rs.map Rw.x ∧ x ≠ v) := fun x => by
    simp only [List.mem_map, hm]
    constructor
    · rintro ⟨r, rfl | ⟨h1, h2⟩, rfl⟩
      · exact .inl rfl
      · exact .inr ⟨⟨r, h1, rfl⟩, h2⟩
    · rintro (rfl | ⟨⟨r, h1, rfl⟩, h2⟩)
      · exact ⟨_, .inl rfl, rfl⟩
      · exact ⟨r, .inr ⟨h1, h2⟩, rfl⟩
  refine ⟨hu, h.upw, fun x => ?_, fun x hx => ?_, h.wnt⟩
  · rw [hin]
    by_cases e : x = v
    · subst e; simp [setAt_same, hl, hv]
    · rw [setAt_other _ _ e, h.rows]; simp [e]
  · by_cases e : x = v
    · subst e
      rw [setAt_same]
      exact rowL_mem _ ⟨x, s, l⟩ hu ((hm _).2 (.inl rfl))
    · rw [setAt_other _ _ e, ← h.row x hx]
      by_cases hk : ∃ r ∈ rs, r.x = x
      · obtain ⟨r, h1, rfl⟩ := hk
        rw [rowL_mem rs r h.up h1]
        exact rowL_mem _ r hu ((hm _).2 (.inr ⟨h1, e⟩))
      · have hn : ∀ r ∈ rs, r.x ≠ x := fun r hr e => hk ⟨r, hr, e⟩
        rw [rowL_none rs x hn]
        refine rowL_none _ x fun r hr e' => ?_
        rcases (hm r).1 hr with rfl | ⟨h1, _⟩
        · exact e e'.symm
        · exact hn r h1 e'
theorem lk_want {m : Nm → List Int} {q : Nm → Bool} {rs : List Rw} {ws : List Nm} (h : Lk m q rs ws) {v : Nm} (hv : wfN v) (hn : v ∉ ws) : Lk m (setAt q v true) rs (insN v ws) := by
  refine ⟨h.up, insN_up v ws h.upw hn, h.rows, h.row, fun x => ?_⟩
  rw [insN_mem]
  by_cases e : x = v
  · subst e; simp [setAt_same, hv]
  · rw [setAt_other _ _ e, h.wnt]; simp [e]
theorem lk_want_has {m : Nm → List Int} {q : Nm → Bool} {rs : List Rw} {ws : List Nm} (h : Lk m q rs ws) {v : Nm} (hn : v ∈ ws) : Lk m (setAt q v true) rs ws := by
  refine ⟨h.up, h.upw, h.rows, h.row, fun x => ?_⟩
  by_cases e : x = v
  · subst e; rw [setAt_same, h.wnt]; have := (h.wnt x).1 hn; simp [this.1, this.2]
  · rw [setAt_other _ _ e, h.wnt]
/-- Who waits behind Ask. -/
def askM (m : Nm → List Int) (x : Nm) (k : Int) : Nm → List Int := if hasI (m x) k = true then m else setAt m x (m x ++ [k])
theorem askM_len {m : Nm → List Int} {x : Nm} {k : Int} {b : Nat} (h : ∀ y, (m y).length ≤ b) : ∀ y, (askM m x k y).length ≤ b + 1 := fun y => by
  have hy := h y
  have hx := h x
  unfold askM
  split
  · omega
  · by_cases e : y = x
    · subst e; rw [setAt_same]; simp; omega
    · rw [setAt_other _ _ e]; omega
theorem askR_len (rs : List Rw) (r : Rw) : (askR rs r).length ≤ rs.length + 1 := by
  have := plcN_le rs r.x
  simp only [askR, List.length_append, List.length_take, List.length_drop, List.length_cons, List.length_nil]
  cases plcB rs r.x <;> simp <;> omega
/-- Both tables in memory, apart from each other. -/
structure Tw (w : World) (B tb rb wb n : Nat) (s : Nm → Sl) (m : Nm → List Int) (q : Nm → Bool) (G : Nat → Prop) (rt : Nat) (rs : List Rw) (ws : List Nm) : Prop where
  tab : TbAt w B tb rb wb n s m q
  rf : RfAt w G rt rs ws
  gt : ∀ g, G g → g ≠ tb ∧ g ≠ rb ∧ g ≠ wb ∧ ∀ x, wfN x → blk (s x).a ≠ some g
  brt : B ≤ rt
section
variable {w w' : World} {B tb rb wb n n' : Nat} {s s' : Nm → Sl} {m m' : Nm → List Int} {q q' : Nm → Bool} {G : Nat → Prop} {rt : Nat} {rs rs' : List Rw} {ws ws' : List Nm}
theorem Tw.apart (h : Tw w B tb rb wb n s m q G rt rs ws) : rt ≠ tb ∧ rt ≠ rb ∧ rt ≠ wb ∧ ∀ x, wfN x → blk (s x).a ≠ some rt := by
  obtain ⟨ra, rc, wa, wc, h1, _⟩ := h.rf.ex
  refine ⟨fun e => ?_, h.tab.rows.ne_cells h1, h.tab.want.ne_cells h1, fun x hx e => ?_⟩
  · have := h.tab.blk; rw [← e, h1] at this; cases this
  · obtain ⟨cu, h2⟩ := (h.tab.row x hx).type e
    rw [h1] at h2; cases h2
theorem Tw.prog (h : Tw w B tb rb wb n s m q G rt rs ws) (ht : TbAt w' B tb rb wb n' s' m' q') (hk : TbTo w w' rb wb s s') : Tw w' B tb rb wb n' s' m' q' G rt rs ws := by
  obtain ⟨a1, a2, a3, a4⟩ := h.apart
  refine ⟨ht, h.rf.keeps (fun g hg => hk.block g (h.rf.lt g hg) (h.gt g hg).2.1 (h.gt g hg).2.2.1 (h.gt g hg).2.2.2) (hk.block rt h.rf.rlt a2 a3 a4) hk.size, fun g hg => ⟨(h.gt g hg).1, (h.gt g hg).2.1, (h.gt g hg).2.2.1, fun x hx e => ?_⟩, h.brt⟩
  rcases hk.rows x g hx e with ⟨y, hy, e'⟩ | e'
  · exact (h.gt g hg).2.2.2 y hy e'
  · have := h.rf.lt g hg; omega
theorem Tw.ref (h : Tw w B tb rb wb n s m q G rt rs ws) (hr : RfAt w' (Gn w G w') rt rs' ws') (hg : w.grownBy w' (some rt)) : Tw w' B tb rb wb n s m q (Gn w G w') rt rs' ws' := by
  obtain ⟨a1, a2, a3, a4⟩ := h.apart
  have hk : ∀ k, k < w.heap.size → k ≠ rt → w'.heap[k]? = w.heap[k]? := fun k hk hne => hg.block k hk (by simpa using hne)
  refine ⟨h.tab.keeps (hk _ h.tab.lt (Ne.symm a1)) (hk _ h.tab.rows.lt (Ne.symm a2)) (hk _ h.tab.want.lt (Ne.symm a3)) (fun x g hx e => hk g ((h.tab.row x hx).lt e).2 fun e' => a4 x hx (e' ▸ e)), hr, fun g hg' => ?_, h.brt⟩
  rcases hg' with hg' | ⟨hg', _⟩
  · exact h.gt g hg'
  · have h1 := h.tab.lt
    have h2 := h.tab.rows.lt
    have h3 := h.tab.want.lt
    exact ⟨by omega, by omega, by omega, fun x hx e => by have := ((h.tab.row x hx).lt e).2; omega⟩
theorem Tw.below (h : Tw w B tb rb wb n s m q G rt rs ws) (hb : Below w.heap.size w w') : Tw w' B tb rb wb n s m q G rt rs ws := ⟨h.tab.below hb, h.rf.below hb, h.gt, h.brt⟩
theorem grown_below {w w' : World} {rt B : Nat} (hg : w.grownBy w' (some rt)) (hB : B ≤ rt) (hw : B ≤ w.heap.size) : Below B w w' := ⟨hg.os, hg.tape, hg.output, hg.size, fun k hk => hg.block k (by omega) (by simp; omega)⟩
end
section
variable {w : World} {B tb rb wb n : Nat} {s : Nm → Sl} {m m0 : Nm → List Int} {q q0 : Nm → Bool} {G : Nat → Prop} {rt : Nat} {rs : List Rw} {ws : List Nm}
theorem tw11 (x : Nm) (k : Int) (h : Tw w B tb rb wb n s m q G rt rs ws) (hx : wfN x) (hn : n ≤ 1000000) (hl : (m x).length ≤ 1000000) (hB : B ≤ w.heap.size) :
    Calls Try.prog 11 #[.pointer (some ⟨tb, 0, none⟩), .agg #[.int .i64 x.1, .int .i64 x.2], .int .i64 k] w fun e w' => e = .returned (.bool (!hasI (m x) k)) ∧ ∃ s', Tw w' B tb rb wb (n + 1) s' (askM m x k) q G rt rs ws ∧ Below B w w' := by
  refine (o11 B tb rb wb n s m q x k w h.tab hx hn hl hB).mono ?_
  rintro e w' ⟨rfl, s', h1, h2⟩
  exact ⟨rfl, s', h.prog h1 h2, TbTo.below h.tab h2 hB⟩
theorem tw16 (x : Nm) (h : Tw w B tb rb wb n s m q G rt rs ws) (hx : wfN x) (hn : n ≤ 1000000) (hB : B ≤ w.heap.size) :
    Calls Try.prog 16 #[.pointer (some ⟨tb, 0, none⟩), .agg #[.int .i64 x.1, .int .i64 x.2]] w fun e w' => e = .returned (.bool (!q x)) ∧ Tw w' B tb rb wb (n + 1) s m (setAt q x true) G rt rs ws ∧ Below B w w' := by
  refine (o16 B tb rb wb n s m q x w h.tab hx hn).mono ?_
  rintro e w' ⟨rfl, h1, h2⟩
  exact ⟨rfl, h.prog h1 h2, TbTo.below h.tab h2 hB⟩
theorem tw12 (x : Nm) (k : Int) (h : Tw w B tb rb wb n s m q G rt rs ws) (hk : Lk m0 q0 rs ws) (hx : wfN x) (hn : rs.length ≤ 1000000) (hl : (m0 x).length ≤ 1000000) (hB : B ≤ w.heap.size) :
    Calls Try.prog 12 #[.pointer (some ⟨rt, 0, none⟩), .agg #[.int .i64 x.1, .int .i64 x.2], .int .i64 k] w fun e w' => e = .returned (.bool (!hasI (m0 x) k)) ∧ ∃ G' rs', Tw w' B tb rb wb n s m q G' rt rs' ws ∧ Lk (askM m0 x k) q0 rs' ws ∧ rs'.length ≤ rs.length + 1 ∧ Below B w w' := by
  have hrow := hk.row x hx
  cases hp : plcB rs x
  · have h0 : m0 x = [] := by rw [← hrow]; exact rowL_none rs x (plcB_none rs x hk.up hp)
    refine (o12_a G rt rs ws x k w h.rf hn hp).mono ?_
    rintro e w' ⟨rfl, s1, h1, h2⟩
    refine ⟨by simp [h0, hasI], _, _, h.ref h1 h2, ?_, askR_len _ _, grown_below h2 h.brt hB⟩
    have e1 : askM m0 x k = setAt m0 x [k] := by simp [askM, h0, hasI]
    rw [e1]
    exact lk_ask hk hx s1 [k] (by simp)
  · by_cases hm : k ∈ rowL rs x
    · have hm' : hasI (m0 x) k = true := by rw [← hrow]; simpa [hasI] using hm
      refine (o12_has G rt rs ws x k w h.rf hn hp (by rw [hrow]; exact hl) hm).mono ?_
      rintro e w' ⟨rfl, h1⟩
      refine ⟨by rw [hm']; rfl, G, rs, h.below h1, ?_, by omega, h1.mono hB⟩
      rw [show askM m0 x k = m0 by simp [askM, hm']]
      exact hk
    · have hm' : hasI (m0 x) k = false := by rw [← hrow]; simpa [hasI] using hm
      refine (o12_b G rt rs ws x k w h.rf hn hp (by rw [hrow]; exact hl) hm).mono ?_
      rintro e w' ⟨rfl, s1, h1, h2⟩
      refine ⟨by rw [hm']; rfl, _, _, h.ref h1 h2, ?_, askR_len _ _, grown_below h2 h.brt hB⟩
      rw [show askM m0 x k = setAt m0 x (m0 x ++ [k]) by simp [askM, hm'], ← hrow]
      exact lk_ask hk hx s1 _ (by simp)
theorem tw17 (x : Nm) (h : Tw w B tb rb wb n s m q G rt rs ws) (hk : Lk m0 q0 rs ws) (hx : wfN x) (hn : ws.length ≤ 1000000) (hB : B ≤ w.heap.size) :
    Calls Try.prog 17 #[.pointer (some ⟨rt, 0, none⟩), .agg #[.int .i64 x.1, .int .i64 x.2]] w fun e w' => e = .returned (.bool (!q0 x)) ∧ ∃ G' ws', Tw w' B tb rb wb n s m q G' rt rs ws' ∧ Lk m0 (setAt q0 x true) rs ws' ∧ ws'.length ≤ ws.length + 1 ∧ Below B w w' := by
  have hw := hk.wnt x
  by_cases hm : x ∈ ws
  · have hq : q0 x = true := (hw.1 hm).2
    refine (o17_has G rt rs ws x w h.rf hn (by simpa [hasN] using hm)).mono ?_
    rintro e w' ⟨rfl, h1⟩
    exact ⟨by rw [hq]; rfl, G, ws, h.below h1, lk_want_has hk hm, by omega, h1.mono hB⟩
  · have hq : q0 x = false := by
      cases hq : q0 x
      · rfl
      · exact absurd (hw.2 ⟨hx, hq⟩) hm
    refine (o17_new G rt rs ws x w h.rf hn (by simpa [hasN] using hm)).mono ?_
    rintro e w' ⟨rfl, h1, h2⟩
    exact ⟨by rw [hq]; rfl, _, _, h.ref h1 h2, lk_want hk hx hm, by rw [insN_len]; omega, grown_below h2 h.brt hB⟩
end
end Go.Proofs.Ytdonclnjgopmbaa
