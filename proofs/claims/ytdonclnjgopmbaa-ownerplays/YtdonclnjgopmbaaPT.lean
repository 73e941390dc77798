/- Both tables and their copies: each call of both, and what it leaves as it was. -/
import Derived.Test.YtdonclnjgopmbaaPM
import Derived.Test.YtdonclnjgopmbaaPP
import Derived.Test.YtdonclnjgopmbaaPR
import Derived.Test.YtdonclnjgopmbaaPS
namespace Go.Proofs.Ytdonclnjgopmbaa
open Go.RowKit
theorem lk_tell {m : Nm → List Int} {q : Nm → Bool} {rs : List Rw} {ws : List Nm} (h : Lk m q rs ws) {v : Nm} : Lk (setAt m v []) q (telR rs v) ws := by
  have hm := telR_mem rs v h.up
  have hu : UpR (telR rs v) := h.up.sublist (telR_sub rs v)
  have hin : ∀ x, x ∈ (telR rs v).map Rw.x ↔ x ∈ rs.map Rw.x ∧ x ≠ v := fun x => by
    simp only [List.mem_map, hm]
    constructor
    · rintro ⟨r, ⟨h1, h2⟩, rfl⟩
      exact ⟨⟨r, h1, rfl⟩, h2⟩
    · rintro ⟨⟨r, h1, rfl⟩, h2⟩
      exact ⟨r, ⟨h1, h2⟩, rfl⟩
  refine ⟨hu, h.upw, fun x => ?_, fun x hx => ?_, h.wnt⟩
  · rw [hin]
    by_cases e : x = v
    · subst e; simp [setAt_same]
    · rw [setAt_other _ _ e, h.rows]; simp [e]
  · by_cases e : x = v
    · subst e
      rw [setAt_same]
      exact rowL_none _ _ fun r hr => ((hm r).1 hr).2
    · rw [setAt_other _ _ e, ← h.row x hx]
      by_cases hk : ∃ r ∈ rs, r.x = x
      · obtain ⟨r, h1, rfl⟩ := hk
        rw [rowL_mem rs r h.up h1]
        exact rowL_mem _ r hu ((hm r).2 ⟨h1, e⟩)
      · have hn : ∀ r ∈ rs, r.x ≠ x := fun r hr e => hk ⟨r, hr, e⟩
        rw [rowL_none rs x hn]
        exact rowL_none _ x fun r hr => hn r ((hm r).1 hr).1
theorem lk_got {m : Nm → List Int} {q : Nm → Bool} {rs : List Rw} {ws : List Nm} (h : Lk m q rs ws) (xs : List Nm) : Lk m (gotQ q xs) rs (gotN xs ws) := by
  refine ⟨h.up, h.upw.sublist List.filter_sublist, h.rows, h.row, fun x => ?_⟩
  rw [gotQ_at, gotN, List.mem_filter, h.wnt]
  simp [and_assoc]
/-- What is not the table's own. -/
def Ap (F : Nat → Prop) (rb wb rt : Nat) (s : Nm → Sl) : Prop := ∀ g, F g → g ≠ rb ∧ g ≠ wb ∧ g ≠ rt ∧ ∀ x, wfN x → blk (s x).a ≠ some g
/-- What stays. -/
def KpF (F : Nat → Prop) (w w' : World) : Prop := w.heap.size ≤ w'.heap.size ∧ ∀ g, F g → w'.heap[g]? = w.heap[g]?
theorem KpF.trans {F : Nat → Prop} {w w1 w2 : World} (h : KpF F w w1) (k : KpF F w1 w2) : KpF F w w2 := ⟨Nat.le_trans h.1 k.1, fun g hg => (k.2 g hg).trans (h.2 g hg)⟩
/-- Both tables, and what is not theirs. -/
structure Ms (wB w : World) (F : Nat → Prop) (tb rb wb n : Nat) (s : Nm → Sl) (m : Nm → List Int) (q : Nm → Bool) (G : Nat → Prop) (rt : Nat) (rs : List Rw) (ws : List Nm) : Prop where
  tw : Tw w wB.heap.size tb rb wb n s m q G rt rs ws
  bel : Below wB.heap.size wB w
  ap : Ap F rb wb rt s
  flt : ∀ g, F g → g < w.heap.size
section
variable {wB w w' : World} {F : Nat → Prop} {tb rb wb n n' : Nat} {s s' : Nm → Sl} {m m' m0 : Nm → List Int} {q q' q0 : Nm → Bool} {G : Nat → Prop} {rt : Nat} {rs rs' : List Rw} {ws ws' : List Nm}
theorem Ms.prog (h : Ms wB w F tb rb wb n s m q G rt rs ws) (ht : TbAt w' wB.heap.size tb rb wb n' s' m' q') (hk : TbTo w w' rb wb s s') : Ms wB w' F tb rb wb n' s' m' q' G rt rs ws ∧ KpF F w w' := by
  refine ⟨⟨h.tw.prog ht hk, h.bel.trans (TbTo.below h.tw.tab hk h.bel.size), fun g hg => ⟨(h.ap g hg).1, (h.ap g hg).2.1, (h.ap g hg).2.2.1, fun x hx e => ?_⟩, fun g hg => Nat.lt_of_lt_of_le (h.flt g hg) hk.size⟩, hk.size, fun g hg => hk.block g (h.flt g hg) (h.ap g hg).1 (h.ap g hg).2.1 (h.ap g hg).2.2.2⟩
  rcases hk.rows x g hx e with ⟨y, hy, e'⟩ | e'
  · exact (h.ap g hg).2.2.2 y hy e'
  · have := h.flt g hg; omega
theorem Ms.ref (h : Ms wB w F tb rb wb n s m q G rt rs ws) (hr : RfAt w' (Gn w G w') rt rs' ws') (hg : w.grownBy w' (some rt)) : Ms wB w' F tb rb wb n s m q (Gn w G w') rt rs' ws' ∧ KpF F w w' :=
  ⟨⟨h.tw.ref hr hg, h.bel.trans (grown_below hg h.tw.brt h.bel.size), h.ap, fun g hg' => Nat.lt_of_lt_of_le (h.flt g hg') hg.size⟩, hg.size, fun g hg' => hg.block g (h.flt g hg') (by have := (h.ap g hg').2.2.1; simpa using this)⟩
theorem Ms.below (h : Ms wB w F tb rb wb n s m q G rt rs ws) (hb : Below w.heap.size w w') : Ms wB w' F tb rb wb n s m q G rt rs ws ∧ KpF F w w' :=
  ⟨⟨h.tw.below hb, h.bel.trans (hb.mono h.bel.size), h.ap, fun g hg' => Nat.lt_of_lt_of_le (h.flt g hg') hb.size⟩, hb.size, fun g hg' => hb.block g (h.flt g hg')⟩
theorem ms11 (x : Nm) (k : Int) (h : Ms wB w F tb rb wb n s m q G rt rs ws) (hx : wfN x) (hn : n ≤ 1000000) (hl : (m x).length ≤ 1000000) :
    Calls Try.prog 11 #[.pointer (some ⟨tb, 0, none⟩), .agg #[.int .i64 x.1, .int .i64 x.2], .int .i64 k] w fun e w' => e = .returned (.bool (!hasI (m x) k)) ∧ ∃ s', Ms wB w' F tb rb wb (n + 1) s' (askM m x k) q G rt rs ws ∧ KpF F w w' := by
  refine (o11 _ tb rb wb n s m q x k w h.tw.tab hx hn hl h.bel.size).mono ?_
  rintro e w' ⟨rfl, s', h1, h2⟩
  exact ⟨rfl, s', h.prog h1 h2⟩
theorem ms16 (x : Nm) (h : Ms wB w F tb rb wb n s m q G rt rs ws) (hx : wfN x) (hn : n ≤ 1000000) :
    Calls Try.prog 16 #[.pointer (some ⟨tb, 0, none⟩), .agg #[.int .i64 x.1, .int .i64 x.2]] w fun e w' => e = .returned (.bool (!q x)) ∧ Ms wB w' F tb rb wb (n + 1) s m (setAt q x true) G rt rs ws ∧ KpF F w w' := by
  refine (o16 _ tb rb wb n s m q x w h.tw.tab hx hn).mono ?_
  rintro e w' ⟨rfl, h1, h2⟩
  exact ⟨rfl, h.prog h1 h2⟩
theorem ms14 (x : Nm) (h : Ms wB w F tb rb wb n s m q G rt rs ws) (hx : wfN x) :
    Calls Try.prog 14 #[.pointer (some ⟨tb, 0, none⟩), .agg #[.int .i64 x.1, .int .i64 x.2]] w fun e w' => ∃ a k c, e = .returned (.slice a k c) ∧ In w' a k (m x) ∧ (∀ g, blk a = some g → g < w'.heap.size ∧ g ≠ rt) ∧ ∃ s', Ms wB w' F tb rb wb n s' (setAt m x []) q G rt rs ws ∧ KpF F w w' := by
  refine (o14 _ tb rb wb n s m q x w h.tw.tab hx).mono ?_
  rintro e w' ⟨rfl, h1, h2, h3⟩
  exact ⟨_, _, _, rfl, h3, fun g e => ⟨Nat.lt_of_lt_of_le ((h.tw.tab.row x hx).lt e).2 h2.size, fun e' => h.tw.apart.2.2.2 x hx (e' ▸ e)⟩, _, h.prog h1 h2⟩
theorem ms18 (a : Option Addr) (k c : Nat) (xs : List Nm) (h : Ms wB w F tb rb wb n s m q G rt rs ws) (hx : Ns w a k xs) (hwf : ∀ x ∈ xs, wfN x) (hk : k ≤ 9223372036854775807) (hfree : k = 0 ∨ ∀ g, blk a = some g → g < wB.heap.size) :
    Calls Try.prog 18 #[.pointer (some ⟨tb, 0, none⟩), .slice a k c] w fun e w' => e = .returned (.tuple #[]) ∧ Ms wB w' F tb rb wb n s m (gotQ q xs) G rt rs ws ∧ KpF F w w' := by
  refine (o18 _ tb rb wb n s m q a k c xs w h.tw.tab hx hwf hk h.bel.size hfree).mono ?_
  rintro e w' ⟨rfl, h1, h2⟩
  exact ⟨rfl, h.prog h1 h2⟩
theorem ms12 (x : Nm) (k : Int) (h : Ms wB w F tb rb wb n s m q G rt rs ws) (hk : Lk m0 q0 rs ws) (hx : wfN x) (hn : rs.length ≤ 1000000) (hl : (m0 x).length ≤ 1000000) :
    Calls Try.prog 12 #[.pointer (some ⟨rt, 0, none⟩), .agg #[.int .i64 x.1, .int .i64 x.2], .int .i64 k] w fun e w' => e = .returned (.bool (!hasI (m0 x) k)) ∧ ∃ G' rs', Ms wB w' F tb rb wb n s m q G' rt rs' ws ∧ Lk (askM m0 x k) q0 rs' ws ∧ rs'.length ≤ rs.length + 1 ∧ KpF F w w' := by
  have hrow := hk.row x hx
  cases hp : plcB rs x
  · have h0 : m0 x = [] := by rw [← hrow]; exact rowL_none rs x (plcB_none rs x hk.up hp)
    refine (o12_a G rt rs ws x k w h.tw.rf hn hp).mono ?_
    rintro e w' ⟨rfl, s1, h1, h2⟩
    refine ⟨by simp [h0, hasI], _, _, (h.ref h1 h2).1, ?_, askR_len _ _, (h.ref h1 h2).2⟩
    rw [show askM m0 x k = setAt m0 x [k] by simp [askM, h0, hasI]]
    exact lk_ask hk hx s1 [k] (by simp)
  · by_cases hm : k ∈ rowL rs x
    · have hm' : hasI (m0 x) k = true := by rw [← hrow]; simpa [hasI] using hm
      refine (o12_has G rt rs ws x k w h.tw.rf hn hp (by rw [hrow]; exact hl) hm).mono ?_
      rintro e w' ⟨rfl, h1⟩
      refine ⟨by rw [hm']; rfl, G, rs, (h.below h1).1, ?_, by omega, (h.below h1).2⟩
      rw [show askM m0 x k = m0 by simp [askM, hm']]
      exact hk
    · have hm' : hasI (m0 x) k = false := by rw [← hrow]; simpa [hasI] using hm
      refine (o12_b G rt rs ws x k w h.tw.rf hn hp (by rw [hrow]; exact hl) hm).mono ?_
      rintro e w' ⟨rfl, s1, h1, h2⟩
      refine ⟨by rw [hm']; rfl, _, _, (h.ref h1 h2).1, ?_, askR_len _ _, (h.ref h1 h2).2⟩
      rw [show askM m0 x k = setAt m0 x (m0 x ++ [k]) by simp [askM, hm'], ← hrow]
      exact lk_ask hk hx s1 _ (by simp)
theorem ms17 (x : Nm) (h : Ms wB w F tb rb wb n s m q G rt rs ws) (hk : Lk m0 q0 rs ws) (hx : wfN x) (hn : ws.length ≤ 1000000) :
    Calls Try.prog 17 #[.pointer (some ⟨rt, 0, none⟩), .agg #[.int .i64 x.1, .int .i64 x.2]] w fun e w' => e = .returned (.bool (!q0 x)) ∧ ∃ G' ws', Ms wB w' F tb rb wb n s m q G' rt rs ws' ∧ Lk m0 (setAt q0 x true) rs ws' ∧ ws'.length ≤ ws.length + 1 ∧ KpF F w w' := by
  have hw := hk.wnt x
  by_cases hm : x ∈ ws
  · have hq : q0 x = true := (hw.1 hm).2
    refine (o17_has G rt rs ws x w h.tw.rf hn (by simpa [hasN] using hm)).mono ?_
    rintro e w' ⟨rfl, h1⟩
    exact ⟨by rw [hq]; rfl, G, ws, (h.below h1).1, lk_want_has hk hm, by omega, (h.below h1).2⟩
  · have hq : q0 x = false := by
      cases hq : q0 x
      · rfl
      · exact absurd (hw.2 ⟨hx, hq⟩) hm
    refine (o17_new G rt rs ws x w h.tw.rf hn (by simpa [hasN] using hm)).mono ?_
    rintro e w' ⟨rfl, h1, h2⟩
    exact ⟨by rw [hq]; rfl, _, _, (h.ref h1 h2).1, lk_want hk hx hm, by rw [insN_len]; omega, (h.ref h1 h2).2⟩
theorem ms15 (x : Nm) (h : Ms wB w F tb rb wb n s m q G rt rs ws) (hk : Lk m0 q0 rs ws) (hx : wfN x) (hn : rs.length ≤ 1000000) :
    Calls Try.prog 15 #[.pointer (some ⟨rt, 0, none⟩), .agg #[.int .i64 x.1, .int .i64 x.2]] w fun e w' => ∃ a k c, e = .returned (.slice a k c) ∧ In w' a k (m0 x) ∧ (∀ g, g < w.heap.size → g ≠ rt → w'.heap[g]? = w.heap[g]?) ∧ ∃ G' rs', Ms wB w' F tb rb wb n s m q G' rt rs' ws ∧ Lk (setAt m0 x []) q0 rs' ws ∧ rs'.length ≤ rs.length ∧ KpF F w w' := by
  have hz : Calls Try.prog 15 #[.pointer (some ⟨rt, 0, none⟩), .agg #[.int .i64 x.1, .int .i64 x.2]] w fun e w' => ∃ z, e = .returned z ∧ TelTo w G rt rs ws x z w' := by
    cases hp : plcB rs x
    · exact o15_no G rt rs ws x w h.tw.rf hk.up hn hp
    · exact o15_has G rt rs ws x w h.tw.rf hn hp
  refine hz.mono ?_
  rintro e w' ⟨z, rfl, a, k, c, rfl, h1, h2, h3⟩
  rw [hk.row x hx] at h1
  exact ⟨a, k, c, rfl, h1, fun g hg hne => h3.block g hg (by simpa using hne), _, _, (h.ref h2 h3).1, lk_tell hk, (telR_sub rs x).length_le, (h.ref h2 h3).2⟩
theorem ms19 (a : Option Addr) (k c : Nat) (xs : List Nm) (h : Ms wB w F tb rb wb n s m q G rt rs ws) (hk : Lk m0 q0 rs ws) (hx : Ns w a k xs) (hkn : k ≤ 9223372036854775807) (hn : ws.length ≤ 1000000) :
    Calls Try.prog 19 #[.pointer (some ⟨rt, 0, none⟩), .slice a k c] w fun e w' => e = .returned (.tuple #[]) ∧ ∃ G' ws', Ms wB w' F tb rb wb n s m q G' rt rs ws' ∧ Lk m0 (gotQ q0 xs) rs ws' ∧ ws'.length ≤ ws.length ∧ KpF F w w' := by
  refine (o19 G rt rs xs ws a k c w h.tw.rf hx hkn hn).mono ?_
  rintro e w' ⟨rfl, h1, h2⟩
  exact ⟨rfl, _, _, (h.ref h1 h2).1, lk_got hk xs, List.length_filter_le _ _, (h.ref h1 h2).2⟩
end
/-- Two tables that are the same, somewhere. -/
def Fine (w : World) (gt gr : Nat) : Prop := ∃ B rb wb n s m q G rs ws, Tw w B gt rb wb n s m q G gr rs ws ∧ Lk m q rs ws ∧ n ≤ 1000 ∧ rs.length ≤ 1000 ∧ ws.length ≤ 1000 ∧ ∀ y, (m y).length ≤ 1000
theorem Fine.below {w w' : World} {gt gr : Nat} (h : Fine w gt gr) (hb : Below w.heap.size w w') : Fine w' gt gr := by
  obtain ⟨B, rb, wb, n, s, m, q, G, rs, ws, h1, h2⟩ := h
  exact ⟨B, rb, wb, n, s, m, q, G, rs, ws, h1.below hb, h2⟩
theorem fine20 {w : World} {gt gr : Nat} (v : Nm) (h : Fine w gt gr) (hv : wfN v) : Calls Try.prog 20 #[.pointer (some ⟨gt, 0, none⟩), .pointer (some ⟨gr, 0, none⟩), .agg #[.int .i64 v.1, .int .i64 v.2]] w fun e w' => e = .returned (.bool true) ∧ Below w.heap.size w w' := by
  obtain ⟨B, rb, wb, n, s, m, q, G, rs, ws, h1, h2, h3, h4, h5, h6⟩ := h
  exact o20 B gt rb wb n s m q G gr rs ws v w h1 h2 hv (by omega) (by omega) (by omega) (by have := h6 v; omega)
/-- Behind k rounds: both tables, and the pair that was copied (or they themselves). -/
def Pl (wB w : World) (tb rb wb rt k gt gr : Nat) : Prop := ∃ F n s m q G rs ws, Ms wB w F tb rb wb n s m q G rt rs ws ∧ Lk m q rs ws ∧ (n ≤ k ∧ rs.length ≤ k ∧ ws.length ≤ k ∧ ∀ y, (m y).length ≤ k) ∧ ((gt = tb ∧ gr = rt) ∨ ∀ w', KpF F w w' → Fine w' gt gr)
theorem Pl.bel {wB w : World} {tb rb wb rt k gt gr : Nat} (h : Pl wB w tb rb wb rt k gt gr) : Below wB.heap.size wB w := by
  obtain ⟨F, n, s, m, q, G, rs, ws, h1, _⟩ := h
  exact h1.bel
theorem Pl.below {wB w w' : World} {tb rb wb rt k gt gr : Nat} (h : Pl wB w tb rb wb rt k gt gr) (hb : Below w.heap.size w w') : Pl wB w' tb rb wb rt k gt gr := by
  obtain ⟨F, n, s, m, q, G, rs, ws, h1, h2, h3, h4⟩ := h
  refine ⟨F, n, s, m, q, G, rs, ws, (h1.below hb).1, h2, h3, ?_⟩
  rcases h4 with h4 | h4
  · exact .inl h4
  · exact .inr fun u hu => h4 u ((h1.below hb).2.trans hu)
theorem Pl.main {wB w : World} {tb rb wb rt k gt gr : Nat} (h : Pl wB w tb rb wb rt k gt gr) (hk : k ≤ 1000) : Fine w tb rt := by
  obtain ⟨F, n, s, m, q, G, rs, ws, h1, h2, ⟨n1, n2, n3, n4⟩, h4⟩ := h
  exact ⟨_, rb, wb, n, s, m, q, G, rs, ws, h1.tw, h2, by omega, by omega, by omega, fun y => by have := n4 y; omega⟩
theorem Pl.fine {wB w : World} {tb rb wb rt k gt gr : Nat} (h : Pl wB w tb rb wb rt k gt gr) (hk : k ≤ 1000) : Fine w gt gr := by
  have hm := h.main hk
  obtain ⟨F, n, s, m, q, G, rs, ws, h1, h2, _, h4⟩ := h
  rcases h4 with ⟨rfl, rfl⟩ | h4
  · exact hm
  · exact h4 w ⟨Nat.le_refl _, fun _ _ => rfl⟩
/-- The copies. -/
theorem pl_fork {wB w w1 w2 : World} {tb rb wb rt k : Nat} {n : Nat} {F : Nat → Prop} {s : Nm → Sl} {m : Nm → List Int} {q : Nm → Bool} {G : Nat → Prop} {rs : List Rw} {ws : List Nm} {z1 z2 : Value} (hk : k ≤ 200) (h : Ms wB w F tb rb wb n s m q G rt rs ws) (hl : Lk m q rs ws) (hb : n ≤ k ∧ rs.length ≤ k ∧ ws.length ≤ k ∧ ∀ y, (m y).length ≤ k)
    (h1 : ForkP w n m q z1 w1) (h2 : ForkR w1 G rs ws z2 w2) : ∃ gt gr, z1 = .pointer (some ⟨gt, 0, none⟩) ∧ z2 = .pointer (some ⟨gr, 0, none⟩) ∧ Pl wB w2 tb rb wb rt k gt gr := by
  obtain ⟨tb2, rb2, wb2, s2, j, rfl, p1, p2, p3, p4⟩ := h1
  obtain ⟨fb, rfl, r1, r2, r3⟩ := h2
  have hb2 : Below w.heap.size w w2 := p4.trans (r3.mono p4.size)
  have tA := p2.below r3
  have hs1 := p4.size
  have a1 : tb2 < w1.heap.size := p2.lt
  have a2 : rb2 < w1.heap.size := p2.rows.lt
  have a3 : wb2 < w1.heap.size := p2.want.lt
  have a4 : ∀ x g, wfN x → blk (s2 x).a = some g → w.heap.size ≤ g ∧ g < w1.heap.size := fun x g hx e => (p2.row x hx).lt e
  have a5 := p2.hb
  have tw2 : Tw w2 w.heap.size tb2 rb2 wb2 j s2 m q (fun g => (G g ∨ (w1.heap.size ≤ g ∧ g < w2.heap.size)) ∧ g ≠ fb) fb rs ws := by
    refine ⟨tA, r2, fun g hg => ?_, by omega⟩
    rcases hg.1 with hg | ⟨hg, _⟩
    · have := h.tw.rf.lt g hg
      exact ⟨by omega, by omega, by omega, fun x hx e => by have := (a4 x g hx e).1; omega⟩
    · exact ⟨by omega, by omega, by omega, fun x hx e => by have := (a4 x g hx e).2; omega⟩
  obtain ⟨m1, m2⟩ := h.below hb2
  have b1 := h.tw.tab.lt
  have b2 := h.tw.tab.rows.lt
  have b3 := h.tw.tab.want.lt
  have b4 := h.tw.rf.rlt
  refine ⟨tb2, fb, rfl, rfl, fun g => G g ∨ (w.heap.size ≤ g ∧ g < w2.heap.size), n, s, m, q, G, rs, ws, ⟨m1.tw, m1.bel, fun g hg => ?_, fun g hg => ?_⟩, hl, hb, .inr fun w' hw' => ?_⟩
  · rcases hg with hg | ⟨hg, _⟩
    · exact ⟨(h.tw.gt g hg).2.1, (h.tw.gt g hg).2.2.1, fun e => h.tw.rf.grt (e ▸ hg), (h.tw.gt g hg).2.2.2⟩
    · exact ⟨by omega, by omega, by omega, fun x hx e => by have := ((h.tw.tab.row x hx).lt e).2; omega⟩
  · rcases hg with hg | ⟨_, hg⟩
    · exact Nat.lt_of_lt_of_le (h.tw.rf.lt g hg) hb2.size
    · exact hg
  · have hsz := r3.size
    have kk : ∀ g, w.heap.size ≤ g → g < w2.heap.size → w'.heap[g]? = w2.heap[g]? := fun g e1 e2 => hw'.2 g (.inr ⟨e1, e2⟩)
    refine ⟨_, rb2, wb2, j, s2, m, q, _, rs, ws, ⟨tA.keeps (kk _ p1 (by omega)) (kk _ (by omega) (by omega)) (kk _ (by omega) (by omega)) (fun x g hx e => kk g (a4 x g hx e).1 (by have := (a4 x g hx e).2; omega)), r2.keeps (fun g hg => ?_) (kk _ (by omega) r2.rlt) hw'.1, tw2.gt, tw2.brt⟩, hl, by omega, by omega, by omega, fun y => by have := hb.2.2.2 y; omega⟩
    rcases hg.1 with hg | ⟨hg, hg'⟩
    · exact hw'.2 g (.inl hg)
    · exact kk g (by omega) hg'
end Go.Proofs.Ytdonclnjgopmbaa
