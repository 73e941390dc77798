/- Paths in memory, the set of what was met, and first: those that are met for the first time. Contract of first: those that are met for the first time, behind a path. Contracts of Value in general, leads, next. Append of any slice; contract of next: the level behind one. -/
import Derived.Test.YtojobiefambkoaaGreatDoorGA
import Derived.Test.YtojobiefambkoaaGreatDoorGB
import Derived.Test.YtojobiefambkoaaGreatDoorJB
namespace Go.Proofs.YtojobiefambkoaaGreatDoor
open Go.RowKit
attribute [local go_sem ↓] Go.wp_at_zero Go.wp_at_succ
def nmK : Mp.Key Tryz.prog 49 Nm := ⟨fun x => .agg #[.int .i64 x.1, .int .i64 x.2], kLit, wfN, law23, key23, fun _ _ hx hy h => kLit_inj hx hy h⟩
/-- The set of what was met. -/
def Met (w : World) (b n : Nat) (l : List Nm) : Prop := Mp.MpAt nmK w b n (fun x => if hasN l x then some (.agg #[]) else none) ∧ ∀ y ∈ l, wfN y
theorem Met.look {w : World} {b n : Nat} {l : List Nm} (h : Met w b n l) {x1 x2 : Int} (hx : wfN (x1, x2)) (W : World) (hW : W.heap[b]? = w.heap[b]?) : (Instr.lookup 103 (.map (some b)) (.agg #[.int .i64 x1, .int .i64 x2]) true).run Tryz.prog W = .ok (.tuple #[.agg #[], .bool (hasN l (x1, x2))]) W := by
  have h1 := (h.1.keeps hW).look_ok Tryz.underlying103 (zero74 W) (x := (x1, x2)) hx
  have h2 : nmK.v (x1, x2) = .agg #[.int .i64 x1, .int .i64 x2] := rfl
  rw [h2] at h1
  rw [h1]
  cases hasN l (x1, x2) <;> rfl
theorem Met.put {w : World} {b n : Nat} {l : List Nm} (h : Met w b n l) (hn : n < maxLen) {x1 x2 : Int} (hx : wfN (x1, x2)) (W : World) (hW : W.heap[b]? = w.heap[b]?) : ∃ w', (Instr.mapUpdate 103 (.map (some b)) (.agg #[.int .i64 x1, .int .i64 x2]) (.agg #[])).run Tryz.prog W = .ok () w' ∧ Met w' b (n + 1) (l ++ [(x1, x2)]) ∧ W.grownBy w' (some b) := by
  obtain ⟨w', h1, h2, h3⟩ := (h.1.keeps hW).put Tryz.underlying103 hn (x := (x1, x2)) hx (.agg #[])
  refine ⟨w', h1, ⟨?_, fun y hy => ?_⟩, h3⟩
  · have e : Mp.updF (fun x => if hasN l x then some (Value.agg #[]) else none) (x1, x2) (some (.agg #[])) = fun x => if hasN (l ++ [(x1, x2)]) x then some (.agg #[]) else none := by
      funext y
      unfold Mp.updF hasN
      rw [List.any_append]
      by_cases e : y = (x1, x2)
      · subst e; simp [eqN]
      · have e' : eqN (x1, x2) y = false := by
          cases h : eqN (x1, x2) y
          · rfl
          · exact absurd ((eqN_iff _ _).1 h).symm e
        rw [if_neg e]
        simp only [List.any_cons, List.any_nil, e', Bool.or_false]
    rw [← e]
    exact h2
  · rcases List.mem_append.1 hy with hy | hy
    · exact h.2 y hy
    · simp only [List.mem_singleton] at hy; rw [hy]; exact hx
theorem Met.keeps {w w' : World} {b n : Nat} {l : List Nm} (h : Met w b n l) (hk : w'.heap[b]? = w.heap[b]?) : Met w' b n l := ⟨h.1.keeps hk, h.2⟩
theorem Met.lt {w : World} {b n : Nat} {l : List Nm} (h : Met w b n l) : b < w.heap.size := h.1.lt
theorem Met.not {w : World} {b n : Nat} {l : List Nm} (h : Met w b n l) {g : Nat} {cu : Array Value} {t : TypeId} {p : Nat × Nat} (hg : w.heap[g]? = some (.cells cu t p)) : g ≠ b := h.1.ne_cells hg
theorem met_made (w : World) : Met (w.alloc (.map #[] 0)) w.heap.size 0 [] := ⟨Mp.mp_made nmK w, by simp⟩
/-- A path in memory, its end first. -/
def PathAt (w : World) : Value → List Nm → Prop
  | p, [] => p = .pointer none
  | p, x :: r => ∃ g a, p = .pointer (some ⟨g, 0, none⟩) ∧ w.heap[g]? = some (.cells #[.int .i64 x.1, .int .i64 x.2, a] 73 (0, 0)) ∧ PathAt w a r
/-- What lies in cells of other types than a row of paths stays. -/
def Kt (w w' : World) : Prop := w.heap.size ≤ w'.heap.size ∧ ∀ (g : Nat) (cu : Array Value) (t : TypeId) (f : Nat × Nat), t ≠ 71 → w.heap[g]? = some (.cells cu t f) → w'.heap[g]? = some (.cells cu t f)
theorem Kt.refl (w : World) : Kt w w := ⟨Nat.le_refl _, fun _ _ _ _ _ h => h⟩
theorem Kt.trans {a b c : World} (h : Kt a b) (k : Kt b c) : Kt a c := ⟨Nat.le_trans h.1 k.1, fun g cu t f ht hg => k.2 g cu t f ht (h.2 g cu t f ht hg)⟩
theorem Kt.below {w w' : World} (h : Below w.heap.size w w') : Kt w w' := ⟨h.size, fun g _ _ _ _ hg => (h.block g (Array.getElem?_eq_some_iff.1 hg).1).trans hg⟩
theorem Kt.grown {w w' : World} {row : Option Nat} (h : w.grownBy w' row) (hr : ∀ g, row = some g → ∀ cu t f, t ≠ 71 → w.heap[g]? ≠ some (.cells cu t f)) : Kt w w' :=
  ⟨h.size, fun g cu t f ht hg => (h.block g (Array.getElem?_eq_some_iff.1 hg).1 (fun e => hr g e.symm cu t f ht hg)).trans hg⟩
theorem PathAt.kt {w w' : World} (hk : Kt w w') : ∀ {c : List Nm} {p : Value}, PathAt w p c → PathAt w' p c
  | [], _, h => h
  | _ :: _, _, ⟨g, a, h1, h2, h3⟩ => ⟨g, a, h1, hk.2 g _ 73 _ (by decide) h2, PathAt.kt hk h3⟩
theorem PathAt.form {w : World} {c : List Nm} {p : Value} (h : PathAt w p c) : ∃ a, p = .pointer a := by
  cases c with
  | nil => exact ⟨none, h⟩
  | cons x r => obtain ⟨g, a, h1, _⟩ := h; exact ⟨_, h1⟩
/-- A row of paths of one's own. -/
def LvAt (w : World) (B : Nat) (v : Value) (cs : List (List Nm)) : Prop := ∃ us, w.ownsRow B 71 1 v cs.length us ∧ ∀ (j : Nat) (u : Value) (c : List Nm), us[j]? = some u → cs[j]? = some c → PathAt w u c
theorem lvAt_nil (w : World) (B : Nat) : LvAt w B (.slice none 0 0) [] := ⟨[], World.ownsRow_nil _ _ _ _, fun j u c h => by simp at h⟩
theorem gr_trans {a b c : World} {r : Nat} {row : Option Nat} (h : a.grownBy b (some r)) (k : b.grownBy c row) (hr : ∀ g, row = some g → a.heap.size ≤ g ∨ g = r) : a.grownBy c (some r) :=
  ⟨k.os.trans h.os, k.tape.trans h.tape, k.output.trans h.output, Nat.le_trans h.size k.size, fun i hi hne => (k.block i (Nat.lt_of_lt_of_le hi h.size) (fun e => by
    rcases hr i e.symm with h1 | h1
    · omega
    · exact hne (by rw [h1]))).trans (h.block i hi hne)⟩
theorem gr_refl (w : World) (r : Nat) : w.grownBy w (some r) := ⟨rfl, rfl, rfl, Nat.le_refl _, fun _ _ _ => rfl⟩
theorem info62 : ∃ i, Tryz.prog.info? 71 = some i ∧ i.zero = some (.pointer none) ∧ i.size = 1 ∧ i.bytes = 8 := by
  have h : (Tryz.prog.info? 71).map (fun i => (i.zero, i.size, i.bytes)) = some (some (.pointer none), 1, 8) := by kernel_rfl
  cases hq : Tryz.prog.info? 71 with
  | none => rw [hq] at h; cases h
  | some i =>
    rw [hq] at h
    simp only [Option.map_some, Option.some.injEq, Prod.mk.injEq] at h
    exact ⟨i, rfl, h.1, h.2.1, h.2.2⟩
theorem cell_one_at (W : World) (v : Value) (t : TypeId) : ∀ j u, ([v] : List Value)[j]? = some u → (W.alloc (.cells #[v] t)).cell? ((⟨W.heap.size, 0, none⟩ : Addr).add j) = some u := by
  intro j u hu
  match j with
  | 0 =>
    simp only [List.getElem?_cons_zero, Option.some.injEq] at hu
    subst hu
    rw [show (⟨W.heap.size, 0, none⟩ : Addr).add 0 = ⟨W.heap.size, 0, none⟩ from rfl, cell_of_row _ _ _ _ t (0, 0) (heap_alloc_new W _)]
    rfl
  | _ + 1 => simp at hu
theorem firstF_has {met r l : List Nm} {v : Nm} (h : hasN (firstF met r l).1 v = true) : firstF met r (l ++ [v]) = firstF met r l := by rw [firstF_snoc]; unfold firstS; rw [h]; rfl
theorem firstF_new {met r l : List Nm} {v : Nm} (h : hasN (firstF met r l).1 v = false) : firstF met r (l ++ [v]) = ((firstF met r l).1 ++ [v], (firstF met r l).2 ++ [v :: r]) := by rw [firstF_snoc]; unfold firstS; rw [h]; rfl
theorem firstF_len (met r : List Nm) (l : List Nm) : (firstF met r l).2.length ≤ l.length := by
  refine snoc_ind (p := fun l => (firstF met r l).2.length ≤ l.length) (by simp [firstF]) (fun l v ih => ?_) l
  cases h : hasN (firstF met r l).1 v
  · rw [firstF_new h]; simp; omega
  · rw [firstF_has h]; simp; omega
end Go.Proofs.YtojobiefambkoaaGreatDoor

namespace Go.Proofs.YtojobiefambkoaaGreatDoor
open Go.RowKit
attribute [local go_sem ↓] Go.wp_at_zero Go.wp_at_succ
/-- What first leaves. -/
def Fs (w w' : World) (b nn : Nat) (v : Value) (t : List Nm × List (List Nm)) : Prop := LvAt w' w.heap.size v t.2 ∧ Met w' b nn t.1 ∧ w.grownBy w' (some b) ∧ Kt w w'
theorem lvAt_form {w : World} {B : Nat} {v : Value} {cs : List (List Nm)} (h : LvAt w B v cs) : ∃ a c, v = .slice a cs.length c := by
  obtain ⟨us, h1, _⟩ := h
  exact owns_form h1
theorem row_keep {w w' : World} {B : Nat} {e : TypeId} {s n : Nat} {v : Value} {xs : List Value} (h : w.ownsRow B e s v n xs) (hk : ∀ g, v.ownBlock = some g → w'.heap[g]? = w.heap[g]?) : w'.ownsRow B e s v n xs := by
  refine ⟨h.1, ?_⟩
  rcases h.2 with hh | ⟨g, cap, cur, e1, e2, e3, e4⟩
  · exact .inl hh
  · exact .inr ⟨g, cap, cur, e1, e2, (hk g (by rw [e1]; rfl)).trans e3, e4⟩
theorem row_typed {w : World} {B : Nat} {e : TypeId} {s n : Nat} {v : Value} {xs : List Value} (h : w.ownsRow B e s v n xs) (g : Nat) (hg : v.ownBlock = some g) : ∃ cu, w.heap[g]? = some (.cells cu e (0, 0)) := by
  rcases h.2 with ⟨h1, _⟩ | ⟨g1, c1, cur1, h1, _, h3, _⟩
  · rw [h1] at hg; cases hg
  · rw [h1] at hg
    simp only [Value.ownBlock, Option.some.injEq] at hg
    subst hg
    exact ⟨cur1, h3⟩
theorem Met.mono {w : World} {b n n' : Nat} {l : List Nm} (h : Met w b n l) (hn : n ≤ n') : Met w b n' l := by
  obtain ⟨⟨D, h1, h2⟩, h3⟩ := h
  exact ⟨⟨D, h1.mono hn, h2⟩, h3⟩
theorem LvAt.keeps {w w' : World} {B : Nat} {v : Value} {cs : List (List Nm)} (h : LvAt w B v cs) (hk : Kt w w') (hg : ∀ g, v.ownBlock = some g → w'.heap[g]? = w.heap[g]?) : LvAt w' B v cs := by
  obtain ⟨us, h1, h2⟩ := h
  exact ⟨us, row_keep h1 hg, fun j u c hu hc => (h2 j u c hu hc).kt hk⟩
theorem LvAt.below {w w' : World} {B : Nat} {v : Value} {cs : List (List Nm)} (h : LvAt w B v cs) (hb : Below w.heap.size w w') : LvAt w' B v cs := by
  obtain ⟨us, h1, h2⟩ := h
  exact LvAt.keeps ⟨us, h1, h2⟩ (Kt.below hb) fun g hg => hb.block g (h1.lt g hg).2
theorem Fs.below {w wr W : World} {b nn : Nat} {v : Value} {t : List Nm × List (List Nm)} (h : Fs w wr b nn v t) (hb : Below wr.heap.size wr W) : Fs w W b nn v t :=
  ⟨h.1.below hb, h.2.1.keeps (hb.block b h.2.1.lt), gr_trans h.2.2.1 (below_grown hb) (fun g e => by cases e), h.2.2.2.trans (Kt.below hb)⟩
theorem Fs.mono {w wr : World} {b nn n' : Nat} {v : Value} {t : List Nm × List (List Nm)} (h : Fs w wr b nn v t) (hn : nn ≤ n') : Fs w wr b n' v t := ⟨h.1, h.2.1.mono hn, h.2.2⟩
set_option maxRecDepth 100000 in
set_option maxHeartbeats 4000000 in
theorem f48 (met r l : List Nm) (b n : Nat) (av la : Option Addr) (lc : Nat) (w : World) (hM : Met w b n met) (hr : PathAt w (.pointer av) r) (hl : NamesAt w (.slice la l.length lc) l) (hwf : ∀ x ∈ l, wfN x) (hn : n + l.length ≤ 1000000000000) :
    Calls Tryz.prog 61 #[.map (some b), .pointer av, .slice la l.length lc] w fun e w' => ∃ a k c, e = .returned (.slice a k c) ∧ Hid (Fs w w' b (n + l.length) (.slice a k c) (firstF met r l)) := by
  obtain ⟨i0, hi, hz, hs, hby⟩ := info62
  have HX : Hid (Met w b n met ∧ PathAt w (.pointer av) r ∧ NamesAt w (.slice la l.length lc) l ∧ ∀ x ∈ l, wfN x) := ⟨hM, hr, hl, hwf⟩
  have H0 : Hid (Fs w w b (n + 0) (.slice none 0 0) (firstF met r (l.take 0))) := ⟨by simp [firstF]; exact lvAt_nil _ _, by simpa [firstF] using hM, gr_refl _ _, Kt.refl _⟩
  have hl63 : l.length ≤ 9223372036854775807 := by omega
  obtain ⟨q, hq⟩ : ∃ q, l.length = q := ⟨_, rfl⟩
  have HQ : Hid (l.length = q) := hq
  rw [hq] at HX hn hl63 ⊢
  clear hM hr hl hwf hq
  go_enter Tryz.func61, Tryz.ntmps61
  go_wp2_with fail
  go_loopw [7, 14] (fun fv iv wr => ∃ (k : Nat) (fa : Option Addr) (fk fc : Nat), k ≤ q ∧ fv = .slice fa fk fc ∧ iv = .int .i64 k ∧ Hid (Fs w wr b (n + k) (.slice fa fk fc) (firstF met r (l.take k)))) (fun _ iv _ => q - (intOf iv).toNat)
  case atStart => exact ⟨0, none, 0, 0, Nat.zero_le _, rfl, rfl, H0⟩
  case round =>
    clear H0
    obtain ⟨k, fa, fk, fc, hk, rfl, rfl, HK⟩ := hrel
    by_cases hlt : k < q
    · have hltI : (k : Int) < (q : Int) := by omega
      have hk0 : (0 : Int) ≤ (k : Int) := by omega
      have hkl : k < l.length := by rw [HQ.out]; exact hlt
      obtain ⟨⟨x1, x2⟩, hx⟩ : ∃ x, l[k] = x := ⟨_, rfl⟩
      have hwx : wfN (x1, x2) := by rw [← hx]; exact HX.out.2.2.2 _ (List.getElem_mem hkl)
      obtain ⟨g, o, rfl, p0, p1⟩ : ∃ g o, la = some ⟨g, o, none⟩ ∧ wr.cell? ⟨g, o + k * 2, none⟩ = some (.int .i64 x1) ∧ wr.cell? ⟨g, o + k * 2 + 1, none⟩ = some (.int .i64 x2) := by
        obtain ⟨_, ⟨e, _⟩ | ⟨g, o, cp, e, hrg, hgl⟩⟩ := HX.out.2.2.1
        · rw [e] at hkl; simp at hkl
        · simp only [Value.slice.injEq] at e
          obtain ⟨rfl, _, rfl⟩ := e
          obtain ⟨c0, c1⟩ := name_cells hrg k hkl
          have hkt := HK.out.2.2.1
          have hgb : g ≠ b := by
            intro e
            subst e
            obtain ⟨es, ck, hm⟩ := HX.out.1.1.blk
            rw [World.cell?] at c0
            rw [hm] at c0
            simp at c0
          have hblk := hkt.block g hgl (fun e => hgb (by cases e; rfl))
          rw [hx] at c0 c1
          exact ⟨g, o, rfl, (World.cell?_of_block (a := ⟨g, o + k * 2, none⟩) hblk).trans c0, (World.cell?_of_block (a := ⟨g, o + k * 2 + 1, none⟩) hblk).trans c1⟩
      have HSN : Hid (l.take (k + 1) = l.take k ++ [(x1, x2)]) := by
        show l.take (k + 1) = _
        rw [List.take_succ_eq_append_getElem hkl, hx]
      obtain ⟨W1, hW1⟩ : ∃ W1, wr.alloc (.cells #[.int .i64 x1, .int .i64 x2] 49) = W1 := ⟨_, rfl⟩
      obtain ⟨W2, hW2⟩ : ∃ W2, W1.alloc (.cells #[] 116) = W2 := ⟨_, rfl⟩
      obtain ⟨r1, hr1⟩ : ∃ r1, wr.heap.size = r1 := ⟨_, rfl⟩
      have hB1 : Below wr.heap.size wr W1 := by rw [← hW1]; exact below_alloc _ _
      have hB2 : Below wr.heap.size wr W2 := by rw [← hW2]; exact hB1.alloc hB1.size _
      have hbb : b < wr.heap.size := HK.out.2.1.lt
      have hlk := HK.out.2.1.look hwx W1 (hB1.block b hbb)
      have HBx : Hid (∀ W, Below W1.heap.size W1 W → W.cell? ⟨r1, 0, none⟩ = some (.int .i64 x1) ∧ W.cell? ⟨r1, 1, none⟩ = some (.int .i64 x2)) := fun W hW => by
        have hblk : W.heap[r1]? = some (.cells #[.int .i64 x1, .int .i64 x2] 49 (0, 0)) := by
          refine (hW.block r1 ?_).trans ?_
          · rw [← hr1, ← hW1]; simp
          · rw [← hW1, ← hr1]; exact heap_alloc_new _ _
        exact ⟨by rw [cell_of_row W r1 0 _ 49 (0, 0) hblk]; rfl, by rw [cell_of_row W r1 1 _ 49 (0, 0) hblk]; rfl⟩
      have hB12 : Below W1.heap.size W1 W2 := by rw [← hW2]; exact below_alloc _ _
      obtain ⟨s0, s1⟩ := HBx.out W1 (Below.refl _ _)
      have HFs : Hid (Below wr.heap.size wr W2) := hB2
      cases hh : hasN (firstF met r (l.take k)).1 (x1, x2)
      · rw [hh] at hlk
        have hnk : n + k < maxLen := by unfold maxLen; omega
        obtain ⟨W3, hput, HP3⟩ : ∃ W3, (Instr.mapUpdate 103 (.map (some b)) (.agg #[.int .i64 x1, .int .i64 x2]) (.agg #[])).run Tryz.prog W2 = .ok () W3 ∧ Hid (Met W3 b (n + k + 1) ((firstF met r (l.take k)).1 ++ [(x1, x2)]) ∧ W2.grownBy W3 (some b)) := by
          obtain ⟨W3, h1, h2, h3⟩ := HK.out.2.1.put hnk hwx W2 (hB2.block b hbb)
          exact ⟨W3, h1, h2, h3⟩
        obtain ⟨t0, t1⟩ := HBx.out W2 hB12
        have hu : W3.cell? ⟨r1, 0, none⟩ = some (.int .i64 x1) ∧ W3.cell? ⟨r1, 1, none⟩ = some (.int .i64 x2) := by
          have hrb : r1 ≠ b := by omega
          have hrs : r1 < W2.heap.size := by rw [← hW2, ← hW1, ← hr1]; simp; omega
          have hblk := HP3.out.2.block r1 hrs (fun e => hrb (by cases e; rfl))
          exact ⟨(World.cell?_of_block (a := ⟨r1, 0, none⟩) hblk).trans t0, (World.cell?_of_block (a := ⟨r1, 1, none⟩) hblk).trans t1⟩
        obtain ⟨u0, u1⟩ := hu
        have hkt12 : Kt wr W2 := Kt.below hB2
        have hmb2 : Met W2 b (n + k) (firstF met r (l.take k)).1 := HK.out.2.1.keeps (hB2.block b hbb)
        have hkt3 : Kt W2 W3 := Kt.grown HP3.out.2 fun g e cu t f _ hg => by
          cases e
          exact hmb2.not hg rfl
        obtain ⟨W4, hW4⟩ : ∃ W4, W3.alloc (.cells #[.int .i64 x1, .int .i64 x2, .pointer av] 73) = W4 := ⟨_, rfl⟩
        obtain ⟨W5, hW5⟩ : ∃ W5, W4.alloc (.cells #[.pointer (some ⟨W3.heap.size, 0, none⟩)] 71) = W5 := ⟨_, rfl⟩
        have hB34 : Below W3.heap.size W3 W4 := by rw [← hW4]; exact below_alloc _ _
        have hB45 : Below W4.heap.size W4 W5 := by rw [← hW5]; exact below_alloc _ _
        have hB35 : Below W3.heap.size W3 W5 := hB34.trans (hB45.mono hB34.size)
        have hk5 : Kt wr W5 := (hkt12.trans hkt3).trans (Kt.below hB35)
        have hg5 : w.grownBy W5 (some b) := gr_trans (gr_trans (gr_trans HK.out.2.2.1 (below_grown hB2) (fun g e => by cases e)) HP3.out.2 (fun g e => .inr (by cases e; rfl))) (below_grown hB35) (fun g e => by cases e)
        obtain ⟨us, hrow, hpth⟩ := HK.out.1
        have hfk : (firstF met r (l.take k)).2.length = fk := by
          obtain ⟨x, y, e⟩ := owns_form hrow
          simp only [Value.slice.injEq] at e
          omega
        have HFK : Hid (fk ≤ k) := by
          have h := firstF_len met r (l.take k)
          rw [hfk] at h
          have h2 : (l.take k).length ≤ k := List.length_take_le k l
          show fk ≤ k
          omega
        have hfk1 : fk ≤ 1000000000000 := by have := HFK.out; omega
        rw [hfk] at hrow
        have hne : ∀ g, (Value.slice fa fk fc).ownBlock = some g → g ≠ b ∧ g < wr.heap.size ∧ w.heap.size ≤ g := fun g hg => by
          obtain ⟨cu, hc⟩ := row_typed hrow g hg
          exact ⟨HK.out.2.1.not hc, (hrow.lt g hg).2, (hrow.lt g hg).1⟩
        have hrow5 : W5.ownsRow w.heap.size 71 1 (.slice fa fk fc) fk us := row_keep hrow fun g hg => by
          obtain ⟨h1, h2, _⟩ := hne g hg
          have h3 : g < W2.heap.size := Nat.lt_of_lt_of_le h2 hB2.size
          have h4 : g < W3.heap.size := Nat.lt_of_lt_of_le h3 HP3.out.2.size
          exact (hB35.block g h4).trans ((HP3.out.2.block g h3 (fun e => h1 (by cases e; rfl))).trans (hB2.block g h2))
        have HR5 : Hid (W5.ownsRow w.heap.size 71 1 (.slice fa fk fc) fk us ∧ Kt wr W5 ∧ w.grownBy W5 (some b) ∧ (firstF met r (l.take k)).2.length = fk ∧ (∀ (j : Nat) (u : Value) (c : List Nm), us[j]? = some u → (firstF met r (l.take k)).2[j]? = some c → PathAt wr u c) ∧ (∀ g, (Value.slice fa fk fc).ownBlock = some g → g ≠ b ∧ g < wr.heap.size ∧ w.heap.size ≤ g)) := ⟨hrow5, hk5, hg5, hfk, hpth, hne⟩
        have HM5 : Hid (Met W5 b (n + k + 1) ((firstF met r (l.take k)).1 ++ [(x1, x2)])) := HP3.out.1.keeps (hB35.block b HP3.out.1.lt)
        have HPN : Hid (W5.heap[W3.heap.size]? = some (.cells #[.int .i64 x1, .int .i64 x2, .pointer av] 73 (0, 0))) := by
          have h4 : W4.heap[W3.heap.size]? = some (.cells #[.int .i64 x1, .int .i64 x2, .pointer av] 73 (0, 0)) := by rw [← hW4]; exact heap_alloc_new _ _
          exact (hB45.block _ (Array.getElem?_eq_some_iff.1 h4).1).trans h4
        have hnew : ∀ j u, ([.pointer (some ⟨W3.heap.size, 0, none⟩)] : List Value)[j]? = some u → W5.cell? ((⟨W4.heap.size, 0, none⟩ : Addr).add j) = some u := by rw [← hW5]; exact cell_one_at W4 _ 71
        have hbase : w.heap.size ≤ W5.heap.size := hg5.size
        have HFx : Hid (firstF met r (l.take k ++ [(x1, x2)]) = ((firstF met r (l.take k)).1 ++ [(x1, x2)], (firstF met r (l.take k)).2 ++ [(x1, x2) :: r])) := firstF_new hh
        clear hB1 hB2 hbb hB12 hh hkt12 hmb2 hkt3 hB34 hB45 hB35 hk5 hg5 hrow hpth hfk hne hrow5
        go_wp2_with (at_builtin; refine wpList_append_own _ rfl _ _ 104 rfl w.heap.size 71 i0 (.pointer none) 1 8 Tryz.underlying104 hi hz hs hby rfl (by decide) _ _ _ rfl HR5.out.1 ⟨W4.heap.size, 0, none⟩ 1 1 [.pointer (some ⟨W3.heap.size, 0, none⟩)] rfl rfl hnew (fun u hu => by simp at hu; subst hu; rfl) (by unfold maxLen; omega) (by omega) hbase ?_)
        intro v6 w6 hown hgr _
        obtain ⟨ga, gc, rfl⟩ := owns_form hown
        have HE : Hid (Fs w w6 b (n + (k + 1)) (.slice ga (fk + 1) gc) (firstF met r (l.take (k + 1)))) := by
          obtain ⟨h1, h2, h3, h4, h5, h6⟩ := HR5.out
          have hk6 : Kt W5 w6 := Kt.grown hgr fun g e cu t f ht hg => by
            obtain ⟨cu', hc⟩ := row_typed h1 g e
            rw [hc] at hg
            simp only [Option.some.injEq, Obj.cells.injEq] at hg
            exact ht hg.2.1.symm
          rw [HSN.out, HFx.out]
          refine ⟨⟨us ++ [.pointer (some ⟨W3.heap.size, 0, none⟩)], by simp only [List.length_append, List.length_cons, List.length_nil, h4]; exact hown, fun j u c hu hc => ?_⟩, HM5.out.keeps (hgr.block b HM5.out.lt (fun e => (h6 b e.symm).1 rfl)), gr_trans h3 hgr (fun g e => .inl (h6 g e).2.2), (HK.out.2.2.2.trans h2).trans hk6⟩
          have hul : us.length = fk := by have := h1.1; omega
          by_cases hj : j < fk
          · rw [List.getElem?_append_left (by omega)] at hu hc
            exact (h5 j u c hu hc).kt (h2.trans hk6)
          · rw [List.getElem?_append_right (by omega)] at hu hc
            rw [hul] at hu
            rw [h4] at hc
            have hj0 : j - fk = 0 := by
              have := (List.getElem?_eq_some_iff.1 hu).1
              simp at this; omega
            rw [hj0] at hu hc
            simp only [List.getElem?_cons_zero, Option.some.injEq] at hu hc
            subst hu hc
            exact ⟨W3.heap.size, .pointer av, rfl, hk6.2 _ _ 73 _ (by decide) HPN.out, HX.out.2.1.kt ((HK.out.2.2.2.trans h2).trans hk6)⟩
        clear hown hgr HR5 HM5 HPN HFx HFK hnew hbase HP3 hput u0 u1 t0 t1 s0 s1 hW1 hW2 hW4 hW5 HFs HBx
        go_wp2_with fail
        go_roundw
        case rel => exact ⟨k + 1, ga, fk + 1, gc, by omega, by go_num, by go_num, HE⟩
        case measure => simp [intOf]; omega
      · rw [hh] at hlk
        have HE : Hid (Fs w W2 b (n + (k + 1)) (.slice fa fk fc) (firstF met r (l.take (k + 1)))) := by
          rw [HSN.out, firstF_has hh]
          exact (HK.out.below hB2).mono (by omega)
        clear hB1 hB2 hbb hB12 hh
        go_wp2_with fail
        go_roundw
        case rel => exact ⟨k + 1, fa, fk, fc, by omega, by go_num, by go_num, HE⟩
        case measure => simp [intOf]; omega
    · have hltI : ¬ (k : Int) < (q : Int) := by omega
      obtain rfl : k = q := by omega
      have HE : Hid (Fs w wr b (n + k) (.slice fa fk fc) (firstF met r l)) := by
        have h := HK.out
        rw [List.take_of_length_le (by rw [HQ.out]; exact Nat.le_refl _)] at h
        exact h
      clear HK
      go_wp2_with fail
      go_ret
      exact ⟨fa, fk, fc, rfl, HE⟩
end Go.Proofs.YtojobiefambkoaaGreatDoor

namespace Go.Proofs.YtojobiefambkoaaGreatDoor
open Go.RowKit
attribute [local go_sem ↓] Go.wp_at_zero Go.wp_at_succ
/-- What a heap says of its values. -/
def GoodH (m : Hp) : Prop := ∀ x l, lookH m x = some l → l.length * 48 ≤ 140737488355328 ∧ l ≠ [] ∧ rightB l = true
def vl (m : Hp) (x : Nm) : List C := (lookH m x).getD []
theorem row_low {w : World} {B B' : Nat} {e : TypeId} {s n : Nat} {v : Value} {xs : List Value} (h : w.ownsRow B e s v n xs) (hb : B' ≤ B) : w.ownsRow B' e s v n xs := by
  refine ⟨h.1, ?_⟩
  rcases h.2 with hh | ⟨g, cap, cur, e1, e2, e3⟩
  · exact .inl hh
  · exact .inr ⟨g, cap, cur, e1, by omega, e3⟩
def VaTo (m : Hp) (x : Nm) (e : Ending) (w w' : World) : Prop := ∃ a k c, e = .returned (.tuple #[.slice a k c, .bool (lookH m x).isSome]) ∧ Hid (TermAt w' (.slice a k c) (vl m x) ∧ Below w.heap.size w w')
set_option maxRecDepth 100000 in
set_option maxHeartbeats 4000000 in
theorem f13_nil (x : Nm) (w : World) : Calls Tryz.prog 74 #[.pointer none, .agg #[.int .i64 x.1, .int .i64 x.2]] w fun e w' => e = .returned (.tuple #[.slice none 0 0, .bool false]) ∧ Below w.heap.size w w' := by
  go_enter Tryz.func74, Tryz.ntmps74
  go_wp2_with fail
  exact bodyPost_ret (v := .tuple #[.slice none 0 0, .bool false]) (by simp [results, Tryz.results74, go_sem]) rfl ⟨rfl, below_alloc _ _⟩
set_option maxRecDepth 100000 in
set_option maxHeartbeats 4000000 in
theorem f13_none (m : Hp) (hb M n : Nat) (D : DataW Value) (x : Nm) (w : World) (hH : HpAt w hb M n D m) (hx : wfN x) (hl : lookH m x = none) :
    Calls Tryz.prog 74 #[.pointer (some ⟨hb, 0, none⟩), .agg #[.int .i64 x.1, .int .i64 x.2]] w fun e w' => e = .returned (.tuple #[.slice none 0 0, .bool false]) ∧ Below w.heap.size w w' := by
  obtain ⟨W, hW⟩ : ∃ W, w.alloc (.cells #[.int .i64 x.1, .int .i64 x.2] 49) = W := ⟨_, rfl⟩
  obtain ⟨vb, hvb⟩ : ∃ vb, w.heap.size = vb := ⟨_, rfl⟩
  have hbW : Below w.heap.size w W := by rw [← hW]; exact (Below.refl _ w).alloc (Nat.le_refl _) _
  have HbW : Hid (Below w.heap.size w W) := hbW
  have hc : W.heap[vb]? = some (.cells #[.int .i64 x.1, .int .i64 x.2] 49 (0, 0)) := by rw [← hW, ← hvb]; exact heap_alloc_new w _
  obtain ⟨v0, v1⟩ := box_cells hc
  have H30 : Calls Tryz.prog 52 #[.pointer (some ⟨hb, 0, none⟩), .agg #[.int .i64 x.1, .int .i64 x.2]] W fun e w' => e = .returned (.bool false) ∧ Hid (Below W.heap.size W w') := by
    refine (h21 m hb M n D x W (hH.below hbW) hx).mono ?_
    rintro e w' ⟨rfl, hb'⟩
    exact ⟨by rw [hl]; rfl, hb'⟩
  clear hH hl hbW hc hx
  obtain ⟨x1, x2⟩ := x
  simp only at *
  go_enter Tryz.func74, Tryz.ntmps74
  go_wp2_with fail
  refine H30.mono ?_
  rintro e w1 ⟨rfl, HB1⟩
  have HB : Hid (Below w.heap.size w w1) := HbW.out.trans (HB1.out.mono HbW.out.size)
  clear H30 v0 v1 HB1 hW hvb
  go_wp2_with fail
  exact bodyPost_ret (v := .tuple #[.slice none 0 0, .bool false]) (by simp [results, Tryz.results74, go_sem]) rfl ⟨rfl, HB.out⟩
theorem f13 (m : Hp) (p : Value) (x : Nm) (w : World) (hp : HpV w p m) (hx : wfN x) (hm : GoodH m) : Calls Tryz.prog 74 #[p, .agg #[.int .i64 x.1, .int .i64 x.2]] w fun e w' => VaTo m x e w w' := by
  rcases hp with ⟨rfl, rfl⟩ | ⟨hb, M, n, D, rfl, hH⟩
  · refine (f13_nil x w).mono ?_
    rintro e w' ⟨rfl, hb⟩
    exact ⟨none, 0, 0, rfl, term_nil _ none, hb⟩
  · cases hl : lookH m x with
    | none =>
      refine (f13_none m hb M n D x w hH hx hl).mono ?_
      rintro e w' ⟨rfl, hb⟩
      exact ⟨none, 0, 0, by rw [hl]; rfl, by unfold vl; rw [hl]; exact term_nil _ none, hb⟩
    | some l =>
      refine (i14 m hb M n D x l w hH hx hl (hm x l hl).1).mono ?_
      rintro e w' ⟨a, c, rfl, h⟩
      exact ⟨a, l.length, c, by rw [hl]; rfl, by unfold vl; rw [hl]; exact h.out.1, h.out.2⟩
theorem vl_len {m : Hp} (hm : GoodH m) (x : Nm) : (vl m x).length ≤ 256 := by
  unfold vl
  cases hl : lookH m x with
  | none => simp
  | some l => exact (right_len (hm x l hl).2.2).2
theorem leads_eq (m : Hp) (x : Nm) : leadsH m x = nubN (varsAll [vl m x]) := by simp [leadsH, vl, varsAll]
theorem leads_len {m : Hp} (hm : GoodH m) (x : Nm) : (leadsH m x).length ≤ 256 ∧ (varsAll [vl m x]).length ≤ 256 := by
  have h1 := vl_len hm x
  have h2 : (varsAll [vl m x]).length ≤ (vl m x).length := by
    simp only [varsAll, List.flatMap_cons, List.flatMap_nil, List.append_nil, varsOf, List.length_map]
    exact List.length_filter_le _ _
  rw [leads_eq]
  exact ⟨Nat.le_trans (nubN_len _) (by omega), by omega⟩
def WfH (m : Hp) : Prop := ∀ x l, lookH m x = some l → wfN x ∧ ∀ c ∈ l, wfN (c.vn, c.vk)
theorem leads_wf {m : Hp} (hw : WfH m) (x : Nm) : ∀ y ∈ varsAll [vl m x], wfN y := by
  intro y hy
  simp only [varsAll, List.flatMap_cons, List.flatMap_nil, List.append_nil, varsOf, List.mem_map, List.mem_filter] at hy
  obtain ⟨c, ⟨hc, _⟩, rfl⟩ := hy
  unfold vl at hc
  cases hl : lookH m x with
  | none => rw [hl] at hc; simp at hc
  | some l => rw [hl] at hc; exact (hw x l hl).2 c hc
theorem leadsH_wf {m : Hp} (hw : WfH m) (x : Nm) : ∀ y ∈ leadsH m x, wfN y := fun y hy => leads_wf hw x y (by rw [leads_eq] at hy; exact nubN_mem _ _ hy)
def LdTo (m : Hp) (x : Nm) (e : Ending) (w w' : World) : Prop := ∃ a k c, e = .returned (.slice a k c) ∧ Hid (OwnN w' w.heap.size (.slice a k c) (leadsH m x) ∧ Below w.heap.size w w')
set_option maxRecDepth 100000 in
set_option maxHeartbeats 4000000 in
theorem f42 (m : Hp) (p : Value) (x : Nm) (w : World) (hp : HpV w p m) (hx : wfN x) (hm : GoodH m) (hw : WfH m) :
    Calls Tryz.prog 49 #[p, .agg #[.int .i64 x.1, .int .i64 x.2]] w fun e w' => LdTo m x e w w' := by
  obtain ⟨W, hW⟩ : ∃ W, w.alloc (.cells #[.int .i64 x.1, .int .i64 x.2] 49) = W := ⟨_, rfl⟩
  obtain ⟨vb, hvb⟩ : ∃ vb, w.heap.size = vb := ⟨_, rfl⟩
  have hbW : Below w.heap.size w W := by rw [← hW]; exact (Below.refl _ w).alloc (Nat.le_refl _) _
  have HbW : Hid (Below w.heap.size w W) := hbW
  have hc : W.heap[vb]? = some (.cells #[.int .i64 x.1, .int .i64 x.2] 49 (0, 0)) := by rw [← hW, ← hvb]; exact heap_alloc_new w _
  obtain ⟨v0, v1⟩ := box_cells hc
  have H13 := f13 m p x W (hp.below hbW) hx hm
  have HL : Hid ((varsAll [vl m x]).length ≤ 1000000000000 ∧ ∀ y ∈ varsAll [vl m x], wfN y) := ⟨by have := (leads_len hm x).2; omega, leads_wf hw x⟩
  have hpf : ∃ q, p = .pointer q := by
    rcases hp with ⟨h, _⟩ | ⟨_, _, _, _, h, _⟩ <;> exact ⟨_, h⟩
  obtain ⟨q, rfl⟩ := hpf
  clear hp hx hm hw hbW hc
  obtain ⟨x1, x2⟩ := x
  simp only at *
  go_enter Tryz.func49, Tryz.ntmps49
  go_wp2_with fail
  refine H13.mono ?_
  rintro e w1 ⟨a, k, c, rfl, H1⟩
  have HB1 : Hid (Below w.heap.size w w1) := HbW.out.trans (H1.out.2.mono HbW.out.size)
  obtain ⟨b1, hb1⟩ : ∃ b, (lookH m (x1, x2)).isSome = b := ⟨_, rfl⟩
  have H64 : Hid (Calls Tryz.prog 36 #[.slice (some ⟨w1.heap.size, 0, none⟩) 1 1] (w1.alloc (.cells #[.slice a k c] 64)) fun e w' => ∃ a k c, e = .returned (.slice a k c) ∧ Hid (OwnN w' w.heap.size (.slice a k c) (leadsH m (x1, x2)) ∧ Below w.heap.size w w')) := by
    have hb2 : Below w1.heap.size w1 (w1.alloc (.cells #[.slice a k c] 64)) := below_alloc _ _
    have hb0 : Below w.heap.size w (w1.alloc (.cells #[.slice a k c] 64)) := HB1.out.trans (hb2.mono HB1.out.size)
    refine (c34 [vl m (x1, x2)] _ _ (row_one w1 _ _ H1.out.1) HL.out.1 HL.out.2).mono ?_
    rintro e w' ⟨u, rfl, h1, h2⟩
    obtain ⟨ga, gc, rfl⟩ := owns_form h1
    refine ⟨ga, _, gc, rfl, ?_, hb0.trans (h2.mono hb0.size)⟩
    rw [leads_eq]
    exact row_low h1 hb0.size
  rw [hb1]
  clear hb1 H13 v0 v1 hW hvb H1
  go_wp2_with fail
  refine H64.out.mono ?_
  rintro e w2 ⟨a2, k2, c2, rfl, H2⟩
  clear H64
  go_wp2_with fail
  go_ret
  exact ⟨a2, k2, c2, rfl, H2⟩
end Go.Proofs.YtojobiefambkoaaGreatDoor

namespace Go.Proofs.YtojobiefambkoaaGreatDoor
open Go.RowKit
attribute [local go_sem ↓] Go.wp_at_zero Go.wp_at_succ
theorem nextF_len {m : Hp} (hm : GoodH m) (met : List Nm) (lv : List (List Nm)) : (nextF m met lv).2.length ≤ 256 * lv.length := by
  refine snoc_ind (p := fun lv => (nextF m met lv).2.length ≤ 256 * lv.length) (by simp [nextF]) (fun l c ih => ?_) lv
  rw [nextF_snoc]
  unfold nextS
  have h1 := firstF_len (nextF m met l).1 c (leadsH m (hd0 c))
  have h2 := (leads_len hm (hd0 c)).1
  simp only [List.length_append, List.length_cons, List.length_nil]
  omega
/-- A level whose paths are not empty, their ends names. -/
def LvOk (lv : List (List Nm)) : Prop := ∀ c ∈ lv, ∃ x r, c = x :: r ∧ wfN x
set_option maxRecDepth 100000 in
set_option maxHeartbeats 4000000 in
theorem f49 (m : Hp) (p : Value) (met : List Nm) (lv : List (List Nm)) (b n B : Nat) (va : Option Addr) (vc : Nat) (w0 w : World) (hp : HpV w0 p m) (hw0 : Below w0.heap.size w0 w) (hbb : w0.heap.size ≤ b) (hm : GoodH m) (hw : WfH m) (hM : Met w b n met) (hlv : LvAt w B (.slice va lv.length vc) lv) (hok : LvOk lv) (hn : n + 256 * lv.length ≤ 1000000000000) :
    Calls Tryz.prog 62 #[.map (some b), p, .slice va lv.length vc] w fun e w' => ∃ a k c, e = .returned (.slice a k c) ∧ Hid (Fs w w' b (n + 256 * lv.length) (.slice a k c) (nextF m met lv)) := by
  obtain ⟨i0, hi, hz, hs, hby⟩ := info62
  have HX : Hid (HpV w0 p m ∧ Below w0.heap.size w0 w ∧ w0.heap.size ≤ b ∧ GoodH m ∧ WfH m) := ⟨hp, hw0, hbb, hm, hw⟩
  have HY : Hid (Met w b n met ∧ LvAt w B (.slice va lv.length vc) lv ∧ LvOk lv) := ⟨hM, hlv, hok⟩
  have H0 : Hid (Fs w w b (n + 256 * 0) (.slice none 0 0) (nextF m met (lv.take 0))) := ⟨by simp [nextF]; exact lvAt_nil _ _, by simpa [nextF] using hM, gr_refl _ _, Kt.refl _⟩
  have hpf : ∃ q, p = .pointer q := by
    rcases hp with ⟨h, _⟩ | ⟨_, _, _, _, h, _⟩ <;> exact ⟨_, h⟩
  obtain ⟨hq0, rfl⟩ := hpf
  obtain ⟨q, hq⟩ : ∃ q, lv.length = q := ⟨_, rfl⟩
  have HQ : Hid (lv.length = q) := hq
  rw [hq] at HY hn ⊢
  have hl63 : q ≤ 9223372036854775807 := by omega
  clear hp hw0 hbb hm hw hM hlv hok hq
  go_enter Tryz.func62, Tryz.ntmps62
  go_wp2_with fail
  go_loopw [7, 12] (fun fv iv wr => ∃ (k : Nat) (fa : Option Addr) (fk fc : Nat), k ≤ q ∧ fv = .slice fa fk fc ∧ iv = .int .i64 k ∧ Hid (Fs w wr b (n + 256 * k) (.slice fa fk fc) (nextF m met (lv.take k)))) (fun _ iv _ => q - (intOf iv).toNat)
  case atStart => exact ⟨0, none, 0, 0, Nat.zero_le _, rfl, rfl, H0⟩
  case round =>
    clear H0
    obtain ⟨k, fa, fk, fc, hk, rfl, rfl, HK⟩ := hrel
    by_cases hlt : k < q
    · have hltI : (k : Int) < (q : Int) := by omega
      have hk0 : (0 : Int) ≤ (k : Int) := by omega
      have hkl : k < lv.length := by rw [HQ.out]; exact hlt
      obtain ⟨⟨x1, x2⟩, r, hc, hwx⟩ := HY.out.2.2 _ (List.getElem_mem hkl)
      have hgw : w.grownBy wr (some b) := HK.out.2.2.1
      have hkt : Kt w wr := HK.out.2.2.2
      have hbelow : Below w0.heap.size w0 wr := HX.out.2.1.grown hgw HX.out.2.1.size (fun g e => by cases e; exact HX.out.2.2.1)
      obtain ⟨g, cp, u, pg, av, e0, hu, hpg⟩ : ∃ g cp u pg av, va = some ⟨g, 0, none⟩ ∧ (wr.cell? ⟨g, k, none⟩ = some u ∧ cp = vc) ∧ (u = .pointer (some ⟨pg, 0, none⟩) ∧ w.heap[pg]? = some (.cells #[.int .i64 x1, .int .i64 x2, av] 73 (0, 0)) ∧ PathAt w av r) := by
        obtain ⟨us, h1, h2⟩ := HY.out.2.1
        have hul : us.length = q := by have := h1.1; rw [HQ.out] at this; omega
        have hku : k < us.length := by omega
        have hu := List.getElem?_eq_getElem hku
        have hP := h2 k _ _ hu (List.getElem?_eq_getElem hkl)
        rw [hc] at hP
        obtain ⟨pg, av, e1, e2, e3⟩ := hP
        rcases h1.2 with ⟨_, e⟩ | ⟨g, c, cur, f1, f2, f3, f4, f5, f6, f7⟩
        · omega
        · simp only [Value.slice.injEq] at f1
          have hr := range_of_owns f3 f7 k _ hu
          have hgb : g ≠ b := HY.out.1.not f3
          have hblk := hgw.block g (Array.getElem?_eq_some_iff.1 f3).1 (fun e => hgb (by cases e; rfl))
          exact ⟨g, vc, us[k], pg, av, f1.1, ⟨(World.cell?_of_block (a := ⟨g, k, none⟩) hblk).trans (by simpa using hr), rfl⟩, e1, e2, e3⟩
      obtain ⟨cu, rfl⟩ := hu
      obtain ⟨rfl, hpb, hpr⟩ := hpg
      subst e0
      have hpb' : wr.heap[pg]? = some (.cells #[.int .i64 x1, .int .i64 x2, av] 73 (0, 0)) := hkt.2 pg _ 73 _ (by decide) hpb
      have p0 : wr.cell? ⟨pg, 0, none⟩ = some (.int .i64 x1) := by rw [cell_of_row wr pg 0 _ 73 (0, 0) hpb']; rfl
      have p1 : wr.cell? ⟨pg, 1, none⟩ = some (.int .i64 x2) := by rw [cell_of_row wr pg 1 _ 73 (0, 0) hpb']; rfl
      have H42 := f42 m (.pointer hq0) (x1, x2) wr (HX.out.1.below hbelow) hwx HX.out.2.2.2.1 HX.out.2.2.2.2
      have HPt : Hid (PathAt wr (.pointer (some ⟨pg, 0, none⟩)) ((x1, x2) :: r)) := ⟨pg, av, rfl, hpb', hpr.kt hkt⟩
      have HSN : Hid (lv.take (k + 1) = lv.take k ++ [(x1, x2) :: r]) := by
        show lv.take (k + 1) = _
        rw [List.take_succ_eq_append_getElem hkl, hc]
      clear hgw hkt hbelow hc hpb hpr hpb'
      go_wp2_with fail
      refine H42.mono ?_
      rintro e w1 ⟨la, lk, lc, rfl, HL⟩
      have HB1 : Hid (Below wr.heap.size wr w1) := HL.out.2
      have hlk : (leadsH m (x1, x2)).length = lk := by
        obtain ⟨x, y, e⟩ := owns_form HL.out.1
        simp only [Value.slice.injEq] at e
        omega
      have hlk2 : lk ≤ 256 := by have := (leads_len HX.out.2.2.2.1 (x1, x2)).1; omega
      obtain ⟨t, ht⟩ : ∃ t, firstF (nextF m met (lv.take k)).1 ((x1, x2) :: r) (leadsH m (x1, x2)) = t := ⟨_, rfl⟩
      have H48 : Hid (Calls Tryz.prog 61 #[.map (some b), .pointer (some ⟨pg, 0, none⟩), .slice la lk lc] w1 fun e w' => ∃ a k' c, e = .returned (.slice a k' c) ∧ Hid (Fs w1 w' b (n + 256 * k + 256) (.slice a k' c) t)) := by
        have hn1 : lk ≤ 1000000000000 := by omega
        have h := f48 (nextF m met (lv.take k)).1 ((x1, x2) :: r) (leadsH m (x1, x2)) b (n + 256 * k) (some ⟨pg, 0, none⟩) la lc w1 (HK.out.2.1.keeps (HB1.out.block b HK.out.2.1.lt)) (HPt.out.kt (Kt.below HB1.out)) (by
          rw [hlk]; exact namesAt_of_owns HL.out.1 (by rw [hlk]; unfold maxLen; omega)) (leadsH_wf HX.out.2.2.2.2 _) (by rw [hlk]; omega)
        rw [hlk, ht] at h
        refine h.mono ?_
        rintro e w' ⟨a, k', c, rfl, hF⟩
        exact ⟨a, k', c, rfl, hF.out.mono (by omega)⟩
      have HTT : Hid (nextF m met (lv.take (k + 1)) = (t.1, (nextF m met (lv.take k)).2 ++ t.2)) := by
        show nextF m met (lv.take (k + 1)) = _
        rw [HSN.out, nextF_snoc]
        unfold nextS
        rw [show hd0 ((x1, x2) :: r) = (x1, x2) from rfl, ht]
      clear HL hlk ht H42 p0 p1 cu
      go_wp2_with fail
      refine H48.out.mono ?_
      rintro e w2 ⟨sa, sk, sc, rfl, HS⟩
      obtain ⟨us, hrow, hpth⟩ := HK.out.1
      obtain ⟨vs, srow, spth⟩ := HS.out.1
      have hfk : (nextF m met (lv.take k)).2.length = fk := by
        obtain ⟨x, y, e⟩ := owns_form hrow
        simp only [Value.slice.injEq] at e
        omega
      have hsk : t.2.length = sk := by
        obtain ⟨x, y, e⟩ := owns_form srow
        simp only [Value.slice.injEq] at e
        omega
      rw [hfk] at hrow
      rw [hsk] at srow
      have hne : ∀ g, (Value.slice fa fk fc).ownBlock = some g → g ≠ b ∧ g < wr.heap.size ∧ w.heap.size ≤ g := fun g hg => by
        obtain ⟨cu, hc⟩ := row_typed hrow g hg
        exact ⟨HK.out.2.1.not hc, (hrow.lt g hg).2, (hrow.lt g hg).1⟩
      have hrow2 : w2.ownsRow w.heap.size 71 1 (.slice fa fk fc) fk us := row_keep hrow fun g hg => by
        obtain ⟨h1, h2, _⟩ := hne g hg
        have h3 : g < w1.heap.size := Nat.lt_of_lt_of_le h2 HB1.out.size
        exact (HS.out.2.2.1.block g h3 (fun e => h1 (by cases e; rfl))).trans (HB1.out.block g h2)
      have hk2 : Kt wr w2 := (Kt.below HB1.out).trans HS.out.2.2.2
      have hg2 : w.grownBy w2 (some b) := gr_trans (gr_trans HK.out.2.2.1 (below_grown HB1.out) (fun g e => by cases e)) HS.out.2.2.1 (fun g e => .inr (by cases e; rfl))
      have hnews : sk = 0 ∨ ∃ ad, sa = some ad ∧ ∀ j u, vs[j]? = some u → w2.cell? (ad.add j) = some u := by
        rcases srow.2 with ⟨_, e⟩ | ⟨g, c, cur, f1, f2, f3, f4, f5, f6, f7⟩
        · exact .inl e
        · simp only [Value.slice.injEq] at f1
          refine .inr ⟨⟨g, 0, none⟩, f1.1, fun j u hu => ?_⟩
          have hr := range_of_owns f3 f7 j u hu
          rw [Addr.add_mid]
          simpa using hr
      have hone : ∀ u ∈ vs, u.oneCell' = true := fun u hu => by
        obtain ⟨j, hj, rfl⟩ := List.getElem_of_mem hu
        have hvl : vs.length = sk := by have := srow.1; omega
        obtain ⟨a, e⟩ := (spth j _ _ (List.getElem?_eq_getElem hj) (List.getElem?_eq_getElem (by omega))).form
        rw [e]; rfl
      have hvl : vs.length = sk * 1 := by have := srow.1; omega
      have hfk2 : fk + sk ≤ 1000000000000 := by
        have h1 := nextF_len HX.out.2.2.2.1 met (lv.take (k + 1))
        rw [HTT.out] at h1
        have h2 : (lv.take (k + 1)).length ≤ k + 1 := List.length_take_le _ _
        simp only [List.length_append, hfk, hsk] at h1
        omega
      have HR : Hid (w2.ownsRow w.heap.size 71 1 (.slice fa fk fc) fk us ∧ (∀ (j : Nat) (u : Value) (c : List Nm), us[j]? = some u → (nextF m met (lv.take k)).2[j]? = some c → PathAt wr u c) ∧ (∀ (j : Nat) (u : Value) (c : List Nm), vs[j]? = some u → t.2[j]? = some c → PathAt w2 u c) ∧ (∀ g, (Value.slice fa fk fc).ownBlock = some g → g ≠ b ∧ g < wr.heap.size ∧ w.heap.size ≤ g) ∧ Kt wr w2 ∧ w.grownBy w2 (some b) ∧ (nextF m met (lv.take k)).2.length = fk ∧ t.2.length = sk) := ⟨hrow2, hpth, spth, hne, hk2, hg2, hfk, hsk⟩
      have hbase : w.heap.size ≤ w2.heap.size := hg2.size
      have HNe : Hid (sk = 0 ∨ ∃ ad, sa = some ad ∧ ∀ j u, vs[j]? = some u → w2.cell? (ad.add j) = some u) := hnews
      have HOn : Hid (∀ u ∈ vs, u.oneCell' = true) := hone
      have HVl : Hid (vs.length = sk * 1) := hvl
      clear hrow hpth srow spth hfk hsk hne hrow2 hk2 hg2 hnews hone hvl H48
      go_wp2_with (at_builtin; refine wpList_append_any _ rfl _ _ 104 rfl w.heap.size 71 i0 (.pointer none) 1 8 Tryz.underlying104 hi hz hs hby rfl (by decide) _ _ _ rfl HR.out.1 sa sk sc vs rfl HVl.out HNe.out HOn.out (by unfold maxLen; omega) (by omega) hbase ?_)
      intro ga gc w6 hown hgr
      have HE : Hid (Fs w w6 b (n + 256 * (k + 1)) (.slice ga (fk + sk) gc) (nextF m met (lv.take (k + 1)))) := by
        obtain ⟨h1, h2, h3, h4, h5, h6, h7, h8⟩ := HR.out
        have hk6 : Kt w2 w6 := Kt.grown hgr fun g e cu t f ht hg => by
          obtain ⟨cu', hc⟩ := row_typed h1 g e
          rw [hc] at hg
          simp only [Option.some.injEq, Obj.cells.injEq] at hg
          exact ht hg.2.1.symm
        rw [HTT.out]
        refine ⟨⟨us ++ vs, by simp only [List.length_append, h7, h8]; exact hown, fun j u c hu hc => ?_⟩, (HS.out.2.1.mono (by omega)).keeps (hgr.block b HS.out.2.1.lt (fun e => (h4 b e.symm).1 rfl)), gr_trans h6 hgr (fun g e => .inl (h4 g e).2.2), (HK.out.2.2.2.trans h5).trans hk6⟩
        have hul : us.length = fk := by have := h1.1; omega
        by_cases hj : j < fk
        · rw [List.getElem?_append_left (by omega)] at hu hc
          exact (h2 j u c hu hc).kt (h5.trans hk6)
        · rw [List.getElem?_append_right (by omega)] at hu hc
          rw [hul] at hu
          rw [h7] at hc
          exact (h3 _ u c hu hc).kt hk6
      clear hown hgr HR HNe HOn HVl hbase HB1 HS HPt HTT HSN
      go_wp2_with fail
      go_roundw
      case rel => exact ⟨k + 1, ga, fk + sk, gc, by omega, by go_num, by go_num, HE⟩
      case measure => simp [intOf]; omega
    · have hltI : ¬ (k : Int) < (q : Int) := by omega
      obtain rfl : k = q := by omega
      have HE : Hid (Fs w wr b (n + 256 * k) (.slice fa fk fc) (nextF m met lv)) := by
        have h := HK.out
        rw [List.take_of_length_le (by rw [HQ.out]; exact Nat.le_refl _)] at h
        exact h
      clear HK
      go_wp2_with fail
      go_ret
      exact ⟨fa, fk, fc, rfl, HE⟩
end Go.Proofs.YtojobiefambkoaaGreatDoor
