/- An append that keeps one-byte numbers out of a row's block; terms do not lie there; contract of the document's Fork. What the document's Solve keeps in memory: its map, its row, what it bound. -/
import Derived.Test.YtljggjllijacjaaGreatDoorQAg
import Derived.Test.YtljggjllijacjaaGreatDoorYDxg
import Derived.Maps.AppendAt
namespace Go.Proofs.YtljggjllijacjaaGreatDoor
open Go.RowKit
attribute [local go_sem ↓] Go.wp_at_zero Go.wp_at_succ
/-- No number of one byte. -/
def NoB (u : Value) : Prop := ∀ k : Int, u ≠ .int .u8 k
/-- The value's block holds no number of one byte. -/
def Nu (w : World) (v : Value) : Prop := ∀ g cur e fr, v.ownBlock = some g → w.heap[g]? = some (.cells cur e fr) → ∀ u ∈ cur.toList, NoB u
theorem nu_nil (w : World) : Nu w (.slice none 0 0) := fun g cur e fr h => by simp [Value.ownBlock] at h
theorem Nu.keeps {w w' : World} {v : Value} (h : Nu w v) (hk : ∀ g, v.ownBlock = some g → w'.heap[g]? = w.heap[g]?) : Nu w' v := fun g cur e fr hg hc => h g cur e fr hg ((hk g hg).symm.trans hc)
section
variable {P : Program} (w : World)
theorem zc_toList (z : Array Value) (n : Nat) : ∀ u ∈ (Builtin.zeroCells z n).toList, u ∈ z.toList := by
 intro u hu
 simp [Builtin.zeroCells] at hu
 obtain ⟨j, h1, h2⟩ := hu
 have hz : 0 < z.size := by
  rcases Nat.eq_zero_or_pos z.size with e | e
  ·rw [e, Nat.mul_zero] at h1; omega
  ·exact e
 have hj : j % z.size < z.size := Nat.mod_lt _ hz
 rw [getElem!_pos z _ hj] at h2
 rw [← h2]
 simp
theorem run_append_nu (base : Nat) (t ty e : TypeId) (i : TypeInfo) (z : Value) (size bytes : Nat) (ht : P.underlying t = some (.slice e)) (hi : P.info? e = some i) (hz : i.zero = some z)
  (hsize : i.size = size) (hby : i.bytes = bytes) (hzs : z.cells.size = size) (hsz : 0 < size)
  (v : Value) (n : Nat) (xs : List Value) (hown : w.ownsRow base e size v n xs)
  (a : Addr) (m c : Nat) (news : List Value) (hl : news.length = m * size) (hnews : ∀ j u, news[j]? = some u → w.cell? (a.add j) = some u) (h1 : ∀ u ∈ news, u.oneCell' = true)
  (h63 : n + m ≤ maxLen) (hbytes : (n + m) * bytes ≤ 140737488355328) (hbase : base ≤ w.heap.size)
  (hN : Nu w v) (hNn : ∀ u ∈ news, NoB u) (hNz : ∀ u ∈ z.cells.toList, NoB u) :
  ∃ v' w', (Builtin.append_ #[t, t] ty #[v, .slice (some a) m c]).run P w = .ok v' w' ∧ w'.ownsRow base e size v' (n + m) (xs ++ news) ∧ w.grownBy w' v.ownBlock ∧
   (v'.ownBlock = v.ownBlock ∨ v'.ownBlock = some w.heap.size) ∧ Nu w' v' := by
 obtain ⟨v', w', hr, h2, h3, _, h5⟩ := run_append_own_at (P := P) w base t ty e i z size bytes ht hi hz hsize hby hzs hsz v n xs hown a m c news hl hnews h1 h63 hbytes hbase
 refine ⟨v', w', hr, h2, h3, h5, ?_⟩
 subst hsize
 subst hby
 have hsmall : n + m ≤ 9223372036854775807 := by simp only [maxLen] at h63; omega
 have hxs : ∀ u ∈ xs, NoB u := fun u hu => by
  rcases hown.2 with ⟨_, hn⟩ | ⟨g, cap, cur, rfl, hbg, hg, hnc, hcm, hcs, htake⟩
  ·have : xs = [] := List.eq_nil_of_length_eq_zero (by have := hown.1; rw [hn] at this; simpa using this)
   rw [this] at hu; cases hu
  ·rw [← htake] at hu
   exact hN g cur e (0, 0) rfl hg u (List.mem_of_mem_take hu)
 have hfresh : ∀ (k : Nat) (W : World) (q : Nat), W.heap.size = w.heap.size → Nu (W.alloc (.cells (xs.toArray ++ news.toArray ++ Builtin.zeroCells z.cells k) e)) (.slice (some ⟨w.heap.size, 0, none⟩) (n + m) q) := by
  intro k W q hW g cur e' fr hg hc u hu
  simp only [Value.ownBlock, Option.some.injEq] at hg
  rw [← hg, ← hW, heap_alloc_new W _] at hc
  simp only [Option.some.injEq, Obj.cells.injEq] at hc
  rw [← hc.1] at hu
  simp only [Array.toList_append, List.mem_append] at hu
  rcases hu with (hu | hu) | hu
  ·exact hxs u hu
  ·exact hNn u hu
  ·exact hNz u (zc_toList _ _ u hu)
 rcases hown.2 with ⟨rfl, rfl⟩ | ⟨g, cap, cur, rfl, hbg, hg, hnc, hcm, hcs, htake⟩
 ·have hx : xs = [] := List.eq_nil_of_length_eq_zero (by simpa using hown.1)
  subst hx
  by_cases hm : m = 0
  ·subst hm
   have hn : news = [] := List.eq_nil_of_length_eq_zero (by simpa using hl)
   subst hn
   have hr2 : (Builtin.append_ #[t, t] ty #[.slice none 0 0, .slice (some a) 0 c]).run P w = .ok (.slice none 0 0) w := by
    simp [Builtin.append_, run_underlying ht, sizeOf, typeInfo, hi, Builtin.lenOf, Builtin.firstCells, loadCells, loadCellsFrom]
   rw [hr2] at hr
   simp only [Result.ok.injEq] at hr
   rw [← hr.1, ← hr.2]
   exact nu_nil w
  ·have hr2 := run_append_nil (P := P) w t ty e i z ht hi hz a m c news hl hnews (by omega) (by omega) (by have hb := hbytes; simp only [Nat.zero_add] at hb; omega)
   rw [hr2] at hr
   simp only [Result.ok.injEq] at hr
   rw [← hr.1, ← hr.2]
   have := hfresh (grownCap w m 0 e - m) w.drew (grownCap w m 0 e) (by simp)
   simpa using this
 ·by_cases hroom : n + m ≤ cap
  ·have hfit : n * i.size + news.length ≤ cur.size := by rw [hl, hcs, ← Nat.add_mul]; exact Nat.mul_le_mul_right _ hroom
   have hr2 := run_append_room (P := P) w t ty e i ht hi g n cap cur hg a m c news hl hnews h1 hroom hfit
   rw [hr2] at hr
   simp only [Result.ok.injEq] at hr
   rw [← hr.1, ← hr.2]
   intro g' cur' e' fr' hg' hc' u hu
   simp only [Value.ownBlock, Option.some.injEq] at hg'
   rw [← hg', setRow_heap w g cur _ e _ hg] at hc'
   simp only [Option.some.injEq, Obj.cells.injEq] at hc'
   rw [← hc'.1] at hu
   simp only [List.mem_append] at hu
   rcases hu with (hu | hu) | hu
   ·exact hN g cur e (0, 0) rfl hg u (List.mem_of_mem_take hu)
   ·exact hNn u hu
   ·exact hN g cur e (0, 0) rfl hg u (List.mem_of_mem_drop hu)
  ·have holds : ∀ j u, xs[j]? = some u → w.cell? ((⟨g, 0, none⟩ : Addr).add j) = some u := hown.cells (g := g) rfl
   have hr2 := run_append_grow (P := P) w t ty e i z ht hi hz ⟨g, 0, none⟩ n cap xs hown.1 holds a m c news hl hnews (by omega) (by omega) (growslice_fits (by omega) hbytes)
   rw [hr2] at hr
   simp only [Result.ok.injEq] at hr
   rw [← hr.1, ← hr.2]
   exact hfresh _ w.drew _ (by simp)
theorem wpList_append_nu {ops : Array Oper} {rest : List Oper} {o : Oper} {a : Act} {Q : Exit → Act → World → Prop} (hgd : o.guard = none) (s x : Operand) (t : TypeId)
  (ho : o.op = .call { callee := .builtin .append, args := #[s, x], argTypes := #[t, t] })
  (base : Nat) (e : TypeId) (i : TypeInfo) (z : Value) (size bytes : Nat) (ht : P.underlying t = some (.slice e)) (hi : P.info? e = some i) (hz : i.zero = some z)
  (hsize : i.size = size) (hby : i.bytes = bytes) (hzs : z.cells.size = size) (hsz : 0 < size)
  (v : Value) (n : Nat) (xs : List Value) (hs : a.eval s = v) (hown : w.ownsRow base e size v n xs)
  (ad : Addr) (m c : Nat) (news : List Value) (hx : a.eval x = .slice (some ad) m c) (hl : news.length = m * size) (hnews : ∀ j u, news[j]? = some u → w.cell? (ad.add j) = some u) (h1 : ∀ u ∈ news, u.oneCell' = true)
  (h63 : n + m ≤ maxLen) (hbytes : (n + m) * bytes ≤ 140737488355328) (hbase : base ≤ w.heap.size)
  (hN : Nu w v) (hNn : ∀ u ∈ news, NoB u) (hNz : ∀ u ∈ z.cells.toList, NoB u)
  (h : ∀ a' c' w', w'.ownsRow base e size (.slice a' (n + m) c') (n + m) (xs ++ news) → w.grownBy w' v.ownBlock → ((Value.slice a' (n + m) c').ownBlock = v.ownBlock ∨ (Value.slice a' (n + m) c').ownBlock = some w.heap.size) → Nu w' (.slice a' (n + m) c') → wpList P ops Q rest (a.put o.dst (.slice a' (n + m) c')) w') : wpList P ops Q (o :: rest) a w := by
 refine wpList_plain hgd fun K hK => ?_
 obtain ⟨v', w', hr, h2, h3, h5, h6⟩ := run_append_nu (P := P) w base t o.type e i z size bytes ht hi hz hsize hby hzs hsz v n xs hown ad m c news hl hnews h1 h63 hbytes hbase hN hNn hNz
 have hf : ∃ a' c', v' = .slice a' (n + m) c' := by
  rcases h2.2 with ⟨q1, q2⟩ | ⟨g, cap, cur, q1, _⟩
  ·exact ⟨none, 0, by rw [q1, q2]⟩
  ·exact ⟨_, _, q1⟩
 obtain ⟨a', c', rfl⟩ := hf
 unfold Oper.wp execOp
 simp only [ho, resolve, invoke, builtin, Sem.run_bind, Sem.run_pure, Result.andThen_ok, List.map_toArray, List.map_cons, List.map_nil, hs, hx, hr]
 exact hK _ _ (h a' c' w' h2 h3 h5 h6)
end
/-- A term stays where a block is written that holds no number of one byte. -/
theorem TermAt.past {w w' : World} {row : Option Nat} {v : Value} {l : List C} (h : TermAt w v l) (hg : w.grownBy w' row) (hr : ∀ g, row = some g → ∀ cur e fr, w.heap[g]? = some (.cells cur e fr) → ∀ u ∈ cur.toList, NoB u) : TermAt w' v l := by
 obtain ⟨h0, h⟩ := h
 refine ⟨h0, ?_⟩
 rcases h with h | ⟨b, o, cap, h1, h2, h5, h3, h4⟩
 ·exact Or.inl h
 ·refine Or.inr ⟨b, o, cap, h1, h2, h5, ?_, Nat.lt_of_lt_of_le h4 hg.size⟩
  cases l with
  | nil => intro j u hu; simp [flat] at hu
  | cons x r =>
   have hne : some b ≠ row := fun e => by
    have hc := h3 0 (.int .u8 x.k) (by simp [flat, C.vals])
    simp only [Nat.add_zero] at hc
    unfold World.cell? at hc
    cases hb : w.heap[b]? with
    | none => simp [hb] at hc
    | some ob =>
     cases ob with
     | cells cur e' fr =>
      simp only [hb] at hc
      exact hr b e.symm cur e' fr hb _ (List.mem_of_getElem? (by simpa using hc)) x.k rfl
     | _ => simp [hb] at hc
   intro j u hu
   exact (World.cell?_of_block (a := ⟨b, o + j, none⟩) (hg.block b h4 hne)).trans (h3 j u hu)
section
set_option maxRecDepth 100000 in
set_option maxHeartbeats 8000000 in
theorem z64 (G : Nat → Prop) (rt : Nat) (bs : List Bn) (w : World) (h : RfH w G rt bs) (hn : bs.length ≤ 3518437208780) :
  Calls Tryz.prog 64 #[.pointer (some ⟨rt, 0, none⟩)] w fun e w' => e = .returned (.pointer (some ⟨w.heap.size, 0, none⟩)) ∧ Hid (RfH w' (fun g => G g ∨ (w.heap.size < g ∧ g < w'.heap.size)) w.heap.size bs ∧ Below w.heap.size w w') := by
 obtain ⟨i0, hi0, hz0, hsz0, hby0⟩ := info66
 obtain ⟨ra, rc, h1, h2, h4⟩ := h.ex
 obtain ⟨n, hnn⟩ : ∃ n, bs.length = n := ⟨_, rfl⟩
 obtain ⟨nr, hnr⟩ : ∃ nr, w.heap.size = nr := ⟨_, rfl⟩
 have hrt := h.rlt
 obtain ⟨W, hW⟩ : ∃ W, w.alloc (.cells #[.slice none 0 0] 57) = W := ⟨_, rfl⟩
 have hbW : Below nr w W := by rw [← hW, ← hnr]; exact (Below.refl _ w).alloc (Nat.le_refl _) _
 have hsW : W.heap.size = nr + 1 := by rw [← hW, ← hnr]; simp
 have hnW : W.heap[nr]? = some (.cells #[.slice none 0 0] 57 (0, 0)) := by rw [← hW, ← hnr]; exact heap_alloc_new w _
 have c0 : w.cell? ⟨rt, 0, none⟩ = some (.slice ra n rc) := by rw [← hnn, cell_of_row w rt 0 _ 57 (0, 0) h1]; rfl
 have c1 : W.drew.cell? ⟨rt, 0, none⟩ = some (.slice ra n rc) := by
  show W.cell? _ = _
  exact (World.cell?_of_block (a := ⟨rt, 0, none⟩) (hbW.block rt (by rw [← hnr]; exact hrt))).trans c0
 have c2 : W.drew.cell? ⟨nr, 0, none⟩ = some (.slice none 0 0) := by
  show W.cell? _ = _
  rw [cell_of_row W nr 0 _ 57 (0, 0) hnW]; rfl
 have hone : ∀ u ∈ bs.flatMap encB, u.oneCell' = true := fun u hu => by
  obtain ⟨b, _, hu⟩ := List.mem_flatMap.1 hu
  exact one_bn b u hu
 have hlen : (bs.flatMap encB).length = n * 3 := by rw [encB_len, hnn]
 have hnews : n = 0 ∨ ∃ ad, ra = some ad ∧ ∀ j u, (bs.flatMap encB)[j]? = some u → W.drew.cell? (ad.add j) = some u := by
  rcases h2.mem with e | ⟨b, o, e, hl, hr⟩
  ·exact .inl (by omega)
  ·refine .inr ⟨_, e, fun j u hu => ?_⟩
   rw [Addr.add_mid]
   exact (World.cell?_of_block (a := ⟨b, o + j, none⟩) (hbW.block b (by rw [← hnr]; exact hl))).trans (hr j u hu)
 have HNW : Hid ((bs.flatMap encB).length = n * 3 ∧ (n = 0 ∨ ∃ ad, ra = some ad ∧ ∀ j u, (bs.flatMap encB)[j]? = some u → W.drew.cell? (ad.add j) = some u) ∧ (∀ u ∈ bs.flatMap encB, u.oneCell' = true) ∧ nr + 1 ≤ W.drew.heap.size) := ⟨hlen, hnews, hone, by show _ ≤ W.heap.size; omega⟩
 have HFIN : Hid (∀ (w8 : World) (a' : Option Addr) (c' : Nat), w8.ownsRow (nr + 1) 73 3 (.slice a' (0 + n) c') (0 + n) ([] ++ bs.flatMap encB) → W.drew.grownBy w8 (Value.slice none 0 0).ownBlock → (w8.cell? ⟨nr, 0, none⟩ = some (.slice none 0 0) ∧ w8.frozen? ⟨nr, 0, none⟩ = false) ∧ w8.cell? ⟨rt, 0, none⟩ = some (.slice ra n rc) ∧ (w8.setCell ⟨nr, 0, none⟩ (.slice a' (0 + n) c')).cell? ⟨rt, 0, none⟩ = some (.slice ra n rc) ∧ RfH (w8.setCell ⟨nr, 0, none⟩ (.slice a' (0 + n) c')) (fun g => G g ∨ (nr < g ∧ g < (w8.setCell ⟨nr, 0, none⟩ (.slice a' (0 + n) c')).heap.size)) nr bs ∧ Below nr w (w8.setCell ⟨nr, 0, none⟩ (.slice a' (0 + n) c'))) := by
  intro w8 a' c' ho hg
  have kp : ∀ k, k < nr + 1 → w8.heap[k]? = W.heap[k]? := fun k hk => hg.block k (by show k < W.heap.size; omega) (by simp [Value.ownBlock])
  have e8 := (kp nr (by omega)).trans hnW
  have hsz8 : nr + 1 ≤ w8.heap.size := by have := hg.size; have h0 : W.drew.heap.size = W.heap.size := rfl; omega
  have hb8 : Below nr w w8 := (Below.drew hbW).grown hg (by show nr ≤ W.heap.size; omega) (fun z hz => by simp [Value.ownBlock] at hz)
  have hb9 : Below nr w (w8.setCell ⟨nr, 0, none⟩ (.slice a' (0 + n) c')) := hb8.setCell (p := ⟨nr, 0, none⟩) (Nat.le_refl _) _
  have hrn : rt < nr := by rw [← hnr]; exact hrt
  have q8 : w8.cell? ⟨rt, 0, none⟩ = some (.slice ra n rc) := (World.cell?_of_block (a := ⟨rt, 0, none⟩) (kp rt (by omega))).trans c1
  refine ⟨⟨by rw [cell_of_row w8 nr 0 _ 57 (0, 0) e8]; rfl, frozen_of_row w8 nr 0 _ 57 e8⟩, q8, (World.cell?_of_block (a := ⟨rt, 0, none⟩) (heap_setCell_other w8 ⟨nr, 0, none⟩ rt _ (by show rt ≠ nr; omega))).trans q8, ?_, hb9⟩
  obtain ⟨a2, c2', e2, ha, hm⟩ := own_sl ho
  simp only [Value.slice.injEq, true_and] at e2
  obtain ⟨rfl, rfl⟩ := e2
  have h' := h.below (by rw [hnr]; exact hb9)
  refine ⟨⟨a', c', ?_, ⟨rfl, ?_⟩, fun g hg => ?_⟩, fun b hb => ⟨(h'.lst b hb).1, fun g hg => .inl ((h'.lst b hb).2 g hg)⟩, ?_, by simp; omega, fun g hg => ?_⟩
  ·rw [heap_setCell_same w8 nr 0 _ 57 _ e8, hnn, Nat.zero_add]
   rfl
  ·rcases hm with e | ⟨b, o, e, hl, hr⟩
   ·exact .inl (by omega)
   ·refine .inr ⟨b, o, e, by simpa using hl, ?_⟩
    have hbn : b ≠ nr := by have := (ha b (by rw [e]; rfl)).1; omega
    intro j u hu
    refine (World.cell?_of_block (a := ⟨b, o + j, none⟩) (heap_setCell_other w8 ⟨nr, 0, none⟩ b _ hbn)).trans (hr j u (by simpa using hu))
  ·have := ha g hg
   exact .inr ⟨by omega, by simpa using this.2⟩
  ·rintro (e | ⟨e, _⟩)
   ·have := h.lt nr e; omega
   ·omega
  ·rcases hg with hg | ⟨_, hg⟩
   ·exact h'.lt g hg
   ·exact hg
 have hp14 : (fun u : World => u.cell? ⟨rt, 0, none⟩ = some (.slice ra n rc)) W.drew := c1
 clear h h1 h2 h4 hone hlen hnews hbW hrt
 rw [hnr]
 go_enter Tryz.func64, Tryz.ntmps64
 go_wp2_with fail
 try rw [hW]
 try rw [hnr]
 refine wp_region_noPanic ?_
 refine wp_region_held_drew (S := fun u => u.cell? ⟨rt, 0, none⟩ = some (.slice ra n rc)) (by kernel_rfl) hp14 (fun hHeld => ?_)
 clear hp14 c0
 generalize W.drew = WD at *
 refine wpAnyH_take (i := 0) (v := ?_) (by simp only [qA, qB]; rfl) (by kernel_rfl) (by kernel_rfl) (by kernel_rfl) (fun _ _ _ h => h) (Or.inl ⟨by rfl, ?_⟩) (by assumption) ?_; rotate_left; (· (intro w hSw; (try dsimp only at hSw); go_simp <;> with_reducible rfl)); try simp only [Act.put, qD, qE, qF]
 refine wpAnyH_take (i := 1) (v := ?_) (by simp only [qA, qB, qC]; rfl) (by kernel_rfl) (by kernel_rfl) (by kernel_rfl) (fun _ _ _ h => h) (Or.inl ⟨by rfl, ?_⟩) (by assumption) ?_; rotate_left; (· (intro w hSw; (try dsimp only at hSw); go_simp <;> with_reducible rfl)); try simp only [Act.put, qD, qE, qF]
 refine wpAnyH_take (i := 2) (v := ?_) (by simp only [qA, qB, qC]; rfl) (by kernel_rfl) (by kernel_rfl) (by kernel_rfl) (fun _ _ _ h => h) (Or.inl ⟨by rfl, ?_⟩) (by assumption) ?_; rotate_left; (· (intro w hSw; (try dsimp only at hSw); go_simp <;> with_reducible rfl)); try simp only [Act.put, qD, qE, qF]
 refine wpAnyH_take (i := 3) (v := ?_) (by simp only [qA, qB, qC]; rfl) (by kernel_rfl) (by kernel_rfl) (by kernel_rfl) (fun _ _ _ h => h) (Or.inl ⟨by rfl, ?_⟩) (by assumption) ?_; rotate_left; (· (intro w hSw; (try dsimp only at hSw); go_simp <;> with_reducible rfl)); try simp only [Act.put, qD, qE, qF]
 refine wpAnyH_take (i := 5) (v := ?_) (by simp only [qA, qB, qC]; rfl) (by kernel_rfl) (by kernel_rfl) (by kernel_rfl) (fun _ _ _ h => h) (Or.inl ⟨by rfl, ?_⟩) (by assumption) ?_; rotate_left; (· (intro w hSw; (try dsimp only at hSw); go_simp <;> with_reducible rfl)); try simp only [Act.put, qD, qE, qF]
 refine wpAnyH_take (i := 6) (v := ?_) (by simp only [qA, qB, qC]; rfl) (by kernel_rfl) (by kernel_rfl) (by kernel_rfl) (fun _ _ _ h => h) (Or.inl ⟨by rfl, ?_⟩) (by assumption) ?_; rotate_left; (· (intro w hSw; (try dsimp only at hSw); go_simp <;> with_reducible rfl)); try simp only [Act.put, qD, qE, qF]
 refine wpAnyH_take (i := 7) (v := ?_) (by simp only [qA, qB, qC]; rfl) (by kernel_rfl) (by kernel_rfl) (by kernel_rfl) (fun _ _ _ h => h) (Or.inl ⟨by rfl, ?_⟩) (by assumption) ?_; rotate_left; (· (intro w hSw; (try dsimp only at hSw); go_simp <;> with_reducible rfl)); try simp only [Act.put, qD, qE, qF]
 refine wpAnyH_take (i := 8) (v := ?_) (by simp only [qA, qB, qC]; rfl) (by kernel_rfl) (by kernel_rfl) (by kernel_rfl) (fun _ _ _ h => h) (Or.inl ⟨by rfl, ?_⟩) (by assumption) ?_; rotate_left; (· (intro w hSw; (try dsimp only at hSw); go_simp <;> with_reducible rfl)); try simp only [Act.put, qD, qE, qF]
 refine wpAnyH_ready (rs := [4]) (by kernel_rfl) (by simp) ?_
 refine AllReadyH.cons (by simp only [qA, qB, qC]; rfl) (fun K hK => ?_) AllReadyH.nil
 go_simp
 refine hK.out _ _ hHeld (fun hHeld => ?_)
 clear hK K
 try simp only [Act.put, qD, qE, qF]
 refine wpAnyH_ready (rs := [9]) (by kernel_rfl) (by simp) ?_
 refine AllReadyH.cons (by simp only [qA, qB, qC]; rfl) (fun K hK => ?_) AllReadyH.nil
 refine stepH_append_any (by rfl) _ _ 22 (by rfl) (nr + 1) 73 i0 _ 3 40 Tryz.underlying22 hi0 hz0 hsz0 hby0 rfl (by decide) _ _ _ (by rfl) (World.ownsRow_nil _ _ _ _) ra n rc (bs.flatMap encB) (by rfl) HNW.out.1 HNW.out.2.1 HNW.out.2.2.1 (by unfold maxLen; omega) (by omega) HNW.out.2.2.2 ?_
 intro a8 c8 w8 hown8 hgr8 hat8
 obtain ⟨⟨c9, f9⟩, hs8, hs9, hb9, hq9⟩ := HFIN.out w8 _ _ hown8 hgr8
 simp only [Nat.zero_add] at hs9 hb9 hq9
 have HEND : Hid (_ ∧ _) := ⟨hb9, hq9⟩
 refine hK.out _ _ hs8 (fun hHeld => ?_)
 clear hown8 hgr8 hat8 hb9 hq9
 clear hK K
 try simp only [Act.put, qD, qE, qF]
 refine wpAnyH_take (i := 10) (v := ?_) (by simp only [qA, qB, qC]; rfl) (by kernel_rfl) (by kernel_rfl) (by kernel_rfl) (fun _ _ _ h => h) (Or.inl ⟨by rfl, ?_⟩) (by assumption) ?_; rotate_left; (· (intro w hSw; (try dsimp only at hSw); go_simp <;> with_reducible rfl)); try simp only [Act.put, qD, qE, qF]
 refine wpAnyH_take (i := 11) (v := ?_) (by simp only [qA, qB, qC]; rfl) (by kernel_rfl) (by kernel_rfl) (by kernel_rfl) (fun _ _ _ h => h) (Or.inl ⟨by rfl, ?_⟩) (by assumption) ?_; rotate_left; (· (intro w hSw; (try dsimp only at hSw); go_simp <;> with_reducible rfl)); try simp only [Act.put, qD, qE, qF]
 refine wpAnyH_ready (rs := [12]) (by kernel_rfl) (by simp) ?_
 refine AllReadyH.cons (by simp only [qA, qB, qC]; rfl) (fun K hK => ?_) AllReadyH.nil
 go_simp
 refine hK.out _ _ hs9 (fun hHeld => ?_)
 clear hK K
 try simp only [Act.put, qD, qE, qF]
 refine wpAnyH_done (by kernel_rfl) ?_ _
 refine NoPanic.normal ?_
 clear hHeld c9 f9 hs8 hs9
 go_wp2_with fail
 go_ret
 exact ⟨rfl, (HEND.out : _ ∧ _)⟩
end
end Go.Proofs.YtljggjllijacjaaGreatDoor

namespace Go.Proofs.YtljggjllijacjaaGreatDoor
open Go.RowKit
attribute [local go_sem ↓] Go.wp_at_zero Go.wp_at_succ
theorem desc_bind {m : Hp} {x : Nm} {l : List C} (h : DescH m) : DescH (bindH m x l) := by
 unfold bindH
 split
 ·next e =>
  refine desc_ins h (bind_zero e) fun hv => ?_
  cases hl : lessN (varL l) x
  ·unfold bindE at e
   split at e
   ·cases e
   ·split at e
    ·cases e
    ·rw [if_pos ⟨hv, hl⟩] at e
     cases e
  ·rfl
 ·exact h
/-- The document's map, what is left to do, and what was bound. -/
structure Dl (w : World) (B rt : Nat) (m : Hp) (row : List (List C)) (bd : List (Nm × List C)) (n : Nat) (lv bv : Value) (us : List Value) (bb : List Bn) (G : Nat → Prop) (bs : List Bn) : Prop where
 rf : RfH w G rt bs
 hm : hpOf bs = m
 up : RisesH m
 de : DescH m
 ln : bs.length ≤ n
 ro : w.ownsRow B 24 1 lv row.length us
 ut : ∀ (j : Nat) (u : Value) (l : List C), us[j]? = some u → row[j]? = some l → TermAt w u l
 bo : w.ownsRow B 73 3 bv bd.length (bb.flatMap encB)
 bh : hpOf bb = bd
 bt : ∀ b ∈ bb, TermAt w b.v b.l
 nu : Nu w bv
 gb : ∀ g, bv.ownBlock = some g → ¬ G g
 low : B ≤ rt ∧ B ≤ w.heap.size
section
variable {w w' : World} {B rt n : Nat} {m : Hp} {row : List (List C)} {bd : List (Nm × List C)} {lv bv : Value} {us : List Value} {bb : List Bn} {G : Nat → Prop} {bs : List Bn}
theorem Dl.below (h : Dl w B rt m row bd n lv bv us bb G bs) (hb : Below w.heap.size w w') : Dl w' B rt m row bd n lv bv us bb G bs :=
 ⟨h.rf.below hb, h.hm, h.up, h.de, h.ln, owns_low h.ro hb, fun j u l h1 h2 => (h.ut j u l h1 h2).below hb, owns_low h.bo hb, h.bh, fun b hb' => (h.bt b hb').below hb, h.nu.keeps fun g hg => hb.block g (h.bo.lt g hg).2, h.gb, h.low.1, Nat.le_trans h.low.2 hb.size⟩
theorem Dl.bind (h : Dl w B rt m row bd n lv bv us bb G bs) {x : Nm} {l : List C} (hR : BindR w G rt bs x l w') : ∃ bs', Dl w' B rt (bindH m x l) row bd (n + 1) lv bv us bb (Gn w G w') bs' := by
 obtain ⟨bs', k1, k2, k3, k4⟩ := hR
 obtain ⟨ra, rc, r1, _, _⟩ := h.rf.ex
 have hrow : ∀ g, some rt = some g → ∀ cur e fr, w.heap[g]? = some (.cells cur e fr) → ∀ u ∈ cur.toList, NoB u := by
  intro g hg cur e fr hc u hu
  simp only [Option.some.injEq] at hg
  rw [← hg, r1] at hc
  simp only [Option.some.injEq, Obj.cells.injEq] at hc
  rw [← hc.1] at hu
  simp at hu
  subst hu
  intro k e
  cases e
 have hty : ∀ (g : Nat) (cur : Array Value) (t : TypeId) (fr : Nat × Nat), t ≠ 57 → w.heap[g]? = some (Obj.cells cur t fr) → w'.heap[g]? = w.heap[g]? := fun g cur t fr ht hc => k4.block g (Array.getElem?_eq_some_iff.1 hc).1 fun e => by
  simp only [Option.some.injEq] at e
  rw [e, r1] at hc
  simp only [Option.some.injEq, Obj.cells.injEq] at hc
  exact ht hc.2.1.symm
 refine ⟨bs', k3, by rw [k1, h.hm], rises_bind h.up, desc_bind h.de, by have := h.ln; omega, owns_eq2 h.ro fun g hg => ?_, fun j u l h1 h2 => (h.ut j u l h1 h2).past k4 hrow, owns_eq2 h.bo fun g hg => ?_, h.bh, fun b hb => (h.bt b hb).past k4 hrow, h.nu.keeps fun g hg => ?_, fun g hg => ?_, h.low.1, Nat.le_trans h.low.2 k4.size⟩
 ·obtain ⟨cu, hc⟩ := own_typed h.ro g hg
  exact hty g cu _ _ (by decide) hc
 ·obtain ⟨cu, hc⟩ := own_typed h.bo g hg
  exact hty g cu _ _ (by decide) hc
 ·obtain ⟨cu, hc⟩ := own_typed h.bo g hg
  exact hty g cu _ _ (by decide) hc
 ·rintro (e | ⟨e, _⟩)
  ·exact h.gb g hg e
  ·have := (h.bo.lt g hg).2
   omega
theorem Dl.put (h : Dl w B rt m row bd n lv bv us bb G bs) {q : Bn} (hq : TermAt w q.v q.l) {bv' : Value} (ho : w'.ownsRow B 73 3 bv' (bd.length + 1) (bb.flatMap encB ++ encB q)) (hg : w.grownBy w' bv.ownBlock) (hat : bv'.ownBlock = bv.ownBlock ∨ bv'.ownBlock = some w.heap.size) (hnu : Nu w' bv') : Dl w' B rt m row (bd ++ [(q.x, q.l)]) n lv bv' us (bb ++ [q]) G bs := by
 obtain ⟨ra, rc, r1, _, _⟩ := h.rf.ex
 have hrow : ∀ g, bv.ownBlock = some g → ∀ cur e fr, w.heap[g]? = some (.cells cur e fr) → ∀ u ∈ cur.toList, NoB u := fun g hg cur e fr hc => h.nu g cur e fr hg hc
 have hty : ∀ (g : Nat) (cur : Array Value) (t : TypeId) (fr : Nat × Nat), t ≠ 73 → w.heap[g]? = some (Obj.cells cur t fr) → w'.heap[g]? = w.heap[g]? := fun g cur t fr ht hc => hg.block g (Array.getElem?_eq_some_iff.1 hc).1 fun e => by
  obtain ⟨cu, h2⟩ := own_typed h.bo g e.symm
  rw [h2] at hc
  simp only [Option.some.injEq, Obj.cells.injEq] at hc
  exact ht hc.2.1.symm
 refine ⟨h.rf.keeps (fun g hG => hg.block g (h.rf.lt g hG) fun e => h.gb g e.symm hG) (hty rt _ _ _ (by decide) r1) hg.size, h.hm, h.up, h.de, h.ln, owns_eq2 h.ro fun g hg => ?_, fun j u l h1 h2 => (h.ut j u l h1 h2).past hg hrow, ?_, ?_, fun b hb => ?_, hnu, fun g hg' => ?_, h.low.1, Nat.le_trans h.low.2 hg.size⟩
 ·obtain ⟨cu, hc⟩ := own_typed h.ro g hg
  exact hty g cu _ _ (by decide) hc
 ·rw [List.length_append, List.flatMap_append]
  simpa using ho
 ·have := h.bh
  unfold hpOf at this ⊢
  rw [List.map_append, this]
  rfl
 ·rcases List.mem_append.1 hb with hb | hb
  ·exact (h.bt b hb).past hg hrow
  ·rw [List.mem_singleton.1 hb]
   exact hq.past hg hrow
 ·rcases hat with e | e
  ·exact h.gb g (e.symm.trans hg')
  ·rw [e] at hg'
   simp only [Option.some.injEq] at hg'
   intro hG
   have := h.rf.lt g hG
   omega
theorem Dl.left (h : Dl w B rt m row bd n lv bv us bb G bs) (hb : Below w.heap.size w w') {row' : List (List C)} {lv' : Value} {us' : List Value} (ho : w'.ownsRow B 24 1 lv' row'.length us') (hu : ∀ (j : Nat) (u : Value) (l : List C), us'[j]? = some u → row'[j]? = some l → TermAt w' u l) : Dl w' B rt m row' bd n lv' bv us' bb G bs := by
 have h' := h.below hb
 exact ⟨h'.rf, h'.hm, h'.up, h'.de, h'.ln, ho, hu, h'.bo, h'.bh, h'.bt, h'.nu, h'.gb, h'.low⟩
theorem Dl.more (h : Dl w B rt m row bd n lv bv us bb G bs) {n' : Nat} (hn : n ≤ n') : Dl w B rt m row bd n' lv bv us bb G bs := ⟨h.rf, h.hm, h.up, h.de, Nat.le_trans h.ln hn, h.ro, h.ut, h.bo, h.bh, h.bt, h.nu, h.gb, h.low⟩
theorem Dl.der (h : Dl w B rt m row bd n lv bv us bb G bs) (hW : HpW m) (hn : n ≤ 1000000000) : DerQ w (.pointer (some ⟨rt, 0, none⟩)) m := by
 have hm := h.hm
 have h1 := derQ_rf h.rf (by rw [hm]; exact h.up) (by rw [hm]; exact h.de) (by rw [hm]; exact hW.wf) (by have := h.ln; omega)
 rw [hm] at h1
 exact h1
end
/-- A map of the document, or none. -/
def HqR (w : World) (q : Option Addr) (m : Hp) (n0 : Nat) : Prop := (q = none ∧ m = []) ∨ ∃ rt G bs, q = some ⟨rt, 0, none⟩ ∧ RfH w G rt bs ∧ hpOf bs = m ∧ RisesH m ∧ DescH m ∧ bs.length ≤ n0
theorem HqR.below {w w' : World} {q : Option Addr} {m : Hp} {n0 : Nat} (h : HqR w q m n0) (hb : Below w.heap.size w w') : HqR w' q m n0 := by
 rcases h with h | ⟨rt, G, bs, h1, h2, h3⟩
 ·exact .inl h
 ·exact .inr ⟨rt, G, bs, h1, h2.below hb, h3⟩
/-- What the document's Solve tells. -/
def SoD (out : Int) (bd : List (Nm × List C)) (left : List (List C)) (st : Nat) (e : Ending) (w w' : World) : Prop := ∃ ba bn bc la ln lc, e = .returned (.agg #[.int .u8 out, .slice ba bn bc, .slice la ln lc, .int .i64 st]) ∧ Hid ((∃ bb : List Bn, hpOf bb = bd ∧ Bs w' ba bn bb ∧ ∀ b ∈ bb, TermAt w' b.v b.l) ∧ RowAt w' (.slice la ln lc) left ∧ Below w.heap.size w w')
/-- The box of the document's answer, and what stays ahead of it. -/
structure By (w : World) (rz : Nat) (wn : World) : Prop where
 blk : wn.heap[rz]? = some (.cells #[.int .u8 0, .slice none 0 0, .slice none 0 0, .int .i64 0] 66 (0, 0))
 bel : Below w.heap.size w wn
 low : w.heap.size = rz
theorem By.cells {w wn : World} {rz : Nat} (h : By w rz wn) : (wn.cell? ⟨rz, 0, none⟩ = some (.int .u8 0) ∧ wn.cell? ⟨rz, 1, none⟩ = some (.slice none 0 0) ∧ wn.cell? ⟨rz, 2, none⟩ = some (.slice none 0 0) ∧ wn.cell? ⟨rz, 3, none⟩ = some (.int .i64 0)) ∧ wn.frozen? ⟨rz, 0, none⟩ = false ∧ wn.frozen? ⟨rz, 1, none⟩ = false ∧ wn.frozen? ⟨rz, 2, none⟩ = false ∧ wn.frozen? ⟨rz, 3, none⟩ = false := by
 refine ⟨⟨?_, ?_, ?_, ?_⟩, frozen_of_row wn rz 0 _ 66 h.blk, frozen_of_row wn rz 1 _ 66 h.blk, frozen_of_row wn rz 2 _ 66 h.blk, frozen_of_row wn rz 3 _ 66 h.blk⟩ <;> (rw [cell_of_row wn rz _ _ 66 (0, 0) h.blk]; rfl)
theorem By.next {w wn wm : World} {rz B : Nat} (h : By w rz wn) (hb : Below B wn wm) (hB : rz < B) : By w rz wm := by
 have h1 := h.low
 exact ⟨(hb.block rz hB).trans h.blk, h.bel.trans (hb.mono (by omega)), h1⟩
theorem By.fill {w wn : World} {rz : Nat} (h : By w rz wn) (a b c d : Value) : Below w.heap.size w ((((wn.setCell ⟨rz, 0, none⟩ a).setCell ⟨rz, 1, none⟩ b).setCell ⟨rz, 2, none⟩ c).setCell ⟨rz, 3, none⟩ d) ∧ (∀ k, k ≠ rz → ((((wn.setCell ⟨rz, 0, none⟩ a).setCell ⟨rz, 1, none⟩ b).setCell ⟨rz, 2, none⟩ c).setCell ⟨rz, 3, none⟩ d).heap[k]? = wn.heap[k]?) ∧ wn.grownBy ((((wn.setCell ⟨rz, 0, none⟩ a).setCell ⟨rz, 1, none⟩ b).setCell ⟨rz, 2, none⟩ c).setCell ⟨rz, 3, none⟩ d) (some rz) := by
 have h1 : w.heap.size ≤ rz := Nat.le_of_eq h.low
 have h2 : ∀ k, k ≠ rz → ((((wn.setCell ⟨rz, 0, none⟩ a).setCell ⟨rz, 1, none⟩ b).setCell ⟨rz, 2, none⟩ c).setCell ⟨rz, 3, none⟩ d).heap[k]? = wn.heap[k]? := fun k hk => by
  rw [heap_setCell_other _ ⟨rz, 3, none⟩ k _ hk, heap_setCell_other _ ⟨rz, 2, none⟩ k _ hk, heap_setCell_other _ ⟨rz, 1, none⟩ k _ hk, heap_setCell_other _ ⟨rz, 0, none⟩ k _ hk]
 refine ⟨(((h.bel.setCell (p := ⟨rz, 0, none⟩) h1 a).setCell (p := ⟨rz, 1, none⟩) h1 b).setCell (p := ⟨rz, 2, none⟩) h1 c).setCell (p := ⟨rz, 3, none⟩) h1 d, h2, ?_⟩
 have h3 := (((Below.refl rz wn).setCell (p := ⟨rz, 0, none⟩) (Nat.le_refl _) a).setCell (p := ⟨rz, 1, none⟩) (Nat.le_refl _) b).setCell (p := ⟨rz, 2, none⟩) (Nat.le_refl _) c |>.setCell (p := ⟨rz, 3, none⟩) (Nat.le_refl _) d
 exact ⟨h3.os, h3.tape, h3.output, h3.size, fun k _ hk => h2 k fun e => hk (by rw [e])⟩
end Go.Proofs.YtljggjllijacjaaGreatDoor
