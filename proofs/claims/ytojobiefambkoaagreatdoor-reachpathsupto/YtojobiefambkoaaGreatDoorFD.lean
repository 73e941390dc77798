/- The library's slices.Reverse at names, laid at this program by the shelf; contracts of Reverse and of a path's names. Contract of Path: the first path that leads there. -/
import Derived.Shelf.SlicesQ.Reverse
import Derived.Test.YtojobiefambkoaaGreatDoorFC
namespace Go.Proofs
open Go.Shelf
def Tryz.revN_ren : Go.Shelf.Ren := ⟨fun | 35 => 73 | n => n, fun | 22 => 23 | 23 => 49 | 3 => 3 | 4 => 4 | 0 => 0 | n => n, fun | n => n⟩
theorem Tryz.revN : Go.Proofs.SlLaysE0.n35 Tryz.prog Tryz.revN_ren := {
  mixed := by kernel_rfl
  f35 := ⟨Tryz.f73.name, by decide, Tryz.func73.trans (congrArg some (by kernel_rfl))⟩
  t0 := Tryz.underlying0
  a0 := Tryz.isAgg0
  z0 := Tryz.sizeOf0
  v0 := Tryz.zeroValue0
  t3 := Tryz.underlying3
  a3 := Tryz.isAgg3
  z3 := Tryz.sizeOf3
  v3 := Tryz.zeroValue3
  t4 := Tryz.underlying4
  a4 := Tryz.isAgg4
  z4 := Tryz.sizeOf4
  v4 := Tryz.zeroValue4
  t22 := Tryz.underlying23
  a22 := Tryz.isAgg23
  z22 := Tryz.sizeOf23
  v22 := Tryz.zeroValue23 }
end Go.Proofs
namespace Go.Proofs.YtojobiefambkoaaGreatDoor
open Go.RowKit Go.Shelf Go.Sort
attribute [local go_sem ↓] Go.wp_at_zero Go.wp_at_succ
def RvTo (w w' : World) (B : Nat) (v : Value) (l : List Nm) : Prop := OwnN w' B v l.reverse ∧ w.grownBy w' v.ownBlock
theorem f54 (B : Nat) (u : Value) (l : List Nm) (w : World) (h : OwnN w B u l) (hl : l.length ≤ 4000000000000) :
    Calls Tryz.prog 73 #[u] w fun e w' => e = .returned (.tuple #[]) ∧ Hid (RvTo w w' B u l) := by
  rcases h.2 with ⟨e, h0⟩ | ⟨g, cap, cur, e, h1, h2, h3, h4, h5, h6⟩
  · subst e
    obtain rfl : l = [] := List.length_eq_zero_iff.1 h0
    have hcon := AnyQ.slices_Reverse_empty Tryz.revN none 0 w
    refine (show Calls Tryz.prog 73 #[.slice none 0 0] w _ from hcon).mono ?_
    rintro e w' ⟨rfl, rfl⟩
    exact ⟨rfl, h, ⟨rfl, rfl, rfl, Nat.le_refl _, fun _ _ _ => rfl⟩⟩
  · subst e
    have hcon := AnyQ.slices_Reverse Tryz.revN 2 Tryz.isAgg49 Tryz.sizeOf49 encM encM_len encM_one g 0 cap l.toArray w (holdsK_of_row encM_len h2 h6) (by simp; omega)
    have hcon' : Calls Tryz.prog 73 #[.slice (some ⟨g, 0, none⟩) l.length cap] w fun e w' => e = .returned (.tuple #[]) ∧ ∃ n, w' = sortWorldK encM 2 w g 0 n l.toArray.reverse #[] := by
      have h := hcon
      change Calls Tryz.prog 73 _ _ _ at h
      simp only [List.size_toArray] at h
      refine h.mono ?_
      rintro e w' ⟨rfl, n, rfl⟩
      exact ⟨rfl, n, by simp [sortWorldK, grow]⟩
    refine hcon'.mono ?_
    rintro e w' ⟨rfl, n, rfl⟩
    have hl' : l.toArray.reverse.toList.length = l.length := by simp
    refine ⟨rfl, ?_, grownBy_sortedK (enc := encM) (k := 2) _⟩
    have := ownsRow_sortedK (n := n) (os := #[]) encM_len (l := l.toArray.reverse.toList) hl' h1 h2 h3 h4 h5
    show World.ownsRow _ _ _ _ _ _ _
    rw [List.length_reverse, ← flatM]
    simpa using this
/-- While a path is gone through. -/
def NmI (c : List Nm) (n0 : Nat) (w : World) (kk : Nat) (pa : Option Addr) (lv : Value) (wr : World) : Prop := ∃ done rest, c = done ++ rest ∧ rest.length = kk ∧ PathAt w (.pointer pa) rest ∧ OwnN wr n0 lv done ∧ Below n0 w wr
set_option maxRecDepth 100000 in
set_option maxHeartbeats 4000000 in
theorem f29 (c : List Nm) (p : Value) (w : World) (h : PathAt w p c) (hl : c.length ≤ 1000000000000) :
    Calls Tryz.prog 47 #[p] w fun e w' => ∃ a k cc, e = .returned (.slice a k cc) ∧ Hid (k = c.length ∧ OwnN w' w.heap.size (.slice a k cc) c.reverse ∧ Below w.heap.size w w') := by
  obtain ⟨i0, hi, hz, hs, hby⟩ := info23
  obtain ⟨pa, rfl⟩ := h.form
  obtain ⟨n0, hn0⟩ : ∃ n0, w.heap.size = n0 := ⟨_, rfl⟩
  have HN0 : Hid (w.heap.size = n0) := hn0
  have H0 : Hid (NmI c n0 w c.length pa (.slice none 0 0) w) := ⟨[], c, rfl, rfl, h, World.ownsRow_nil _ _ _ _, Below.refl _ _⟩
  rw [hn0]
  clear h hn0
  go_enter Tryz.func47, Tryz.ntmps47
  go_wp2_with fail
  go_loopg [0, 3] (c.length) (fun kk pv lv wr => ∃ (pa : Option Addr) (la : Option Addr) (lk lc : Nat), pv = .pointer pa ∧ lv = .slice la lk lc ∧ Hid (NmI c n0 w kk pa (.slice la lk lc) wr))
  case atStart => exact ⟨pa, none, 0, 0, rfl, rfl, H0⟩
  case round =>
    clear H0
    obtain ⟨pa', la, lk, lc, rfl, rfl, HK⟩ := hrel
    obtain ⟨done, rest, hc, hk, hp, ho, hb⟩ := HK.out
    have hlk : done.length = lk := by
      obtain ⟨x, y, e⟩ := owns_form ho
      simp only [Value.slice.injEq] at e
      omega
    have HC : Hid (c = done ++ rest ∧ done.length = lk ∧ rest.length = gk) := ⟨hc, hlk, hk⟩
    have HB : Hid (Below n0 w wr) := hb
    have hlk2 : lk ≤ 1000000000000 := by have h := congrArg List.length hc; rw [List.length_append] at h; omega
    cases rest with
    | nil =>
      have hpn : pa' = none := by
        have h : (Value.pointer pa') = .pointer none := hp
        simpa using h
      subst hpn
      have H54 := f54 n0 (.slice la lk lc) done wr ho (by rw [hlk]; omega)
      have HR : Hid (c = done) := by
        show c = done
        simpa using hc
      clear hc hk hp ho hb hlk HK
      go_wp2_with fail
      refine H54.mono ?_
      rintro e w2 ⟨rfl, H2⟩
      have HE : Hid (lk = c.length ∧ OwnN w2 n0 (.slice la lk lc) c.reverse ∧ Below n0 w w2) := by
        obtain ⟨h1, h2⟩ := H2.out
        refine ⟨by rw [HR.out]; exact HC.out.2.1.symm, by rw [HR.out]; exact h1, HB.out.grown h2 ?_ ?_⟩
        · have := HB.out.size
          have := HN0.out
          omega
        · intro g hg
          exact (h1.lt g hg).1
      clear H2 H54
      go_wp2_with fail
      go_ret
      exact ⟨la, lk, lc, rfl, HE⟩
    | cons x rest =>
      obtain ⟨g, a, e1, e2, e3⟩ := hp
      simp only [Value.pointer.injEq] at e1
      subst e1
      obtain ⟨x1, x2⟩ := x
      obtain ⟨aa, rfl⟩ := e3.form
      have hgw : g < w.heap.size := (Array.getElem?_eq_some_iff.1 e2).1
      have e2r : wr.heap[g]? = some (.cells #[.int .i64 x1, .int .i64 x2, .pointer aa] 73 (0, 0)) := (HB.out.block g (by have := HN0.out; omega)).trans e2
      have p0 : wr.cell? ⟨g, 0, none⟩ = some (.int .i64 x1) := by rw [cell_of_row wr g 0 _ 73 (0, 0) e2r]; rfl
      have p1 : wr.cell? ⟨g, 1, none⟩ = some (.int .i64 x2) := by rw [cell_of_row wr g 1 _ 73 (0, 0) e2r]; rfl
      have HP : Hid (PathAt w (.pointer aa) rest) := e3
      have HOw : Hid ((wr.alloc (.cells #[.int .i64 x1, .int .i64 x2] 49)).ownsRow n0 49 2 (.slice la lk lc) lk (flatN done)) := by
        have h : wr.ownsRow n0 49 2 (.slice la lk lc) done.length (flatN done) := ho
        rw [hlk] at h
        exact h.alloc _
      have hbase : n0 ≤ (wr.alloc (.cells #[.int .i64 x1, .int .i64 x2] 49)).heap.size := by
        have := HB.out.size
        have := HN0.out
        simp; omega
      have HG : Hid (g < w.heap.size ∧ w.heap[g]? = some (.cells #[.int .i64 x1, .int .i64 x2, .pointer aa] 73 (0, 0))) := ⟨hgw, e2⟩
      clear hc hk e2 e2r e3 ho hb hlk HK hgw
      go_wp2_with (at_builtin; refine wpList_append_own _ rfl _ _ 23 rfl n0 49 i0 (.agg #[.int .i64 0, .int .i64 0]) 2 16 Tryz.underlying23 hi hz hs hby rfl (by decide) _ _ _ rfl HOw.out ⟨wr.heap.size, 0, none⟩ 1 1 (flatN [(x1, x2)]) rfl rfl (newsN_new wr (x1, x2)) (flatN_one _) (by unfold maxLen; omega) (by omega) hbase ?_)
      intro v5 w5 hown hgr _
      obtain ⟨a5, c5, rfl⟩ := owns_form hown
      have hB5 : Below n0 w w5 := (HB.out.alloc (by have := HB.out.size; have := HN0.out; omega) _).grown hgr hbase (fun g hg => (HOw.out.lt g hg).1)
      have HB5 : Hid (Below n0 w w5) := hB5
      have q1 : w5.cell? ⟨g, 2, none⟩ = some (.pointer aa) := by
        have h := (HB5.out.block g (by have := HN0.out; have := HG.out.1; omega)).trans HG.out.2
        rw [cell_of_row w5 g 2 _ 73 (0, 0) h]; rfl
      have HE : Hid (NmI c n0 w rest.length aa (.slice a5 (lk + 1) c5) w5) := by
        refine ⟨done ++ [(x1, x2)], rest, by rw [List.append_assoc]; exact HC.out.1, rfl, HP.out, ?_, hB5⟩
        show World.ownsRow _ _ _ _ _ _ _
        rw [List.length_append, HC.out.2.1, flatN_append]
        exact hown
      have HL : Hid (rest.length < gk) := by
        show rest.length < gk
        have := HC.out.2.2
        simp at this
        omega
      clear hown hgr hB5 HOw hbase p0 p1
      go_wp2_with fail
      go_roundg (rest.length)
      case measure => exact HL.out
      case rel => exact ⟨aa, a5, lk + 1, c5, rfl, by go_num, HE⟩
end Go.Proofs.YtojobiefambkoaaGreatDoor

namespace Go.Proofs.YtojobiefambkoaaGreatDoor
open Go.RowKit Go.Shelf Go.Sort
attribute [local go_sem] Oper.semAt_some
/-- How one variable leads to another one. -/
def pathF (m : Hp) (x y : Nm) : Option (List Nm) := (allC m [x]).find? fun c => eqN (hd0 c) y
/-- What Path tells. -/
def PaTo (m : Hp) (x y : Nm) (e : Ending) (w w' : World) : Prop := ∃ a k c, e = .returned (.tuple #[.slice a k c, .bool (pathF m x y).isSome]) ∧ Hid (k = ((pathF m x y).getD []).length ∧ OwnN w' w.heap.size (.slice a k c) ((pathF m x y).getD []).reverse ∧ Below w.heap.size w w')
theorem heap_at {W : World} {k : Nat} {o : Obj} (W' : World) (h : W.heap[k]? = some o) (hb : Below W.heap.size W W') : W'.heap[k]? = some o := (hb.block k (Array.getElem?_eq_some_iff.1 h).1).trans h
/-- What stands in the call's own blocks. -/
def PhI (n0 : Nat) (w : World) (y : Nm) (pre : List Pc) (W : World) : Prop := (W.heap[n0 + 1]? = some (.cells #[.int .i64 y.1, .int .i64 y.2] 49 (0, 0)) ∧ W.heap[n0 + 2]? = some (.cells #[.slice none 0 0] 23 (0, 0)) ∧ W.heap[n0 + 3]? = some (.cells #[.bool false] 4 (0, 0))) ∧ Below n0 w W ∧ ∀ x ∈ pre, eqN (hd0 x.c) y = false
def PhX (m : Hp) (n0 : Nat) (w : World) (x y : Nm) (c : Code) (W : World) : Prop := c = .ret ∧ ∃ ch a k cc, pathF m x y = some ch ∧ W.heap[n0 + 2]? = some (.cells #[.slice a k cc] 23 (0, 0)) ∧ W.heap[n0 + 3]? = some (.cells #[.bool true] 4 (0, 0)) ∧ k = ch.length ∧ OwnN W n0 (.slice a k cc) ch.reverse ∧ Below n0 w W
theorem phI_it {n0 B : Nat} {w : World} {y : Nm} {s : List Pc} {A C : World} (h : PhI n0 w y s A) (hi : ItL B A C) (hB : n0 ≤ B) : PhI n0 w y s C :=
  ⟨⟨hi.kt.2 _ _ 49 _ (by decide) h.1.1, hi.kt.2 _ _ 23 _ (by decide) h.1.2.1, hi.kt.2 _ _ 4 _ (by decide) h.1.2.2⟩, h.2.1.trans (hi.bel.mono hB), h.2.2⟩
theorem phX_it {m : Hp} {n0 B : Nat} {w : World} {x y : Nm} {c : Code} {A C : World} (h : PhX m n0 w x y c A) (hi : ItL B A C) (hB : n0 ≤ B) : PhX m n0 w x y c C := by
  obtain ⟨h0, ch, a, k, cc, h1, h2, h3, h4, h5, h6⟩ := h
  exact ⟨h0, ch, a, k, cc, h1, hi.kt.2 _ _ 23 _ (by decide) h2, hi.kt.2 _ _ 4 _ (by decide) h3, h4, row_keep h5 fun g hg => by
    obtain ⟨cu, hc⟩ := row_typed h5 g hg
    rw [hc]
    exact hi.kt.2 g cu 49 _ (by decide) hc, h6.trans (hi.bel.mono hB)⟩
set_option maxRecDepth 100000 in
set_option maxHeartbeats 4000000 in
theorem f12 (m : Hp) (p : Value) (x y : Nm) (w : World) (hp : HpV w p m) (hx : wfN x) (hm : GoodH m) (hw : WfH m) (hu : 1 + 256 * (univ m [x]).length ≤ 1000000000000) :
    Calls Tryz.prog 20 #[p, .agg #[.int .i64 x.1, .int .i64 x.2], .agg #[.int .i64 y.1, .int .i64 y.2]] w fun e w' => PaTo m x y e w w' := by
  refine (callsIn_wide (n := 6)).1 ?_
  obtain ⟨x1, x2⟩ := x
  obtain ⟨y1, y2⟩ := y
  simp only
  obtain ⟨n0, hn0⟩ : ∃ n0, w.heap.size = n0 := ⟨_, rfl⟩
  have HN0 : Hid (w.heap.size = n0) := hn0
  have hpf : ∃ q, p = .pointer q := by
    rcases hp with ⟨h, _⟩ | ⟨_, _, _, _, h, _⟩ <;> exact ⟨_, h⟩
  obtain ⟨hv, rfl⟩ := hpf
  obtain ⟨b1, hb1⟩ : ∃ b, n0 + 1 = b := ⟨_, rfl⟩
  obtain ⟨b2, hb2⟩ : ∃ b, b1 + 1 = b := ⟨_, rfl⟩
  obtain ⟨b3, hb3⟩ : ∃ b, b2 + 1 = b := ⟨_, rfl⟩
  obtain ⟨b4, hb4⟩ : ∃ b, b3 + 1 = b := ⟨_, rfl⟩
  obtain ⟨b5, hb5⟩ : ∃ b, b4 + 1 = b := ⟨_, rfl⟩
  obtain ⟨b6, hb6⟩ : ∃ b, b5 + 1 = b := ⟨_, rfl⟩
  have HBs : Hid (b1 = n0 + 1 ∧ b2 = n0 + 2 ∧ b3 = n0 + 3 ∧ b4 = n0 + 4 ∧ b5 = n0 + 5 ∧ b6 = n0 + 6) := ⟨by omega, by omega, by omega, by omega, by omega, by omega⟩
  obtain ⟨W3, hW3⟩ : ∃ W3, ((((w.alloc (.cells #[.int .i64 x1, .int .i64 x2] 49)).alloc (.cells #[.int .i64 y1, .int .i64 y2] 49)).alloc (.cells #[.slice none 0 0] 23)).alloc (.cells #[.bool false] 4)) = W3 := ⟨_, rfl⟩
  obtain ⟨W4, hW4⟩ : ∃ W4, W3.alloc (.cells #[.int .i64 x1, .int .i64 x2] 49) = W4 := ⟨_, rfl⟩
  have hx30 : W3.heap[n0]? = some (.cells #[.int .i64 x1, .int .i64 x2] 49 (0, 0)) := by
    rw [← hW3, ← hn0]
    exact heap_at _ (heap_alloc_new w (.cells #[.int .i64 x1, .int .i64 x2] 49)) ((((Below.refl _ _).alloc (Nat.le_refl _) _).alloc (by simp only [World.size_alloc]; omega) _).alloc (by simp only [World.size_alloc]; omega) _)
  have x30 : W3.cell? ⟨n0, 0, none⟩ = some (.int .i64 x1) := by rw [cell_of_row W3 n0 0 _ 49 (0, 0) hx30]; rfl
  have x31 : W3.cell? ⟨n0, 1, none⟩ = some (.int .i64 x2) := by rw [cell_of_row W3 n0 1 _ 49 (0, 0) hx30]; rfl
  clear hx30
  have hs3 : W3.heap.size = b4 := by
    rw [← hW3]
    simp only [World.size_alloc]
    omega
  obtain ⟨W0, hW0⟩ : ∃ W0, (W4.alloc (.cells #[.pointer hv] 25)).alloc (.cells #[.slice (some ⟨b4, 0, none⟩) 1 1] 23) = W0 := ⟨_, rfl⟩
  have hsz4 : Below n0 w W4 ∧ W4.heap.size = b5 := by
    subst hb1 hb2 hb3 hb4 hb5 hb6
    rw [← hW4, ← hW3]
    subst hn0
    exact ⟨(((((Below.refl _ w).alloc (Nat.le_refl _) _).alloc (by simp only [World.size_alloc]; omega) _).alloc (by simp only [World.size_alloc]; omega) _).alloc (by simp only [World.size_alloc]; omega) _).alloc (by simp only [World.size_alloc]; omega) _, by simp only [World.size_alloc]⟩
  have hsz0 : Below W4.heap.size W4 W0 ∧ W0.heap.size = b6 + 1 := by
    rw [← hW0]
    exact ⟨((Below.refl _ W4).alloc (Nat.le_refl _) _).alloc (by simp) _, by simp only [World.size_alloc, hsz4.2, hb6]⟩
  have HW4 : Hid (W4.heap[b1]? = some (.cells #[.int .i64 y1, .int .i64 y2] 49 (0, 0)) ∧ W4.heap[b2]? = some (.cells #[.slice none 0 0] 23 (0, 0)) ∧ W4.heap[b3]? = some (.cells #[.bool false] 4 (0, 0)) ∧ W4.heap[b4]? = some (.cells #[.int .i64 x1, .int .i64 x2] 49 (0, 0)) ∧ W0.heap[b5]? = some (.cells #[.pointer hv] 25 (0, 0)) ∧ W0.heap[b6]? = some (.cells #[.slice (some ⟨b4, 0, none⟩) 1 1] 23 (0, 0)) ∧ Below n0 w W4 ∧ Below W4.heap.size W4 W0 ∧ W4.heap.size = b5 ∧ W0.heap.size = b6 + 1 ∧ W0.cell? ⟨n0, 0, none⟩ = W4.cell? ⟨n0, 0, none⟩) := by
    have hc0 : W0.cell? ⟨n0, 0, none⟩ = W4.cell? ⟨n0, 0, none⟩ := hsz0.1.cell (p := ⟨n0, 0, none⟩) (by show n0 < _; omega)
    subst hb1 hb2 hb3 hb4 hb5 hb6
    refine ⟨?_, ?_, ?_, ?_, ?_, ?_, hsz4.1, hsz0.1, hsz4.2, hsz0.2, hc0⟩
    · subst hn0
      rw [← hW4, ← hW3]
      have h := heap_alloc_new (w.alloc (.cells #[.int .i64 x1, .int .i64 x2] 49)) (.cells #[.int .i64 y1, .int .i64 y2] 49)
      rw [World.size_alloc] at h
      exact heap_at _ h ((((Below.refl _ _).alloc (Nat.le_refl _) _).alloc (by simp only [World.size_alloc]; omega) _).alloc (by simp only [World.size_alloc]; omega) _)
    · subst hn0
      rw [← hW4, ← hW3]
      have h := heap_alloc_new ((w.alloc (.cells #[.int .i64 x1, .int .i64 x2] 49)).alloc (.cells #[.int .i64 y1, .int .i64 y2] 49)) (.cells #[.slice none 0 0] 23)
      rw [World.size_alloc, World.size_alloc] at h
      exact heap_at _ h (((Below.refl _ _).alloc (Nat.le_refl _) _).alloc (by simp only [World.size_alloc]; omega) _)
    · subst hn0
      rw [← hW4, ← hW3]
      have h := heap_alloc_new (((w.alloc (.cells #[.int .i64 x1, .int .i64 x2] 49)).alloc (.cells #[.int .i64 y1, .int .i64 y2] 49)).alloc (.cells #[.slice none 0 0] 23)) (.cells #[.bool false] 4)
      rw [World.size_alloc, World.size_alloc, World.size_alloc] at h
      exact heap_at _ h ((Below.refl _ _).alloc (Nat.le_refl _) _)
    · subst hn0
      rw [← hW4, ← hW3]
      have h := heap_alloc_new ((((w.alloc (.cells #[.int .i64 x1, .int .i64 x2] 49)).alloc (.cells #[.int .i64 y1, .int .i64 y2] 49)).alloc (.cells #[.slice none 0 0] 23)).alloc (.cells #[.bool false] 4)) (.cells #[.int .i64 x1, .int .i64 x2] 49)
      rw [World.size_alloc, World.size_alloc, World.size_alloc, World.size_alloc] at h
      exact h
    · have h := heap_alloc_new W4 (.cells #[.pointer hv] 25)
      rw [hsz4.2] at h
      rw [← hW0]
      exact heap_at _ h ((Below.refl _ _).alloc (Nat.le_refl _) _)
    · have h := heap_alloc_new (W4.alloc (.cells #[.pointer hv] 25)) (.cells #[.slice (some ⟨n0 + 1 + 1 + 1 + 1, 0, none⟩) 1 1] 23)
      rw [World.size_alloc, hsz4.2] at h
      rw [← hW0]
      exact h
  have hNm : NamesAt W4 (.slice (some ⟨b4, 0, none⟩) 1 1) [(x1, x2)] := ⟨by simp [maxLen], .inr ⟨b4, 0, 1, rfl, fun j u hu => by
    rw [cell_of_row W4 b4 (0 + j) _ 49 (0, 0) HW4.out.2.2.2.1]
    match j with
    | 0 => simpa [flatN, nmV] using hu
    | 1 => simpa [flatN, nmV] using hu
    | _ + 2 => simp [flatN, nmV] at hu, by have := HBs.out; have := hsz4.2; omega⟩⟩
  have HX : Hid (HpV W4 (.pointer hv) m ∧ NamesAt W4 (.slice (some ⟨b4, 0, none⟩) 1 1) [(x1, x2)] ∧ GoodH m ∧ WfH m ∧ wfN (x1, x2) ∧ 1 + 256 * (univ m [(x1, x2)]).length ≤ 1000000000000) := ⟨hp.below (by rw [hn0]; exact hsz4.1), hNm, hm, hw, hx, hu⟩
  have H26 := f26 hv (some ⟨b4, 0, none⟩) 1 1 W4
  rw [hW0, hsz4.2] at H26
  clear hp hx hm hw hu hsz4 hsz0 hNm
  refine callsIn_of_wp_marks Tryz.func20 rfl trivial ?_ rfl
  simp only [Tryz.ntmps20, List.size_toArray, List.length_cons, List.length_nil, Nat.reduceAdd, Nat.reduceSub, Array.replicate_succ, Array.replicate_zero, List.push_toArray, List.append_toArray, List.nil_append, List.cons_append]
  gi_wp2_with (refine ⟨trivial, ?_⟩; gi_at_call 31; refine (callsIn_wide.2 H26).mono ?_; rintro e w' ⟨rfl, hw'⟩)
  obtain rfl := hw'.symm
  clear H26 hW0 hW4 hW3 x30 x31 hs3 hb1 hb2 hb3 hb4 hb5 hb6 hn0
  have HSq : ItSeq Fence.wide 5 Tryz.prog 60 #[.pointer (some ⟨b6, 0, none⟩), .pointer (some ⟨b5, 0, none⟩)] encP (GdP m [(x1, x2)]) (KpR (fun _ => False) b5) (fun xs => xs.map Pc.c = allC m [(x1, x2)]) (fun _ => True) (fun l => l.map Pc.c <+: allC m [(x1, x2)]) W0 := by
    intro l J Jx W hW hJ _ hY h0
    obtain ⟨k1, k2, k3, k4, k5, k6⟩ := HX.out
    obtain ⟨_, _, _, _, c5, c6, _, d1, d2, d3, _⟩ := HW4.out
    have hwW : Below W4.heap.size W4 W := d1.trans (hW.mono d1.size)
    have hlt5 : b5 < W0.heap.size := (Array.getElem?_eq_some_iff.1 c5).1
    have hlt6 : b6 < W0.heap.size := (Array.getElem?_eq_some_iff.1 c6).1
    refine (pt_in (fun _ => False) m (.pointer hv) [(x1, x2)] (some ⟨b4, 0, none⟩) 1 b5 b6 b5 l 5 (by decide) W4 W J Jx k1 k2 (by omega) hwW (by have := hW.size; omega) k3 k4 (fun z hz => by simp only [List.mem_singleton] at hz; rw [hz]; exact k5) (by simpa using k6) ((hW.block b6 hlt6).trans c6) ((hW.block b5 hlt5).trans c5) ⟨by simp, by simp⟩ hJ hY h0).mono ?_
    rintro e W' ⟨h1, h2 | ⟨pre, h2⟩⟩
    · exact ⟨h1, .inl h2⟩
    · exact ⟨h1, .inr ⟨pre, trivial, h2⟩⟩
  have HS0 : Hid (W0.heap.size = b6 + 1 ∧ b6 = n0 + 6) := ⟨HW4.out.2.2.2.2.2.2.2.2.2.1, HBs.out.2.2.2.2.2⟩
  have hI0 : PhI n0 w (y1, y2) [] W0 := by
    obtain ⟨c1, c2, c3, _, _, _, d0, d1, d2, d3, _⟩ := HW4.out
    obtain ⟨q1, q2, q3, _⟩ := HBs.out
    refine ⟨⟨?_, ?_, ?_⟩, d0.trans (d1.mono (by omega)), by simp⟩
    · rw [← q1]; exact heap_at _ c1 d1
    · rw [← q2]; exact heap_at _ c2 d1
    · rw [← q3]; exact heap_at _ c3 d1
  refine rf_it (encs := encP) rfl (by decide) (gf := 60) (lb := #[.pointer (some ⟨b6, 0, none⟩), .pointer (some ⟨b5, 0, none⟩)]) rfl trivial (enters_of Tryz.func60 (by kernel_rfl) rfl) HSq kpR_t (fun W l r r' hl h => kpR_b W l r r' (by have := HBs.out; have := HS0.out; omega) h) (fun _ => rfl)
    (PhI n0 w (y1, y2)) (fun c _ W => PhX m n0 w (x1, x2) (y1, y2) c W) (fun s A C h hi => phI_it h hi (by have := HS0.out; omega)) (fun c _ A C h hi => phX_it h hi (by have := HS0.out; omega)) hI0
    (fun x a' W => a' = { tmps := #[.pointer hv, .agg #[.int .i64 x1, .int .i64 x2], .agg #[.int .i64 y1, .int .i64 y2], undef, .pointer (some ⟨n0, 0, none⟩), .pointer (some ⟨b1, 0, none⟩), .pointer (some ⟨b2, 0, none⟩), .pointer (some ⟨b3, 0, none⟩), .pointer x.v, .pointer hv, .agg #[.int .i64 x1, .int .i64 x2], .slice (some ⟨b4, 0, none⟩) 1 1, .func (.func 60) #[] #[.pointer (some ⟨b6, 0, none⟩), .pointer (some ⟨b5, 0, none⟩)], .pointer x.v, undef, undef, undef, undef, undef, undef, undef, undef], defers := [] } ∧ GdP m [(x1, x2)] x W)
    (fun x a' A C h hi => ⟨h.1, h.2.1.kt hi.kt, h.2.2⟩)
    ?assign ?body ?done ?stop
  case assign =>
    rintro lp pre x W K hI hG hK
    gi_wp2
    exact hK _ _ (KeepsFrom.refl _ _) ⟨Below.refl _ _, fun _ _ h _ => h⟩ hI ⟨rfl, hG⟩
  case body =>
    rintro lp pre ⟨xv, xc⟩ a' W ⟨⟨c1, c2, c3⟩, hbw, hpre⟩ ⟨rfl, hG⟩ hNx
    obtain ⟨⟨z1, z2⟩, r, hc⟩ := chn_cons hG.2.1
    have hxc : xc = (z1, z2) :: r := hc
    subst hxc
    have hG1 := hG.1
    obtain ⟨pg, av, hpe, hpb, hpr⟩ := hG1
    simp only [Value.pointer.injEq] at hpe
    subst hpe
    have HG : Hid (PathAt W (.pointer (some ⟨pg, 0, none⟩)) ((z1, z2) :: r) ∧ ((z1, z2) :: r).length ≤ 1000000000000) := by
      refine ⟨hG.1, ?_⟩
      have h1 := allC_cl m [(x1, x2)] ((z1, z2) :: r) (hNx.subset (by simp))
      have h2 := HX.out.2.2.2.2.2
      omega
    have HI : Hid ((W.heap[b1]? = some (.cells #[.int .i64 y1, .int .i64 y2] 49 (0, 0)) ∧ W.heap[b2]? = some (.cells #[.slice none 0 0] 23 (0, 0)) ∧ W.heap[b3]? = some (.cells #[.bool false] 4 (0, 0))) ∧ Below n0 w W ∧ (∀ x ∈ pre, eqN (hd0 x.c) (y1, y2) = false) ∧ (pre ++ [(⟨some ⟨pg, 0, none⟩, (z1, z2) :: r⟩ : Pc)]).map Pc.c <+: allC m [(x1, x2)]) := by
      obtain ⟨q1, q2, q3, _⟩ := HBs.out
      exact ⟨⟨by rw [q1]; exact c1, by rw [q2]; exact c2, by rw [q3]; exact c3⟩, hbw, hpre, hNx⟩
    have p0 : W.cell? ⟨pg, 0, none⟩ = some (.int .i64 z1) := by rw [cell_of_row W pg 0 _ 73 (0, 0) hpb]; rfl
    have p1 : W.cell? ⟨pg, 1, none⟩ = some (.int .i64 z2) := by rw [cell_of_row W pg 1 _ 73 (0, 0) hpb]; rfl
    have t0 : W.cell? ⟨b1, 0, none⟩ = some (.int .i64 y1) := by rw [cell_of_row W b1 0 _ 49 (0, 0) HI.out.1.1]; rfl
    have t1 : W.cell? ⟨b1, 1, none⟩ = some (.int .i64 y2) := by rw [cell_of_row W b1 1 _ 49 (0, 0) HI.out.1.1]; rfl
    have HS1 : W.drew.cell? ⟨pg, 0, none⟩ = some (.int .i64 z1) ∧ W.drew.cell? ⟨pg, 1, none⟩ = some (.int .i64 z2) ∧ W.drew.cell? ⟨b1, 0, none⟩ = some (.int .i64 y1) ∧ W.drew.cell? ⟨b1, 1, none⟩ = some (.int .i64 y2) := ⟨p0, p1, t0, t1⟩
    have hq := eql23b z1 z2 y1 y2
    clear c1 c2 c3 hbw hpre hG hNx hpb hpr hc p0 p1 t0 t1
    gi_wp2
    refine region_in (S := fun u => u.cell? ⟨pg, 0, none⟩ = some (.int .i64 z1) ∧ u.cell? ⟨pg, 1, none⟩ = some (.int .i64 z2) ∧ u.cell? ⟨b1, 0, none⟩ = some (.int .i64 y1) ∧ u.cell? ⟨b1, 1, none⟩ = some (.int .i64 y2)) (by kernel_rfl) (by kernel_rfl) HS1 (fun hHeld => ?_)
    (refine wpAnyH_take (i := 0) (v := ?_) (by simp only [List.getElem?_toArray, List.getElem?_cons_zero]; rfl) (by kernel_rfl) (by kernel_rfl) (by kernel_rfl) (fun _ _ _ h => h) (Or.inl ⟨by rfl, ?_⟩) (by assumption) ?_; rotate_left; (· (intro w hSw; (try dsimp only at hSw); go_simp <;> with_reducible rfl)); try simp only [Act.put, List.setIfInBounds_toArray, List.set_cons_zero, List.set_cons_succ])
    (refine wpAnyH_take (i := 1) (v := ?_) (by simp only [List.getElem?_toArray, List.getElem?_cons_zero, List.getElem?_cons_succ]; rfl) (by kernel_rfl) (by kernel_rfl) (by kernel_rfl) (fun _ _ _ h => h) (Or.inl ⟨by rfl, ?_⟩) (by assumption) ?_; rotate_left; (· (intro w hSw; (try dsimp only at hSw); go_simp <;> with_reducible rfl)); try simp only [Act.put, List.setIfInBounds_toArray, List.set_cons_zero, List.set_cons_succ])
    (refine wpAnyH_take (i := 2) (v := ?_) (by simp only [List.getElem?_toArray, List.getElem?_cons_zero, List.getElem?_cons_succ]; rfl) (by kernel_rfl) (by kernel_rfl) (by kernel_rfl) (fun _ _ _ h => h) (Or.inl ⟨by rfl, ?_⟩) (by assumption) ?_; rotate_left; (· (intro w hSw; (try dsimp only at hSw); go_simp <;> with_reducible rfl)); try simp only [Act.put, List.setIfInBounds_toArray, List.set_cons_zero, List.set_cons_succ])
    (refine wpAnyH_take (i := 3) (v := ?_) (by simp only [List.getElem?_toArray, List.getElem?_cons_zero, List.getElem?_cons_succ]; rfl) (by kernel_rfl) (by kernel_rfl) (by kernel_rfl) (fun _ _ _ h => h) (Or.inl ⟨by rfl, ?_⟩) (by assumption) ?_; rotate_left; (· (intro w hSw; (try dsimp only at hSw); go_simp <;> with_reducible rfl)); try simp only [Act.put, List.setIfInBounds_toArray, List.set_cons_zero, List.set_cons_succ])
    (refine wpAnyH_take (i := 4) (v := ?_) (by simp only [List.getElem?_toArray, List.getElem?_cons_zero, List.getElem?_cons_succ]; rfl) (by kernel_rfl) (by kernel_rfl) (by kernel_rfl) (fun _ _ _ h => h) (Or.inl ⟨by rfl, ?_⟩) (by assumption) ?_; rotate_left; (· (intro w hSw; (try dsimp only at hSw); go_simp <;> with_reducible rfl)); try simp only [Act.put, List.setIfInBounds_toArray, List.set_cons_zero, List.set_cons_succ])
    (refine wpAnyH_take (i := 5) (v := ?_) (by simp only [List.getElem?_toArray, List.getElem?_cons_zero, List.getElem?_cons_succ]; rfl) (by kernel_rfl) (by kernel_rfl) (by kernel_rfl) (fun _ _ _ h => h) (Or.inl ⟨by rfl, ?_⟩) (by assumption) ?_; rotate_left; (· (intro w hSw; (try dsimp only at hSw); go_simp <;> with_reducible rfl)); try simp only [Act.put, List.setIfInBounds_toArray, List.set_cons_zero, List.set_cons_succ])
    refine wpAnyH_done (by kernel_rfl) ?_ _
    simp only [OnlyN]
    have hWd : Below W.heap.size W W.drew := (Below.refl _ _).drew
    have HWd : Hid (Below W.heap.size W W.drew) := hWd
    have H29 : Hid (Calls Tryz.prog 47 #[.pointer (some ⟨pg, 0, none⟩)] W.drew fun e w' => ∃ a k cc, e = .returned (.slice a k cc) ∧ (w'.cell? ⟨b2, 0, none⟩ = some (.slice none 0 0) ∧ w'.frozen? ⟨b2, 0, none⟩ = false ∧ (∀ v, (w'.setCell ⟨b2, 0, none⟩ v).cell? ⟨b3, 0, none⟩ = some (.bool false)) ∧ ∀ v, (w'.setCell ⟨b2, 0, none⟩ v).frozen? ⟨b3, 0, none⟩ = false) ∧ Hid (k = ((z1, z2) :: r).length ∧ OwnN w' W.drew.heap.size (.slice a k cc) ((z1, z2) :: r).reverse ∧ Below W.drew.heap.size W.drew w')) := by
      refine (f29 ((z1, z2) :: r) _ W.drew (HG.out.1.kt (Kt.below HWd.out)) HG.out.2).mono ?_
      rintro e w' ⟨a, k, cc, rfl, h⟩
      have hb := HWd.out.trans h.out.2.2
      have e2 := heap_at _ HI.out.1.2.1 hb
      have e3 : ∀ v, (w'.setCell ⟨b2, 0, none⟩ v).heap[b3]? = some (.cells #[.bool false] 4 (0, 0)) := fun v => by
        rw [heap_setCell_other w' ⟨b2, 0, none⟩ b3 v (by have := HBs.out; show b3 ≠ b2; omega)]
        exact heap_at _ HI.out.1.2.2 hb
      exact ⟨a, k, cc, rfl, ⟨by rw [cell_of_row w' b2 0 _ 23 (0, 0) e2]; rfl, frozen_of_row w' b2 0 _ 23 e2, fun v => by rw [cell_of_row _ b3 0 _ 4 (0, 0) (e3 v)]; rfl, fun v => frozen_of_row _ b3 0 _ 4 (e3 v)⟩, h⟩
    cases he : (z1 == y1 && z2 == y2)
    · have HF : Hid (KeepsFrom W0.heap.size W W.drew ∧ KpR (fun _ => False) b5 W W.drew ∧ PhI n0 w (y1, y2) (pre ++ [(⟨some ⟨pg, 0, none⟩, (z1, z2) :: r⟩ : Pc)]) W.drew) := by
        obtain ⟨⟨c1, c2, c3⟩, hbw, hpre, _⟩ := HI.out
        obtain ⟨q1, q2, q3, _⟩ := HBs.out
        refine ⟨⟨hWd.size, fun k o _ hk _ => heap_at _ hk hWd⟩, ⟨⟨rfl, rfl, rfl, Nat.le_refl _, fun _ _ => rfl⟩, fun k o hk _ => hk⟩, ⟨⟨by rw [← q1]; exact c1, by rw [← q2]; exact c2, by rw [← q3]; exact c3⟩, hbw.drew, fun x hx => ?_⟩⟩
        rcases List.mem_append.1 hx with hx | hx
        · exact hpre x hx
        · simp only [List.mem_singleton] at hx
          rw [hx]
          exact he
      clear hWd HS1 hHeld hq
      gi_wp2
      exact HF.out
    · have hfind : pathF m (x1, x2) (y1, y2) = some ((z1, z2) :: r) := by
        obtain ⟨_, _, hpre, hNx⟩ := HI.out
        obtain ⟨rest, hr⟩ := hNx
        unfold pathF
        rw [← hr, List.map_append, List.find?_append, List.find?_append]
        have h1 : (pre.map Pc.c).find? (fun c => eqN (hd0 c) (y1, y2)) = none := by
          rw [List.find?_eq_none]
          intro c hc
          obtain ⟨x, hx, rfl⟩ := List.mem_map.1 hc
          rw [hpre x hx]
          simp
        rw [h1]
        have h2 : eqN (hd0 ((z1, z2) :: r)) (y1, y2) = true := he
        simp [h2]
      have HFd : Hid (pathF m (x1, x2) (y1, y2) = some ((z1, z2) :: r)) := hfind
      clear hWd HS1 hHeld hq hfind
      gi_wp2_with (refine ⟨trivial, ?_⟩; gi_at_call 47; refine (callsIn_wide.2 H29.out).mono ?_; rintro e w3 ⟨a, k, cc, rfl, ⟨k1, k2, k3, k4⟩, H3⟩)
      have hb := HWd.out.trans H3.out.2.2
      have e2 := heap_at _ HI.out.1.2.1 hb
      have e3 := heap_at _ HI.out.1.2.2 hb
      have hne : b3 ≠ b2 := by have := HBs.out; omega
      have g2 : ((w3.setCell ⟨b2, 0, none⟩ (.slice a k cc)).setCell ⟨b3, 0, none⟩ (.bool true)).heap[b2]? = some (.cells #[.slice a k cc] 23 (0, 0)) := by
        rw [heap_setCell_other _ ⟨b3, 0, none⟩ b2 _ (by show b2 ≠ b3; omega)]
        exact (heap_setCell_same w3 b2 0 _ 23 _ e2).trans rfl
      have g3 : ((w3.setCell ⟨b2, 0, none⟩ (.slice a k cc)).setCell ⟨b3, 0, none⟩ (.bool true)).heap[b3]? = some (.cells #[.bool true] 4 (0, 0)) := by
        have e3' : (w3.setCell ⟨b2, 0, none⟩ (.slice a k cc)).heap[b3]? = some (.cells #[.bool false] 4 (0, 0)) := by
          rw [heap_setCell_other w3 ⟨b2, 0, none⟩ b3 _ hne]
          exact e3
        exact (heap_setCell_same _ b3 0 _ 4 _ e3').trans rfl
      refine ⟨(((KeepsOthers.mk hb.size (fun j o hj _ => heap_at _ hj hb)).trans (KeepsOthers.setCell _ _ _)).trans (KeepsOthers.setCell _ _ _)).from _, rfl, (z1, z2) :: r, a, k, cc, HFd.out, ?_, ?_, H3.out.1, ?_, ?_⟩
      · rw [← HBs.out.2.1]; exact g2
      · rw [← HBs.out.2.2.1]; exact g3
      · have hz : n0 ≤ W.drew.heap.size := by
          have h1 := (Array.getElem?_eq_some_iff.1 HI.out.1.1).1
          have h2 := HBs.out.1
          have h3 := HWd.out.size
          omega
        refine row_low (row_keep H3.out.2.1 fun g hg => ?_) hz
        obtain ⟨cu, hc⟩ := row_typed H3.out.2.1 g hg
        rw [heap_setCell_other _ ⟨b3, 0, none⟩ g _ (fun e => by
          have e' : g = b3 := e
          rw [e', e3] at hc
          cases hc), heap_setCell_other w3 ⟨b2, 0, none⟩ g _ (fun e => by
          have e' : g = b2 := e
          rw [e', e2] at hc
          cases hc)]
      · have h1 := HBs.out
        have h2 : n0 ≤ W.heap.size := by
          have h3 := (Array.getElem?_eq_some_iff.1 HI.out.1.1).1
          omega
        exact ((HI.out.2.1.trans (hb.mono h2)).setCell (p := ⟨b2, 0, none⟩) (by show n0 ≤ b2; omega) _).setCell (p := ⟨b3, 0, none⟩) (by show n0 ≤ b3; omega) _
  case done =>
    rintro D zs W hD hall ⟨⟨c1, c2, c3⟩, hbw, hpre⟩ hK
    have HI : Hid ((W.heap[b2]? = some (.cells #[.slice none 0 0] 23 (0, 0)) ∧ W.heap[b3]? = some (.cells #[.bool false] 4 (0, 0))) ∧ Below n0 w W ∧ W.heap[D]? = some (.deferred (some [])) ∧ W0.heap.size ≤ D ∧ pathF m (x1, x2) (y1, y2) = none) := by
      obtain ⟨_, q2, q3, _⟩ := HBs.out
      refine ⟨⟨by rw [q2]; exact c2, by rw [q3]; exact c3⟩, hbw, hK, hD, ?_⟩
      unfold pathF
      rw [← hall, List.find?_eq_none]
      intro c hc
      obtain ⟨x, hx, rfl⟩ := List.mem_map.1 hc
      rw [hpre x hx]
      simp
    have e3 : ∀ v, (W.setCell ⟨b2, 0, none⟩ v).heap[b3]? = some (.cells #[.bool false] 4 (0, 0)) := fun v => by
      rw [heap_setCell_other W ⟨b2, 0, none⟩ b3 v (by have := HBs.out; show b3 ≠ b2; omega)]
      exact HI.out.1.2
    have k1 : W.cell? ⟨b2, 0, none⟩ = some (.slice none 0 0) := by rw [cell_of_row W b2 0 _ 23 (0, 0) HI.out.1.1]; rfl
    have k2 : W.frozen? ⟨b2, 0, none⟩ = false := frozen_of_row W b2 0 _ 23 HI.out.1.1
    have k3 : ∀ v, (W.setCell ⟨b2, 0, none⟩ v).cell? ⟨b3, 0, none⟩ = some (.bool false) := fun v => by rw [cell_of_row _ b3 0 _ 4 (0, 0) (e3 v)]; rfl
    have k4 : ∀ v, (W.setCell ⟨b2, 0, none⟩ v).frozen? ⟨b3, 0, none⟩ = false := fun v => frozen_of_row _ b3 0 _ 4 (e3 v)
    clear c1 c2 c3 hbw hpre hK hD hall
    have HE3 : Hid (∀ v, (W.setCell ⟨b2, 0, none⟩ v).heap[b3]? = some (.cells #[.bool false] 4 (0, 0))) := e3
    clear e3
    gi_wp2
    have hne : b3 ≠ b2 := by have := HBs.out; omega
    have hD2 : D ≠ b2 ∧ D ≠ b3 := by
      have h1 := HI.out.2.2.2.1
      have h2 := HS0.out
      have h3 := HBs.out
      omega
    have g2 : ((W.setCell ⟨b2, 0, none⟩ (.slice none 0 0)).setCell ⟨b3, 0, none⟩ (.bool false)).heap[b2]? = some (.cells #[.slice none 0 0] 23 (0, 0)) := by
      rw [heap_setCell_other _ ⟨b3, 0, none⟩ b2 _ (by show b2 ≠ b3; omega)]
      exact (heap_setCell_same W b2 0 _ 23 _ HI.out.1.1).trans rfl
    have g3 : ((W.setCell ⟨b2, 0, none⟩ (.slice none 0 0)).setCell ⟨b3, 0, none⟩ (.bool false)).heap[b3]? = some (.cells #[.bool false] 4 (0, 0)) := (heap_setCell_same _ b3 0 _ 4 _ (HE3.out _)).trans rfl
    have hKf : ((W.setCell ⟨b2, 0, none⟩ (.slice none 0 0)).setCell ⟨b3, 0, none⟩ (.bool false)).heap[D]? = some (.deferred (some [])) := by
      rw [heap_setCell_other _ ⟨b3, 0, none⟩ D _ hD2.2, heap_setCell_other _ ⟨b2, 0, none⟩ D _ hD2.1]
      exact HI.out.2.2.1
    have hbf : Below n0 w ((W.setCell ⟨b2, 0, none⟩ (.slice none 0 0)).setCell ⟨b3, 0, none⟩ (.bool false)) := by
      have h3 := HBs.out
      exact (HI.out.2.1.setCell (p := ⟨b2, 0, none⟩) (by show n0 ≤ b2; omega) _).setCell (p := ⟨b3, 0, none⟩) (by show n0 ≤ b3; omega) _
    have HPf : Hid (pathF m (x1, x2) (y1, y2) = none) := HI.out.2.2.2.2
    clear k1 k2 k3 k4
    generalize ((W.setCell ⟨b2, 0, none⟩ (.slice none 0 0)).setCell ⟨b3, 0, none⟩ (.bool false)) = Wf at *
    have r2 : (Wf.putObj D (.deferred none)).cell? ⟨b2, 0, none⟩ = some (.slice none 0 0) := by
      rw [cell_of_row _ b2 0 _ 23 (0, 0) ((World.putObj_heap_other (Ne.symm hD2.1)).trans g2)]; rfl
    have r3 : (Wf.putObj D (.deferred none)).cell? ⟨b3, 0, none⟩ = some (.bool false) := by
      rw [cell_of_row _ b3 0 _ 4 (0, 0) ((World.putObj_heap_other (Ne.symm hD2.2)).trans g3)]; rfl
    refine ⟨by simp, .inl ⟨_, _, rfl, run_takeDeferred hKf, ?_⟩⟩
    refine ⟨.tuple #[.slice none 0 0, .bool false], by simp [results, Tryz.f20, go_sem, r2, r3], none, 0, 0, by rw [HPf.out]; rfl, by rw [HPf.out]; rfl, by rw [HPf.out]; exact World.ownsRow_nil _ _ _ _, ?_⟩
    rw [HN0.out]
    exact hbf.trans (itL_putObj (B := n0) _ (by have := HI.out.2.2.2.1; have := HS0.out; omega) hKf rfl).bel
  case stop =>
    rintro D c pre W hD _ ⟨rfl, ch, a, k, cc, h1, h2, h3, h4, h5, h6⟩ hK
    have HH : Hid (pathF m (x1, x2) (y1, y2) = some ch ∧ W.heap[n0 + 2]? = some (.cells #[.slice a k cc] 23 (0, 0)) ∧ W.heap[n0 + 3]? = some (.cells #[.bool true] 4 (0, 0)) ∧ k = ch.length ∧ OwnN W n0 (.slice a k cc) ch.reverse ∧ Below n0 w W ∧ W.heap[D]? = some (.deferred (some [])) ∧ W0.heap.size ≤ D) := ⟨h1, h2, h3, h4, h5, h6, hK, hD⟩
    clear h1 h2 h3 h4 h5 h6 hK hD
    gi_wp2
    obtain ⟨h1, h2, h3, h4, h5, h6, hK, hD⟩ := HH.out
    have hD2 : D ≠ b2 ∧ D ≠ b3 := by
      have h2 := HS0.out
      have h3 := HBs.out
      omega
    rw [← HBs.out.2.1] at h2
    rw [← HBs.out.2.2.1] at h3
    have r2 : (W.putObj D (.deferred none)).cell? ⟨b2, 0, none⟩ = some (.slice a k cc) := by
      rw [cell_of_row _ b2 0 _ 23 (0, 0) ((World.putObj_heap_other (Ne.symm hD2.1)).trans h2)]; rfl
    have r3 : (W.putObj D (.deferred none)).cell? ⟨b3, 0, none⟩ = some (.bool true) := by
      rw [cell_of_row _ b3 0 _ 4 (0, 0) ((World.putObj_heap_other (Ne.symm hD2.2)).trans h3)]; rfl
    refine ⟨by simp, .inl ⟨_, _, rfl, run_takeDeferred hK, ?_⟩⟩
    refine ⟨.tuple #[.slice a k cc, .bool true], by simp [results, Tryz.f20, go_sem, r2, r3], a, k, cc, by rw [h1]; rfl, by rw [h1]; exact h4, ?_, ?_⟩
    · rw [h1, HN0.out]
      exact ownsRow_putObj h5 _ hK rfl
    · rw [HN0.out]
      exact h6.trans (itL_putObj (B := n0) _ (by have := HS0.out; omega) hK rfl).bel
end Go.Proofs.YtojobiefambkoaaGreatDoor
