/- The statement on what is not reached: it returns true. What the calls behind the hand-in find in memory, for the statements on what is reached. The statement on what is reached and which values are not: it returns true. -/
import Derived.Test.YtojobiefambkoaaGreatDoorFF
import Derived.Test.YtojobiefambkoaaGreatDoorGT
import Derived.Test.YtojobiefambkoaaGreatDoorXO
import Derived.Test.YtojobiefambkoaaGreatDoorTF
import Derived.Test.YtojobiefambkoaaGreatDoorTE
namespace Go.Proofs.YtojobiefambkoaaGreatDoor
open Go.RowKit
attribute [local go_sem ↓] Go.wp_at_zero Go.wp_at_succ
theorem st5 (a : Option Addr) (n c : Nat) (bs : List Bn) (w : World) (hA : BdRow w a n bs) (hn : n ≤ 10000000) (hS : Signs w) :
    Calls Tryz.prog 5 #[.slice a n c] w fun e w' => ∃ hb M rt, e = .returned (.tuple #[.pointer (some ⟨hb, 0, none⟩), .pointer (some ⟨rt, 0, none⟩)]) ∧ Hid (St w hb M n (foldB bs) w' ∧ ∃ G bs', RfH w' G rt bs' ∧ hpOf bs' = foldB bs ∧ bs'.length ≤ n) := by
  refine (i8f a n c bs w hA (by omega) hS).mono ?_
  rintro e w' ⟨hb, M, rt, rfl, G, bs', h, e1, e2, e3⟩
  refine ⟨hb, M, rt, rfl, ?_, G, bs', h.rf, e1, e3⟩
  obtain ⟨n', D, V, h1, h2, h3, h4⟩ := h.hp
  exact ⟨⟨n', D, h3, h1⟩, e2, h.len, foldB_wf fun b hb => ⟨(hA.el b hb).2.1, (hA.el b hb).2.2.1⟩, by rw [← hA.row.len]; exact foldB_len bs, h.bel, h.low.2.1, by omega⟩
/-- What the calls behind the hand-in find in memory. -/
structure Ng (w : World) (hb M n rt g hs rn : Nat) (m : Hp) (rs : List Nm) (ls : List (List C)) (r u v : Value) (W : World) : Prop where
  st : St w hb M n m W
  rf : ∃ G bs', RfH W G rt bs' ∧ hpOf bs' = m ∧ bs'.length ≤ n
  hand : W.rangeAt g 0 (flatN (handN rs))
  glt : g < W.heap.size
  roots : NamesAt W r rs
  terms : HandR W hs u ls
  rows : RowAt W v ls
  bel : Below w.heap.size w W
  cn : n ≤ 2000000
  cr : rn ≤ 10000000
  crl : rs.length = rn
  crw : ∀ x ∈ rs, wfN x
  cl : ls.length ≤ 5864062014805
  ct : (varsAll ls).length ≤ 10000000
  cw : ∀ x ∈ varsAll ls, wfN x
  cb : ∀ l ∈ ls, 48 * l.length ≤ 140737488355328
  cx : ∀ l ∈ ls, ∀ c ∈ l, c.t.size ≤ maxLen
theorem upn_len {m : Hp} {rs xs : List Nm} (h : UpN (Rch m rs) xs) : xs.length ≤ (univ m rs).length :=
  nodup_le (h.up.imp fun {p q} hh e => by rw [e] at hh; exact ltN_irr _ hh) fun x hx => rch_univ ((h.all x).1 hx)
theorem f10s (xs : List Nm) (v u : Value) (W : World) (hv : NamesAt W v xs) (hu : NamesAt W u xs) : Calls Tryz.prog 12 #[v, u] W fun e w' => e = .returned (.bool true) ∧ Below W.heap.size W w' := by
  have h := f10 xs xs v u W hv hu
  rw [show eqNs xs xs = true by simp [eqNs]] at h
  exact h
section
variable {w W : World} {hb M n rt g hs rn : Nat} {m : Hp} {rs : List Nm} {ls : List (List C)} {r u v : Value}
theorem Ng.below {W' : World} (h : Ng w hb M n rt g hs rn m rs ls r u v W) (hw : Below W.heap.size W W') : Ng w hb M n rt g hs rn m rs ls r u v W' := by
  obtain ⟨G, bs', h1, h2, h3⟩ := h.rf
  exact ⟨h.st.below hw, ⟨G, bs', h1.below hw, h2, h3⟩, range_below h.hand h.glt hw, Nat.lt_of_lt_of_le h.glt hw.size, h.roots.below hw, h.terms.below hw, h.rows.below hw, h.bel.trans (hw.mono h.bel.size), h.cn, h.cr, h.crl, h.crw, h.cl, h.ct, h.cw, h.cb, h.cx⟩
theorem Ng.rfv (h : Ng w hb M n rt g hs rn m rs ls r u v W) : RfV W (.pointer (some ⟨rt, 0, none⟩)) m := by
  obtain ⟨G, bs', h1, h2, h3⟩ := h.rf
  have := h.cn
  exact .inr ⟨rt, G, bs', rfl, h1, h2, by omega⟩
theorem Ng.names (h : Ng w hb M n rt g hs rn m rs ls r u v W) : NamesAt W (.slice (some ⟨g, 0, none⟩) rn (rn + 9)) rs := by
  have h1 := h.cr
  have h2 := h.crl
  subst h2
  exact handN_at h.hand h.glt (by omega)
theorem Ng.un (h : Ng w hb M n rt g hs rn m rs ls r u v W) (xs : List Nm) (hx : xs.length ≤ 10000000) : (univ m xs).length ≤ 1000000000 := by
  have h1 := h.st.univ xs
  have h2 := h.cn
  omega
theorem Ng.nub (h : Ng w hb M n rt g hs rn m rs ls r u v W) : (nubN (varsAll ls)).length ≤ 10000000 := by
  have h1 := nubN_len (varsAll ls)
  have h2 := h.ct
  omega
theorem Ng.rsl (h : Ng w hb M n rt g hs rn m rs ls r u v W) : rs.length ≤ 10000000 := by
  have h1 := h.cr
  have h2 := h.crl
  omega
theorem Ng.c8 (h : Ng w hb M n rt g hs rn m rs ls r u v W) : Calls Tryz.prog 8 #[.pointer (some ⟨hb, 0, none⟩), .slice (some ⟨g, 0, none⟩) rn (rn + 9)] W fun e w' => NdR m rs e W w' := by
  refine (st9 h.st rs _ rn _ h.names h.crw (by have := h.rsl; omega)).mono ?_
  rintro e w' ⟨xs, a, j, c, rfl, g1, g2, g3, _, g5, _⟩
  exact ⟨a, j, c, rfl, xs, g1, g2, g3, g5⟩
theorem Ng.c9 (h : Ng w hb M n rt g hs rn m rs ls r u v W) : Calls Tryz.prog 9 #[.pointer (some ⟨hb, 0, none⟩), .slice (some ⟨g, 0, none⟩) rn (rn + 9)] W fun e w' => GaTo m rs e W w' := by
  refine (st16 h.st rs _ rn _ h.names h.crw (by have := h.rsl; omega)).mono ?_
  rintro e w' ⟨xs, a, j, c, rfl, g1, g2, g3, _, g5, _⟩
  exact ⟨a, j, c, rfl, xs, g1, g2, g3, g5⟩
theorem Ng.c10 (h : Ng w hb M n rt g hs rn m rs ls r u v W) : Calls Tryz.prog 10 #[.pointer (some ⟨hb, 0, none⟩), u] W fun e w' => NdR m (nubN (varsAll ls)) e W w' := by
  refine (f10t h.st ls u (hand_row h.terms (by have := h.cl; unfold maxLen; omega) h.cx h.cb) (by have := h.ct; omega) h.cw).mono ?_
  rintro e w' ⟨a, j, c, rfl, xs, g1, g2, g3, g4, _⟩
  exact ⟨a, j, c, rfl, xs, g1, g2, g3, g4⟩
theorem Ng.rform (h : Ng w hb M n rt g hs rn m rs ls r u v W) : ∃ a c, r = .slice a rn c := by
  obtain ⟨a, c, h1⟩ := h.roots.form
  exact ⟨a, c, by rw [h1, h.crl]⟩
theorem Ng.c13 (h : Ng w hb M n rt g hs rn m rs ls r u v W) : Calls Tryz.prog 13 #[.pointer (some ⟨rt, 0, none⟩), r] W fun e w' => NdR m rs e W w' := by
  obtain ⟨a, c, rfl⟩ := h.rform
  exact z13 _ m rs a rn c W h.rfv h.st.up h.st.good h.roots (h.un rs h.rsl) (by have := h.cr; omega)
theorem Ng.c14 (h : Ng w hb M n rt g hs rn m rs ls r u v W) : Calls Tryz.prog 14 #[.pointer (some ⟨rt, 0, none⟩), r] W fun e w' => GaTo m rs e W w' := by
  obtain ⟨a, c, rfl⟩ := h.rform
  obtain ⟨G, bs', h1, h2, h3⟩ := h.rf
  exact z14 G rt bs' m rs a rn c W h1 h2 (by have := h.cn; omega) h.st.up h.st.good h.roots (h.un rs h.rsl) (by have := h.cr; omega)
theorem Ng.c15 (h : Ng w hb M n rt g hs rn m rs ls r u v W) : Calls Tryz.prog 15 #[.pointer (some ⟨rt, 0, none⟩), v] W fun e w' => NdR m (nubN (varsAll ls)) e W w' :=
  z15 _ m ls v W h.rfv h.st.up h.st.good h.rows (by have := h.ct; omega) (h.un _ h.nub)
theorem univ_nil (xs : List Nm) : univ [] xs = xs := by
  unfold univ
  simp
theorem Ng.c8n (h : Ng w hb M n rt g hs rn m rs ls r u v W) : Calls Tryz.prog 8 #[.pointer none, .slice (some ⟨g, 0, none⟩) rn (rn + 9)] W fun e w' => NdR [] rs e W w' := by
  have h1 := h.rsl
  have h2 := h.crl
  subst h2
  refine (f9 [] (.pointer none) rs _ _ W (.inl ⟨rfl, rfl⟩) h.names (fun x l h => by cases h) (fun x l h => by cases h) h.crw (by rw [univ_nil]; omega)).mono ?_
  rintro e w' ⟨xs, a, c, rfl, g1, g2, g3, _⟩
  exact ⟨a, _, c, rfl, xs, g1, rfl, g2, g3⟩
theorem Ng.c13n (h : Ng w hb M n rt g hs rn m rs ls r u v W) : Calls Tryz.prog 13 #[.pointer none, r] W fun e w' => NdR [] rs e W w' := by
  obtain ⟨a, c, rfl⟩ := h.rform
  exact z13 _ [] rs a rn c W (.inl ⟨rfl, rfl⟩) List.Pairwise.nil (fun x l h => by cases h) h.roots (by rw [univ_nil]; have := h.rsl; omega) (by have := h.cr; omega)
theorem Ng.c9n (h : Ng w hb M n rt g hs rn m rs ls r u v W) : Calls Tryz.prog 9 #[.pointer none, .slice (some ⟨g, 0, none⟩) rn (rn + 9)] W fun e w' => e = .returned (.slice none 0 0) ∧ Below W.heap.size W w' :=
  f9n rs _ rn _ W h.names h.crw (by have := h.cr; omega)
theorem Ng.c18 (h : Ng w hb M n rt g hs rn m rs ls r u v W) : Calls Tryz.prog 18 #[.slice (some ⟨g, 0, none⟩) rn (rn + 9), r] W fun e w' => e = .returned (.bool true) ∧ Below W.heap.size W w' := by
  obtain ⟨a, c, rfl⟩ := h.rform
  have h1 := h.rsl
  have h2 := h.crl
  subst h2
  exact z18h rs a c g W h.roots h.hand h.glt (by omega)
theorem Ng.c19 (h : Ng w hb M n rt g hs rn m rs ls r u v W) : Calls Tryz.prog 19 #[u, v] W fun e w' => e = .returned (.bool true) ∧ Below W.heap.size W w' :=
  k21h ls u v hs W h.terms h.rows h.cl h.cb
end
/-- A row of names of one's own, above one world and below another. -/
structure Ow (W : World) (lo hi : Nat) (v : Value) (xs : List Nm) : Prop where
  own : OwnN W lo v xs
  lt : ∀ g, v.ownBlock = some g → lo ≤ g ∧ g < hi
  le : hi ≤ W.heap.size
theorem Ow.make {W : World} {lo : Nat} {v : Value} {xs : List Nm} (h : OwnN W lo v xs) : Ow W lo W.heap.size v xs := ⟨h, fun g hg => h.lt g hg, Nat.le_refl _⟩
theorem Ow.below {W W' : World} {lo hi B : Nat} {v : Value} {xs : List Nm} (h : Ow W lo hi v xs) (hw : Below B W W') (hB : hi ≤ B) : Ow W' lo hi v xs :=
  ⟨Bk.owns_eq h.own fun g hg => hw.block g (Nat.lt_of_lt_of_le (h.lt g hg).2 hB), h.lt, Nat.le_trans h.le hw.size⟩
theorem Ow.names {W : World} {lo hi : Nat} {v : Value} {xs : List Nm} (h : Ow W lo hi v xs) (hl : xs.length ≤ 1000000000) : NamesAt W v xs := namesAt_of_owns h.own (by unfold maxLen; omega)
/-- A call of TakeNames writes over no row of names. -/
def Kp (b : Nat) (W W' : World) : Prop := ∀ k, k < W.heap.size → k ≠ b → (∀ cu fr, W.heap[k]? ≠ some (Obj.cells cu 23 fr)) → W'.heap[k]? = W.heap[k]?
theorem Ow.take {W W' : World} {b lo hi : Nat} {v : Value} {xs : List Nm} (h : Ow W lo hi v xs) (hb : hi ≤ b) (hs : W.heap.size ≤ W'.heap.size) (hk : Kp b W W') : Ow W' lo hi v xs := by
  refine ⟨Bk.owns_eq h.own fun g hg => ?_, h.lt, Nat.le_trans h.le hs⟩
  have h1 := h.lt g hg
  have h3 := h.le
  obtain ⟨cu, fr, h2⟩ := Bk.owns_typed h.own g hg
  refine hk g (by omega) (by omega) fun cu' fr' e => ?_
  rw [h2] at e
  simp at e
/-- A book whose rows lie below a place. -/
structure Bq (W : World) (B b lo : Nat) (vs : List Value) (ns : List Nat) : Prop where
  bk : ∃ nv, Bk.BkN W B b nv vs ns
  lt : ∀ v ∈ vs, ∀ g, v.ownBlock = some g → g < lo
  sz : ∀ n ∈ ns, n ≤ 1000000000
theorem Bq.start (W : World) (b : Nat) (B lo : Nat) (hb : W.heap[b]? = some (.cells (Bk.BkA Bk.nilV) 44 (0, 0))) (hB : B ≤ b) : Bq W B b lo [] [] :=
  ⟨⟨Bk.nilV, hb, hB, World.ownsRow_nil _ _ _ _, fun j v n hv => by simp at hv, fun j j' v v' g _ hv => by simp at hv⟩, fun v hv => by simp at hv, fun n hn => by simp at hn⟩
theorem Bq.below {W W' : World} {B b lo : Nat} {vs : List Value} {ns : List Nat} (h : Bq W B b lo vs ns) (hw : Below W.heap.size W W') : Bq W' B b lo vs ns := by
  obtain ⟨nv, h1⟩ := h.bk
  exact ⟨⟨nv, h1.below hw⟩, h.lt, h.sz⟩
theorem Bq.mono {W : World} {B b lo lo' : Nat} {vs : List Value} {ns : List Nat} (h : Bq W B b lo vs ns) (hl : lo ≤ lo') : Bq W B b lo' vs ns := ⟨h.bk, fun v hv g hg => Nat.lt_of_lt_of_le (h.lt v hv g hg) hl, h.sz⟩
theorem Bq.take {W : World} {B b lo hi : Nat} {vs : List Value} {ns : List Nat} {a : Option Addr} {q c : Nat} {xs : List Nm} (h : Bq W B b lo vs ns) (ho : Ow W lo hi (.slice a q c) xs) (hB : B ≤ lo) (hl : lo ≤ hi) (hx : xs.length = q) (hq : q ≤ 1000000000) (hn : ns.length ≤ 1000) :
    Calls Tryz.prog 16 #[.pointer (some ⟨b, 0, none⟩), .slice a q c] W fun e w' => e = .returned (.tuple #[]) ∧ Hid (Bq w' B b hi (vs ++ [.slice a q c]) (ns ++ [q]) ∧ Below B W w' ∧ Kp b W w') := by
  obtain ⟨nv, h1⟩ := h.bk
  refine (Bk.b17 B b nv vs ns a q c xs W h1 hx ⟨row_low ho.own hB, fun _ _ => rfl⟩ (fun j v g hv hg e => ?_) (by omega)).mono ?_
  · have h2 := h.lt v (List.mem_of_getElem? hv) g e
    have h3 := (ho.lt g hg).1
    omega
  · rintro e w' ⟨rfl, nv', h2, h3, h4⟩
    refine ⟨rfl, ⟨⟨nv', h2⟩, fun v hv g hg => ?_, fun n hn => ?_⟩, h3, h4⟩
    · rcases List.mem_append.1 hv with hv | hv
      · exact Nat.lt_of_lt_of_le (h.lt v hv g hg) hl
      · rw [List.mem_singleton.1 hv] at hg
        exact (ho.lt g hg).2
    · rcases List.mem_append.1 hn with hn | hn
      · exact h.sz n hn
      · rw [List.mem_singleton.1 hn]; exact hq
theorem Bq.alone {W : World} {B b lo : Nat} {vs : List Value} {ns : List Nat} (h : Bq W B b lo vs ns) (hn : ns.length ≤ 1000) :
    Calls Tryz.prog 17 #[.pointer (some ⟨b, 0, none⟩)] W fun e w' => e = .returned (.bool true) ∧ Below B W w' := by
  obtain ⟨nv, h1⟩ := h.bk
  exact Bk.b20 B b nv vs ns W h1 (by omega) fun n hn' => by have := h.sz n hn'; omega
end Go.Proofs.YtojobiefambkoaaGreatDoor

namespace Go.Proofs.YtojobiefambkoaaGreatDoor
open Go.RowKit
attribute [local go_sem ↓] Go.wp_at_zero Go.wp_at_succ
set_option maxRecDepth 100000 in
set_option maxHeartbeats 8000000 in
theorem r3 (b0 : Option Addr) (n0 c0 : Nat) (bs : List Bn) (ra : Option Addr) (rn rc : Nat) (rs : List Nm) (lv : Value) (ls : List (List C)) (w : World) (hA : BdRow w b0 n0 bs) (hn : n0 ≤ 2000000) (hr : NamesAt w (.slice ra rn rc) rs) (hrn : rn ≤ 10000000) (hrw : ∀ x ∈ rs, wfN x) (hR : RowAt w lv ls) (hll : ls.length ≤ 5864062014805) (hT : (varsAll ls).length ≤ 10000000) (hW : ∀ x ∈ varsAll ls, wfN x) (hB : ∀ l ∈ ls, 48 * l.length ≤ 140737488355328) (hx : ∀ l ∈ ls, ∀ c ∈ l, c.t.size ≤ maxLen) (hS : Signs w) :
    Calls Tryz.prog 3 #[.slice b0 n0 c0, .slice ra rn rc, lv] w fun e w' => e = .returned (.bool true) ∧ Below w.heap.size w w' := by
  obtain ⟨la, lc, hv⟩ := hR.form
  obtain ⟨q, hq⟩ : ∃ q, ls.length = q := ⟨_, rfl⟩
  rw [hq] at hv
  subst hv
  have hrl := names_len hr rfl
  have HV : Hid (NamesAt w (.slice ra rn rc) rs ∧ RowAt w (.slice la q lc) ls ∧ Signs w ∧ ls.length = q) := ⟨hr, hR, hS, hq⟩
  have HC : Hid (n0 ≤ 2000000 ∧ rn ≤ 10000000 ∧ rs.length = rn ∧ (∀ x ∈ rs, wfN x) ∧ ls.length ≤ 5864062014805 ∧ (varsAll ls).length ≤ 10000000 ∧ (∀ x ∈ varsAll ls, wfN x) ∧ (∀ l ∈ ls, 48 * l.length ≤ 140737488355328) ∧ (∀ l ∈ ls, ∀ c ∈ l, c.t.size ≤ maxLen)) := ⟨hn, hrn, hrl, hrw, hll, hT, hW, hB, hx⟩
  obtain ⟨m, HM⟩ : ∃ m, Hid (foldB bs = m) := ⟨_, rfl⟩
  have H5 := st5 b0 n0 c0 bs w hA (by omega) hS
  rw [HM.out] at H5
  clear hA hr hR hS hrw hW hB hx hll hT hrl hq hn hrn
  go_enter Tryz.func3, Tryz.ntmps3
  go_wp2_with fail
  refine H5.mono ?_
  rintro e w5 ⟨hb, M, rt, rfl, HS5⟩
  clear H5
  have H6 : Calls Tryz.prog 6 #[.slice ra rn rc] w5 fun e w' => ∃ g, e = .returned (.slice (some ⟨g, 0, none⟩) rn (rn + 9)) ∧ Hid (w'.rangeAt g 0 (flatN (handN rs)) ∧ g < w'.heap.size ∧ Below w5.heap.size w5 w') := by
    obtain ⟨_, h2, h3, _⟩ := HC.out
    have h4 := HV.out.1.below HS5.out.1.bel
    subst h3
    refine (z6h rs ra rc w5 h4 (by omega)).mono ?_
    rintro e w' ⟨g, rfl, h⟩
    exact ⟨g, rfl, h⟩
  go_wp2_with fail
  refine H6.mono ?_
  rintro e w6 ⟨g, rfl, HS6⟩
  clear H6
  have H7 : Calls Tryz.prog 7 #[.slice la q lc] w6 fun e w' => ∃ ua uc, e = .returned (.slice ua q uc) ∧ Hid (HandR w' w6.heap.size (.slice ua q uc) ls ∧ Below w6.heap.size w6 w') := by
    obtain ⟨_, _, _, _, h5, _, _, h8, _⟩ := HC.out
    have h4 := HV.out.2.1.below (HS5.out.1.bel.trans (HS6.out.2.2.mono HS5.out.1.bel.size))
    refine (k14h ls _ w6 h4 h5 h8).mono ?_
    rintro e w' ⟨u, rfl, h1, h2⟩
    obtain ⟨ua, uc, hu⟩ : ∃ ua uc, u = .slice ua ls.length uc := by
      obtain ⟨vs, h3, _⟩ := h1
      exact Bk.rowv_form h3
    rw [HV.out.2.2.2] at hu
    subst hu
    exact ⟨ua, uc, rfl, h1, h2⟩
  go_wp2_with fail
  refine H7.mono ?_
  rintro e w7 ⟨ua, uc, rfl, HS7⟩
  clear H7
  have HY : Hid (∀ W, Below w7.heap.size w7 W → Ng w hb M n0 rt g w6.heap.size rn m rs ls (.slice ra rn rc) (.slice ua q uc) (.slice la q lc) W) := by
    intro W hW
    refine Ng.below ?_ hW
    obtain ⟨h1, h2, h3, h4, h5, h6, h7, h8, h9⟩ := HC.out
    have k6 := HS5.out.1.bel.trans (HS6.out.2.2.mono HS5.out.1.bel.size)
    have k7 := k6.trans (HS7.out.2.mono k6.size)
    have k8 := HS6.out.2.2.trans (HS7.out.2.mono HS6.out.2.2.size)
    obtain ⟨G, bs', g1, g2, g3⟩ := HS5.out.2
    exact ⟨HS5.out.1.below k8, ⟨G, bs', g1.below k8, g2, g3⟩, range_below HS6.out.1 HS6.out.2.1 HS7.out.2, Nat.lt_of_lt_of_le HS6.out.2.1 HS7.out.2.size, HV.out.1.below k7, HS7.out.1, HV.out.2.1.below k7, k7, h1, h2, h3, h4, h5, h6, h7, h8, h9⟩
  have HSg : Hid (Signs w) := HV.out.2.2.1
  clear HV HC HS5 HS6 HS7
  have H8 := (HY.out w7 (Below.refl _ _)).c8
  go_wp2_with fail
  refine H8.mono ?_
  rintro e w8 ⟨xa, xn, xc, rfl, HS8⟩
  clear H8
  have H9 := (HY.out w8 (by obtain ⟨_, _, _, _, h⟩ := HS8.out; exact h)).c9
  have K8 : Hid (Below w7.heap.size w7 w8) := by obtain ⟨_, _, _, _, h⟩ := HS8.out; exact h
  obtain ⟨xs, HX⟩ : ∃ xs, Hid (UpN (Rch m rs) xs ∧ xs.length = xn ∧ Ow w8 w7.heap.size w8.heap.size (.slice xa xn xc) xs ∧ xn ≤ 1000000000) := by
    obtain ⟨xs, h1, h2, h3, h4⟩ := HS8.out
    have h5 := upn_len h1
    have h6 := (HY.out w8 h4).un rs (HY.out w8 h4).rsl
    exact ⟨xs, h1, h2, Ow.make h3, by omega⟩
  clear HS8
  go_wp2_with fail
  refine H9.mono ?_
  rintro e w9 ⟨ya, yn, yc, rfl, HS9⟩
  clear H9
  have K9 : Hid (Below w8.heap.size w8 w9) := by obtain ⟨_, _, _, _, h⟩ := HS9.out; exact h
  have K79 : Hid (Below w7.heap.size w7 w9) := K8.out.trans (K9.out.mono K8.out.size)
  obtain ⟨ys, HYY⟩ : ∃ ys, Hid (garbF m xs = ys ∧ ys.length = yn ∧ Ow w9 w8.heap.size w9.heap.size (.slice ya yn yc) ys ∧ yn ≤ 1000000000) := by
    obtain ⟨xs', h1, h2, h3, h4⟩ := HS9.out
    have h5 := HX.out.1.like h1
    subst h5
    have h6 := garb_le m xs
    have h7 := (HY.out w8 K8.out).st.len
    have h8 := (HY.out w8 K8.out).cn
    exact ⟨_, rfl, h2, Ow.make h3, by omega⟩
  clear HS9
  have H10 := (HY.out w9 K79.out).c10
  go_wp2_with fail
  refine H10.mono ?_
  rintro e w10 ⟨za, zn, zc, rfl, HS10⟩
  clear H10
  have K10 : Hid (Below w9.heap.size w9 w10) := by obtain ⟨_, _, _, _, h⟩ := HS10.out; exact h
  have K710 : Hid (Below w7.heap.size w7 w10) := K79.out.trans (K10.out.mono K79.out.size)
  obtain ⟨zs, HZ⟩ : ∃ zs, Hid (UpN (Rch m (nubN (varsAll ls))) zs ∧ zs.length = zn ∧ Ow w10 w9.heap.size w10.heap.size (.slice za zn zc) zs ∧ zn ≤ 1000000000) := by
    obtain ⟨xs, h1, h2, h3, h4⟩ := HS10.out
    have h5 := upn_len h1
    have h6 := (HY.out w9 K79.out).un _ (HY.out w9 K79.out).nub
    exact ⟨xs, h1, h2, Ow.make h3, by omega⟩
  clear HS10
  have HQ : Hid (∀ W, Below w10.heap.size w10 W → Ng w hb M n0 rt g w6.heap.size rn m rs ls (.slice ra rn rc) (.slice ua q uc) (.slice la q lc) W ∧ Ow W w7.heap.size w8.heap.size (.slice xa xn xc) xs ∧ Ow W w8.heap.size w9.heap.size (.slice ya yn yc) ys ∧ Ow W w9.heap.size w10.heap.size (.slice za zn zc) zs) := by
    intro W hW
    have h1 := K9.out.size
    have h2 := K10.out.size
    exact ⟨HY.out W (K710.out.trans (hW.mono K710.out.size)), ((HX.out.2.2.1.below K9.out (Nat.le_refl _)).below K10.out h1).below hW (by omega), (HYY.out.2.2.1.below K10.out (Nat.le_refl _)).below hW h2, HZ.out.2.2.1.below hW (Nat.le_refl _)⟩
  have HSZ : Hid (w7.heap.size ≤ w8.heap.size ∧ w8.heap.size ≤ w9.heap.size ∧ w9.heap.size ≤ w10.heap.size) := ⟨K8.out.size, K9.out.size, K10.out.size⟩
  clear K8 K9 K79 K10
  have H11 := f7 w10 (HSg.out.below (HQ.out w10 (Below.refl _ _)).1.bel)
  clear HSg
  go_wp2_with fail
  refine H11.mono ?_
  rintro e w11 ⟨rfl, h11⟩
  have K11 : Hid (Below w10.heap.size w10 w11) := h11
  clear H11 h11
  have H13 := (HQ.out w11 K11.out).1.c13
  go_wp2_with fail
  refine H13.mono ?_
  rintro e w11m ⟨a13, n13, c13, rfl, HS13⟩
  clear H13
  have K11m : Hid (Below w10.heap.size w10 w11m) := by
    obtain ⟨_, _, _, _, h⟩ := HS13.out
    exact K11.out.trans (h.mono K11.out.size)
  have H12 : Calls Tryz.prog 12 #[.slice xa xn xc, .slice a13 n13 c13] w11m fun e w' => e = .returned (.bool true) ∧ Below w11m.heap.size w11m w' := by
    obtain ⟨us, h1, h2, h3, h4⟩ := HS13.out
    have h5 := HX.out.1.like h1
    subst h5
    have h6 := HX.out.2.1
    have h7 := HX.out.2.2.2
    exact f10s _ _ _ _ ((HQ.out _ K11m.out).2.1.names (by omega)) (namesAt_of_owns h3 (by unfold maxLen; omega))
  go_wp2_with fail
  refine H12.mono ?_
  rintro e w12 ⟨rfl, h12⟩
  have K12 : Hid (Below w10.heap.size w10 w12) := K11m.out.trans (h12.mono K11m.out.size)
  clear H12 h12 HS13 K11 K11m
  have H14 := (HQ.out w12 K12.out).1.c14
  go_wp2_with fail
  refine H14.mono ?_
  rintro e w12m ⟨a14, n14, c14, rfl, HS14⟩
  clear H14
  have K12m : Hid (Below w10.heap.size w10 w12m) := by
    obtain ⟨_, _, _, _, h⟩ := HS14.out
    exact K12.out.trans (h.mono K12.out.size)
  have H12 : Calls Tryz.prog 12 #[.slice ya yn yc, .slice a14 n14 c14] w12m fun e w' => e = .returned (.bool true) ∧ Below w12m.heap.size w12m w' := by
    obtain ⟨us, h1, h2, h3, h4⟩ := HS14.out
    have h5 := HX.out.1.like h1
    subst h5
    have h8 := HYY.out.1
    rw [h8] at h3
    have h6 := HYY.out.2.1
    have h7 := HYY.out.2.2.2
    exact f10s _ _ _ _ ((HQ.out _ K12m.out).2.2.1.names (by omega)) (namesAt_of_owns h3 (by unfold maxLen; omega))
  go_wp2_with fail
  refine H12.mono ?_
  rintro e w14 ⟨rfl, h14⟩
  have K14 : Hid (Below w10.heap.size w10 w14) := K12m.out.trans (h14.mono K12m.out.size)
  clear H12 h14 HS14 K12 K12m
  have H15 := (HQ.out w14 K14.out).1.c15
  go_wp2_with fail
  refine H15.mono ?_
  rintro e w14m ⟨a15, n15, c15, rfl, HS15⟩
  clear H15
  have K14m : Hid (Below w10.heap.size w10 w14m) := by
    obtain ⟨_, _, _, _, h⟩ := HS15.out
    exact K14.out.trans (h.mono K14.out.size)
  have H12 : Calls Tryz.prog 12 #[.slice za zn zc, .slice a15 n15 c15] w14m fun e w' => e = .returned (.bool true) ∧ Below w14m.heap.size w14m w' := by
    obtain ⟨us, h1, h2, h3, h4⟩ := HS15.out
    have h5 := HZ.out.1.like h1
    subst h5
    have h6 := HZ.out.2.1
    have h7 := HZ.out.2.2.2
    exact f10s _ _ _ _ ((HQ.out _ K14m.out).2.2.2.names (by omega)) (namesAt_of_owns h3 (by unfold maxLen; omega))
  go_wp2_with fail
  refine H12.mono ?_
  rintro e w15 ⟨rfl, h15⟩
  have K15 : Hid (Below w10.heap.size w10 w15) := K14m.out.trans (h15.mono K14m.out.size)
  clear H12 h15 HS15 K14 K14m
  have H8 := (HQ.out w15 K15.out).1.c8n
  go_wp2_with fail
  refine H8.mono ?_
  rintro e w16 ⟨a8, n8, c8, rfl, HS8⟩
  clear H8
  have K16 : Hid (Below w10.heap.size w10 w16) := by
    obtain ⟨_, _, _, _, h⟩ := HS8.out
    exact K15.out.trans (h.mono K15.out.size)
  have H13 := (HQ.out w16 K16.out).1.c13n
  go_wp2_with fail
  refine H13.mono ?_
  rintro e w17 ⟨a9, n9, c9, rfl, HS9⟩
  clear H13
  have K17 : Hid (Below w10.heap.size w10 w17) := by
    obtain ⟨_, _, _, _, h⟩ := HS9.out
    exact K16.out.trans (h.mono K16.out.size)
  have H12 : Calls Tryz.prog 12 #[.slice a8 n8 c8, .slice a9 n9 c9] w17 fun e w' => e = .returned (.bool true) ∧ Below w17.heap.size w17 w' := by
    obtain ⟨us, h1, h2, h3, h4⟩ := HS8.out
    obtain ⟨us', g1, g2, g3, g4⟩ := HS9.out
    have h5 := h1.like g1
    subst h5
    have h6 := upn_len h1
    rw [univ_nil] at h6
    have h7 := (HQ.out w16 K16.out).1.rsl
    exact f10s _ _ _ _ ((namesAt_of_owns h3 (by unfold maxLen; omega)).below g4) (namesAt_of_owns g3 (by unfold maxLen; omega))
  go_wp2_with fail
  refine H12.mono ?_
  rintro e w18 ⟨rfl, h18⟩
  have K18 : Hid (Below w10.heap.size w10 w18) := K17.out.trans (h18.mono K17.out.size)
  clear H12 h18 HS8 HS9 K15 K16 K17
  have H9 := (HQ.out w18 K18.out).1.c9n
  go_wp2_with fail
  refine H9.mono ?_
  rintro e w19 ⟨rfl, h19⟩
  have K19 : Hid (Below w10.heap.size w10 w19) := K18.out.trans (h19.mono K18.out.size)
  clear H9 h19 K18
  obtain ⟨B, hB⟩ : ∃ B, w7.heap.size = B := ⟨_, rfl⟩
  rw [hB] at HY HX HQ HSZ K710
  have HK : Hid (w10.heap.size ≤ w19.heap.size) := K19.out.size
  have HB0 : Hid (Bq (w19.alloc (.cells #[.slice none 0 0, .slice none 0 0, .slice none 0 0, .slice none 0 0, .slice none 0 0] 44)) B w19.heap.size B [] [] ∧ Below w10.heap.size w10 (w19.alloc (.cells #[.slice none 0 0, .slice none 0 0, .slice none 0 0, .slice none 0 0, .slice none 0 0] 44))) := by
    refine ⟨Bq.start _ _ _ _ (heap_alloc_new _ _) ?_, K19.out.trans ((below_alloc w19 _).mono K19.out.size)⟩
    have h1 := HSZ.out
    have h2 := HK.out
    omega
  go_wp2_with fail
  obtain ⟨W0, hW0⟩ : ∃ W0, w19.alloc (.cells #[.slice none 0 0, .slice none 0 0, .slice none 0 0, .slice none 0 0, .slice none 0 0] 44) = W0 := ⟨_, rfl⟩
  obtain ⟨b, hb'⟩ : ∃ b, w19.heap.size = b := ⟨_, rfl⟩
  rw [hW0, hb'] at HB0
  rw [hb'] at HK
  try rw [hW0]
  try rw [hb']
  clear hW0 hb' K19
  have HOx : Hid (Ow W0 B w8.heap.size (.slice xa xn xc) xs ∧ Ow W0 w8.heap.size w9.heap.size (.slice ya yn yc) ys ∧ Ow W0 w9.heap.size w10.heap.size (.slice za zn zc) zs ∧ Below B w7 W0) := by
    have h := HQ.out W0 HB0.out.2
    exact ⟨h.2.1, h.2.2.1, h.2.2.2, K710.out.trans (HB0.out.2.mono (by have := HSZ.out; omega))⟩
  have HT1 := HB0.out.1.take HOx.out.1 (Nat.le_refl _) HSZ.out.1 HX.out.2.1 HX.out.2.2.2 (by decide)
  refine HT1.mono ?_
  rintro e W1 ⟨rfl, HW1⟩
  clear HT1 HB0
  have HOy : Hid (Ow W1 w8.heap.size w9.heap.size (.slice ya yn yc) ys ∧ Ow W1 w9.heap.size w10.heap.size (.slice za zn zc) zs ∧ Below B w7 W1) := by
    have h1 := HSZ.out
    have h2 := HK.out
    exact ⟨HOx.out.2.1.take (by omega) HW1.out.2.1.size HW1.out.2.2, HOx.out.2.2.1.take (by omega) HW1.out.2.1.size HW1.out.2.2, HOx.out.2.2.2.trans HW1.out.2.1⟩
  have HT2 := HW1.out.1.take HOy.out.1 HSZ.out.1 HSZ.out.2.1 HYY.out.2.1 HYY.out.2.2.2 (by simp)
  clear HW1 HOx
  go_wp2_with fail
  refine HT2.mono ?_
  rintro e W2 ⟨rfl, HW2⟩
  clear HT2
  have HOz : Hid (Ow W2 w9.heap.size w10.heap.size (.slice za zn zc) zs ∧ Below B w7 W2) := by
    have h1 := HSZ.out
    have h2 := HK.out
    exact ⟨HOy.out.2.1.take (by omega) HW2.out.2.1.size HW2.out.2.2, HOy.out.2.2.trans HW2.out.2.1⟩
  have HT3 := HW2.out.1.take HOz.out.1 (by have := HSZ.out; omega) HSZ.out.2.2 HZ.out.2.1 HZ.out.2.2.2 (by simp)
  clear HW2 HOy
  go_wp2_with fail
  refine HT3.mono ?_
  rintro e W3 ⟨rfl, HW3⟩
  clear HT3
  have HO3 : Hid (Below B w7 W3) := HOz.out.2.trans HW3.out.2.1
  have HK3 : Hid (w10.heap.size ≤ W3.heap.size) := Nat.le_trans HOz.out.1.le HW3.out.2.1.size
  have H8 := (HY.out W3 HO3.out).c8
  clear HOz
  go_wp2_with fail
  refine H8.mono ?_
  rintro e W4 ⟨a8, n8, c8, rfl, HS8⟩
  clear H8
  obtain ⟨us, HU⟩ : ∃ us, Hid (Ow W4 W3.heap.size W4.heap.size (.slice a8 n8 c8) us ∧ us.length = n8 ∧ n8 ≤ 1000000000 ∧ Below W3.heap.size W3 W4) := by
    obtain ⟨us, h1, h2, h3, h4⟩ := HS8.out
    have h5 := upn_len h1
    have h6 := (HY.out W3 HO3.out).un rs (HY.out W3 HO3.out).rsl
    exact ⟨us, Ow.make h3, h2, by omega, h4⟩
  clear HS8
  have HB4 : Hid (Bq W4 B b W3.heap.size ([] ++ [.slice xa xn xc] ++ [.slice ya yn yc] ++ [.slice za zn zc]) ([] ++ [xn] ++ [yn] ++ [zn]) ∧ Below B w7 W4 ∧ B ≤ W3.heap.size) := by
    have h1 := HSZ.out
    have h2 := HW3.out.2.1.size
    have h3 := HO3.out.size
    refine ⟨(HW3.out.1.below HU.out.2.2.2).mono ?_, HO3.out.trans (HU.out.2.2.2.mono (by omega)), by omega⟩
    exact HK3.out
  have HT4 := HB4.out.1.take HU.out.1 HB4.out.2.2 HU.out.2.2.2.size HU.out.2.1 HU.out.2.2.1 (by simp)
  clear HW3
  go_wp2_with fail
  refine HT4.mono ?_
  rintro e W5 ⟨rfl, HW5⟩
  clear HT4
  have HO5 : Hid (Below B w7 W5) := HB4.out.2.1.trans HW5.out.2.1
  have HA := HW5.out.1.alone (by simp)
  clear HW5 HB4 HU
  go_wp2_with fail
  refine HA.mono ?_
  rintro e W6 ⟨rfl, h6⟩
  clear HA
  have HO6 : Hid (Below B w7 W6) := HO5.out.trans h6
  have H18 := (HY.out W6 HO6.out).c18
  clear h6 HO5
  go_wp2_with fail
  refine H18.mono ?_
  rintro e W7 ⟨rfl, h7⟩
  clear H18
  have HO7 : Hid (Below B w7 W7) := HO6.out.trans (h7.mono (hB ▸ HO6.out.size))
  have H19 := (HY.out W7 HO7.out).c19
  clear h7 HO6
  go_wp2_with fail
  refine H19.mono ?_
  rintro e W8 ⟨rfl, h8⟩
  clear H19
  have HO8 : Hid (Below B w7 W8) := HO7.out.trans (h8.mono (hB ▸ HO7.out.size))
  clear h8
  go_wp2_with fail
  go_ret
  exact ⟨rfl, (HY.out W8 HO8.out).bel⟩
end Go.Proofs.YtojobiefambkoaaGreatDoor
