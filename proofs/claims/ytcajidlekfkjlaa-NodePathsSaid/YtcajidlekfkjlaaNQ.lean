/-
STAGE 8: All, of a leaf or of no page; its answer.
-/
import Derived.Test.YtcajidlekfkjlaaNP
namespace Go.Proofs.Ytcajidlekfkjlaa
open Go.RowKit

/-- what walk comes to, where it is an error -/
def wErr (G : Option TV) (n : Nat) : Option Int := if n = 0 then some 1 else match askM G n with
  | .error c => some c
  | .ok _ => none
set_option maxRecDepth 100000 in
theorem walkE46 (G : Option TV) (n : Nat) (hn : n < 4294967296) (c : Int) (a : Nat) (w : World) (S : Nat → Prop) (h : GIn w S G) (hp : wErr G n = some c) :
    Calls Try.prog 39 #[gV G, .int .u32 (n : Int), .func (.func 40) #[] #[.pointer (some ⟨a, 0, none⟩)]] w fun e w' => e = Flt c ∧ Below w.heap.size w w' := by
  unfold wErr at hp
  split at hp
  · rename_i h0
    injection hp with hp
    subst h0 hp
    exact walkZero G _ w
  · rename_i h0
    split at hp
    · rename_i c' hc
      injection hp with hp
      subst hp
      exact walkErr46 G n h0 hn c' a w S h hc
    · cases hp
set_option maxRecDepth 100000 in
theorem walkE96 (G : Option TV) (n : Nat) (hn : n < 4294967296) (c : Int) (a : Nat) (w : World) (S : Nat → Prop) (h : GIn w S G) (hp : wErr G n = some c) :
    Calls Try.prog 39 #[gV G, .int .u32 (n : Int), .func (.func 56) #[] #[.pointer (some ⟨a, 0, none⟩)]] w fun e w' => e = Flt c ∧ Below w.heap.size w w' := by
  unfold wErr at hp
  split at hp
  · rename_i h0
    injection hp with hp
    subst h0 hp
    exact walkZero G _ w
  · rename_i h0
    split at hp
    · rename_i c' hc
      injection hp with hp
      subst hp
      exact walkErr96 G n h0 hn c' a w S h hc
    · cases hp
set_option maxHeartbeats 2000000 in
set_option maxRecDepth 100000 in
theorem clos44_err (G : Option TV) (n : Nat) (hn : n < 4294967296) (c : Int) (w : World) (S : Nat → Prop) (h : GIn w S G) (hp : wErr G n = some c) (bg bn : Nat) (hbg : Blk w bg 59 #[gV G]) (hbn : Blk w bn 23 #[.int .u32 (n : Int)]) :
    Calls Try.prog 38 #[.pointer (some ⟨bg, 0, none⟩), .pointer (some ⟨bn, 0, none⟩)] w fun e w' => e = Flt c ∧ Below w.heap.size w w' := by
  obtain ⟨W, hW⟩ : ∃ W, W = w.alloc (.cells #[.slice none 0 0] 42) := ⟨_, rfl⟩
  have hb : Below w.heap.size w W := by rw [hW]; exact (Below.refl _ _).alloc (Nat.le_refl _) _
  have x0 := (hbg.below hb hbg.lt).cell 0
  have x1 := (hbn.below hb hbn.lt).cell 0
  have hd := walkE46 G n hn c w.heap.size W S (h.below hb) hp
  obtain ⟨g, hg⟩ : ∃ g, g = gV G := ⟨_, rfl⟩
  rw [← hg] at hd x0
  rw [hW] at x0 x1
  unfold Flt at hd ⊢
  have HD := Lib.hid hd
  have HB := Lib.hid hb
  have HW := Lib.hid hW
  have hmf := hmf_
  clear hW hd hb h hp hbg hbn hg hn
  go_enter Try.func38, Try.ntmps38
  go_wp2_with fail
  rw [← HW.out]
  refine HD.out.mono ?_
  rintro e w1 ⟨rfl, hb1⟩
  have HB1 := Lib.hid (HB.out.trans (hb1.mono HB.out.size))
  clear hb1
  go_wp2_with fail
  exact ⟨rfl, rfl, HB1.out⟩
/-- cells of one's own, and an error's number -/
def CellsP (w : World) (es : List CE) (n : Nat) (c : Int) (e : Ending) (w' : World) : Prop :=
  ∃ v S T l, e = .returned (.tuple #[v, .int .i64 c]) ∧ OwC w' S T v n l ∧ l.map CV.e = es ∧ (∀ b, S b → w.heap.size ≤ b) ∧ (∀ b, T b → w.heap.size ≤ b) ∧ Below w.heap.size w w'
set_option maxHeartbeats 2000000 in
set_option maxRecDepth 100000 in
theorem clos44_leaf (G : Option TV) (n : Nat) (h0 : n ≠ 0) (hn : n < 4294967296) (p : PV) (w : World) (S : Nat → Prop) (h : GIn w S G) (hp : askM G n = .ok p) (hk : p.k = 2) (bg bn : Nat) (hbg : Blk w bg 59 #[gV G]) (hbn : Blk w bn 23 #[.int .u32 (n : Int)]) :
    Calls Try.prog 38 #[.pointer (some ⟨bg, 0, none⟩), .pointer (some ⟨bn, 0, none⟩)] w fun e w' => ∃ v S T l, e = .returned v ∧ OwC w' S T v p.n l ∧ l.map CV.e = p.es ∧ (∀ b, S b → w.heap.size ≤ b) ∧ (∀ b, T b → w.heap.size ≤ b) ∧ Below w.heap.size w w' := by
  obtain ⟨W, hW⟩ : ∃ W, W = w.alloc (.cells #[.slice none 0 0] 42) := ⟨_, rfl⟩
  have hb : Below w.heap.size w W := by rw [hW]; exact (Below.refl _ _).alloc (Nat.le_refl _) _
  have ha : Blk W w.heap.size 42 #[.slice none 0 0] := by rw [hW]; exact Blk.new w 42 _
  have hsz : W.heap.size = w.heap.size + 1 := by rw [hW]; simp
  have x0 := (hbg.below hb hbg.lt).cell 0
  have x1 := (hbn.below hb hbn.lt).cell 0
  obtain ⟨hpi, hpf⟩ := ask_in h hp
  have hok : okP p = true := (ask_ok_inv hp).elim fun _ ⟨_, _, _, h⟩ => h
  have hpn : p.n ≤ 1000 := by have := (okP_rise hok).2.1; have := hpi.len; omega
  have HPN := Lib.hid hpn
  have hd := walkLeaf46 G n h0 hn p w.heap.size W S (h.below hb) hp hk (fun w' => CellsAt W w' w.heap.size p.es p.n ∧ Fr W w' (fun b => b = w.heap.size))
    (fun W' hW' => by
      refine (all11_leaf n p hk 1 w.heap.size W' (ha.below hW' ha.lt) (hpi.all.below (hb.trans (hW'.mono hb.size))) hpn (fun x hx => hpf.m x hx)).mono ?_
      rintro e w2 ⟨he, ⟨v, S2, T2, l2, h1, h2, h3, h4, h5⟩, hf⟩
      refine ⟨he, ⟨⟨v, S2, T2, l2, h1, h2, h3, fun b hb => Nat.le_trans hW'.size (h4 b hb), fun b hb => Nat.le_trans hW'.size (h5 b hb)⟩, (Fr.of_below hW' _).same hf⟩, hf.mono fun b _ hb => by omega⟩)
  obtain ⟨g, hg⟩ : ∃ g, g = gV G := ⟨_, rfl⟩
  rw [← hg] at hd x0
  rw [hW] at x0 x1
  have HD := Lib.hid hd
  have HB := Lib.hid hb
  have HW := Lib.hid hW
  have HSZ := Lib.hid hsz
  have hmf := hmf_
  obtain ⟨es, hes⟩ : ∃ es, es = p.es := ⟨_, rfl⟩
  obtain ⟨pn, hpn2⟩ : ∃ pn, pn = p.n := ⟨_, rfl⟩
  rw [← hes, ← hpn2] at HD ⊢
  rw [← hpn2] at HPN
  clear hW hd hb h hp hbg hbn hg hn h0 ha hpi hpf hok hpn hk hsz hes hpn2
  go_enter Try.func38, Try.ntmps38
  go_wp2_with fail
  rw [← HW.out]
  refine HD.out.mono ?_
  rintro e w1 ⟨rfl, ⟨v, S2, T2, l2, h1, h2, h3, h4, h5⟩, hf⟩
  obtain ⟨A, c, rfl, _⟩ := h2.reads (by have := HPN.out; omega)
  have y0 := h1.cell 0
  have H2 := Lib.hid h2
  have H3 := Lib.hid h3
  have H4 := Lib.hid h4
  have H5 := Lib.hid h5
  have HF := Lib.hid hf
  clear h1 h2 h3 h4 h5 hf
  go_wp2_with fail
  go_ret
  have hz := HSZ.out
  refine ⟨_, S2, T2, l2, rfl, H2.out, H3.out, fun b hb => ?_, fun b hb => ?_, ?_⟩
  · have := H4.out b hb; omega
  · have := H5.out b hb; omega
  · exact HB.out.trans (HF.out.below (fun b hb => by omega) HB.out.size)
set_option maxHeartbeats 2000000 in
set_option maxRecDepth 100000 in
theorem top17_err (G : Option TV) (n : Nat) (hn : n < 4294967296) (c : Int) (w : World) (S : Nat → Prop) (h : GIn w S G) (hp : wErr G n = some c) :
    Calls Try.prog 16 #[gV G, .int .u32 (n : Int)] w fun e w' => e = .returned (.tuple #[.slice none 0 0, .int .i64 c]) ∧ Below w.heap.size w w' := by
  obtain ⟨g, hg⟩ : ∃ g, g = gV G := ⟨_, rfl⟩
  have hgc := gV_cases G
  rw [← hg] at hgc ⊢
  obtain ⟨W, hW⟩ : ∃ W, W = (w.alloc (.cells #[g] 59)).alloc (.cells #[.int .u32 (n : Int)] 23) := ⟨_, rfl⟩
  have hb : Below w.heap.size w W := by rw [hW]; exact ((Below.refl _ _).alloc (Nat.le_refl _) _).alloc (by simp) _
  have bg : Blk W w.heap.size 59 #[g] := by rw [hW]; exact (Blk.new w 59 _).alloc _
  have bn : Blk W (w.heap.size + 1) 23 #[.int .u32 (n : Int)] := by rw [hW]; have := Blk.new (w.alloc (.cells #[g] 59)) 23 #[.int .u32 (n : Int)]; rwa [World.size_alloc] at this
  have ha := ansW_below W (.slice none 0 0) 42
  have HA := Lib.hid (answer43_44_no _ _ c W (clos44_err G n hn c (ansW W (.slice none 0 0) 42) S ((h.below hb).below ha) hp w.heap.size (w.heap.size + 1) (by rw [← hg]; exact bg.below ha bg.lt) (bn.below ha bn.lt)))
  have HB := Lib.hid hb
  have hmf := hmf_
  clear hg hb bg bn ha hp hn h
  rcases hgc with rfl | ⟨tv, rfl⟩
  all_goals
    have HW := Lib.hid hW
    clear hW
    go_enter Try.func16, Try.ntmps16
    go_wp2_with fail
    rw [← HW.out]
    refine HA.out.mono ?_
    rintro e w1 ⟨rfl, hb1⟩
    have HB1 := Lib.hid (HB.out.trans (hb1.mono HB.out.size))
    clear hb1
    go_wp2_with fail
    go_ret2
    exact ⟨rfl, HB1.out⟩
set_option maxHeartbeats 2000000 in
set_option maxRecDepth 100000 in
theorem all_leaf (G : Option TV) (n : Nat) (h0 : n ≠ 0) (hn : n < 4294967296) (p : PV) (w : World) (S : Nat → Prop) (h : GIn w S G) (hp : askM G n = .ok p) (hk : p.k = 2) :
    Calls Try.prog 16 #[gV G, .int .u32 (n : Int)] w (CellsP w p.es p.n 0) := by
  obtain ⟨g, hg⟩ : ∃ g, g = gV G := ⟨_, rfl⟩
  have hgc := gV_cases G
  rw [← hg] at hgc ⊢
  obtain ⟨W, hW⟩ : ∃ W, W = (w.alloc (.cells #[g] 59)).alloc (.cells #[.int .u32 (n : Int)] 23) := ⟨_, rfl⟩
  have hb : Below w.heap.size w W := by rw [hW]; exact ((Below.refl _ _).alloc (Nat.le_refl _) _).alloc (by simp) _
  have bg : Blk W w.heap.size 59 #[g] := by rw [hW]; exact (Blk.new w 59 _).alloc _
  have bn : Blk W (w.heap.size + 1) 23 #[.int .u32 (n : Int)] := by rw [hW]; have := Blk.new (w.alloc (.cells #[g] 59)) 23 #[.int .u32 (n : Int)]; rwa [World.size_alloc] at this
  have ha := ansW_below W (.slice none 0 0) 42
  have hpn : p.n ≤ 1000 := by have := (okP_rise ((ask_ok_inv hp).elim fun _ ⟨_, _, _, h⟩ => h : okP p = true)).2.1; have := (ask_in h hp).1.len; omega
  have HPN := Lib.hid hpn
  have HA := Lib.hid (answer43_44_yes _ _ (fun v W' => ∃ S T l, OwC W' S T v p.n l ∧ l.map CV.e = p.es ∧ (∀ b, S b → (ansW W (.slice none 0 0) 42).heap.size ≤ b) ∧ (∀ b, T b → (ansW W (.slice none 0 0) 42).heap.size ≤ b)) W
    ((clos44_leaf G n h0 hn p (ansW W (.slice none 0 0) 42) S ((h.below hb).below ha) hp hk w.heap.size (w.heap.size + 1) (by rw [← hg]; exact bg.below ha bg.lt) (bn.below ha bn.lt)).mono fun e w' hq => by
      obtain ⟨v, S, T, l, he, ho, h3, h4, h5, h6⟩ := hq
      obtain ⟨A, c, rfl, _⟩ := ho.reads (by omega)
      exact ⟨A, p.n, c, he, ⟨S, T, l, ho, h3, h4, h5⟩, h6⟩))
  have HB := Lib.hid hb
  have hmf := hmf_
  obtain ⟨es, hes⟩ : ∃ es, es = p.es := ⟨_, rfl⟩
  obtain ⟨pn, hpn2⟩ : ∃ pn, pn = p.n := ⟨_, rfl⟩
  rw [← hes, ← hpn2] at HA ⊢
  rw [← hpn2] at HPN
  clear hg hb bg bn ha hp hn h hpn hk h0 hes hpn2
  rcases hgc with rfl | ⟨tv, rfl⟩
  all_goals
    have HW := Lib.hid hW
    clear hW
    go_enter Try.func16, Try.ntmps16
    go_wp2_with fail
    rw [← HW.out]
    refine HA.out.mono ?_
    intro e w1 hq
    obtain ⟨v, rfl, hb1, W2, ⟨S2, T2, l2, ho, h3, h4, h5⟩, hsz, hf⟩ := hq
    have hsA := ansW_size W (.slice none 0 0) 42
    have ho2 := ho.keep hf (fun b hb1 hb2 => by have := h4 b hb1; rcases hb2 with h | h <;> omega) (fun b hb1 hb2 => by have := h5 b hb1; rcases hb2 with h | h <;> omega)
    obtain ⟨A, c, rfl, _⟩ := ho2.reads (by have := HPN.out; omega)
    have HO := Lib.hid ho2
    have H3 := Lib.hid h3
    have H4 := Lib.hid (fun b (hb : S2 b) => show w.heap.size ≤ b by have := h4 b hb; have := HB.out.size; omega)
    have H5 := Lib.hid (fun b (hb : T2 b) => show w.heap.size ≤ b by have := h5 b hb; have := HB.out.size; omega)
    have HB1 := Lib.hid (HB.out.trans (hb1.mono HB.out.size))
    clear hb1 ho ho2 hf hsz h3 h4 h5 hsA
    go_wp2_with fail
    go_ret2
    exact ⟨_, S2, T2, l2, rfl, HO.out, H3.out, H4.out, H5.out, HB1.out⟩
end Go.Proofs.Ytcajidlekfkjlaa
