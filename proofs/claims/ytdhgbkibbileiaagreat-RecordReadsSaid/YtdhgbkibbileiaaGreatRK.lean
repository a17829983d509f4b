/-
RK
-/
import Derived.Test.YtdhgbkibbileiaaGreatRE
import Derived.Test.YtdhgbkibbileiaaGreatRF
set_option maxRecDepth 100000
namespace Go.Proofs.YtdhgbkibbileiaaGreat
open Go.RowKit
theorem wnumber_any (w : World) (S : Nat → Prop) (g : Nat) (l : List Nat) (bx x : Nat) (hb : Blk w bx 22 #[.int .u64 (x : Int)]) (hx : x < 18446744073709551616) (hl : l.length ≤ 1099511600000) (hw : Wr w S (some g) true l) :
  Calls Tryz.prog 105 #[ptr (some g), .pointer (some ⟨bx, 0, none⟩)] w (Done w S g l (Cd.vi x)) := by
 have HC := Lib.hid (wuint_any w S (some g) true l x hx (by omega) hw)
 have y0 := hb.cell 0
 simp only [List.getElem?_toArray, List.getElem?_cons_zero] at y0
 clear hb hw
 go_enter Tryz.func105, Tryz.ntmps105
 go_wp2_with fail
 with_reducible refine HC.out.mono ?_
 rintro e w1 ⟨rfl, hwd⟩
 have HW := Lib.hid hwd
 clear hwd
 go_wp2_with fail
 go_end0
 exact ⟨rfl, HW.out⟩
set_option maxHeartbeats 1000000 in
theorem wop_any (w : World) (S T : Nat → Prop) (g : Nat) (l : List Nat) (br gr : Nat) (r : RV) (hb : Blk w br 83 #[.pointer (some ⟨gr, 0, none⟩)]) (hr : Blk w gr 31 (rcs r)) (ho : r.o.In w T) (hT : ∀ b, T b → ¬ S b) (hm : r.o.m ≤ 2000) (hl : l.length ≤ 1099511600000) (hw : Wr w S (some g) true l) :
  Calls Tryz.prog 77 #[ptr (some g), .pointer (some ⟨br, 0, none⟩)] w (Done w S g l (encO r.o.k r.o.s r.o.t r.o.d)) := by
 have HC := Lib.hid (writeOp_any w S T g l r.o ho hT hm hl hw)
 have z0 := hb.cell 0
 simp only [List.getElem?_toArray, List.getElem?_cons_zero] at z0
 obtain ⟨y0, y1, y2, y3, y4, y5, y6, y7, y8, y9, y10, y11, y12, y13, y14⟩ := rcs_cells hr
 simp only [OV.agg] at HC
 clear hb hr ho hT hw y0 y1 y2 y3 y4 y5 y6 y11 y12 y13 y14
 go_enter Tryz.func77, Tryz.ntmps77
 go_wp2_with fail
 with_reducible refine HC.out.mono ?_
 rintro e w1 ⟨rfl, hwd⟩
 have HW := Lib.hid hwd
 clear hwd
 go_wp2_with fail
 go_end0
 exact ⟨rfl, HW.out⟩
set_option maxHeartbeats 1000000 in
theorem wlistIV_any (w : World) (S T : Nat → Prop) (g : Nat) (l : List Nat) (m m1 : Nat) (A : Option Addr) (n c : Nat) (vs : List IV) (h0 : Blk w m 27 #[.slice A n c]) (h1 : Blk w m1 128 #[.func (.func 82) #[] #[]]) (hv : IVR w T A n vs) (hT : ∀ b, T b → ¬ S b) (hn : n ≤ 20001) (hc : ∀ x ∈ vs, Short x.p) (htot : (vs.flatMap encI).length ≤ 190000000) (hl : l.length ≤ 1099000000000) (hw : Wr w S (some g) true l) :
  Calls Tryz.prog 111 #[ptr (some g), .pointer (some ⟨m, 0, none⟩), .pointer (some ⟨m1, 0, none⟩)] w (Done w S g l (encL encI vs)) := by
 have HC := Lib.hid (writeListIV_any w S T g l A n c vs hv hT hn hc htot hl hw)
 have y0 := h0.cell 0
 have z0 := h1.cell 0
 simp only [List.getElem?_toArray, List.getElem?_cons_zero] at y0 z0
 clear h0 h1 hv hT hc hw
 go_enter Tryz.func111, Tryz.ntmps111
 go_wp2_with fail
 with_reducible refine HC.out.mono ?_
 rintro e w1 ⟨rfl, hwd⟩
 have HW := Lib.hid hwd
 clear hwd
 go_wp2_with fail
 go_end0
 exact ⟨rfl, HW.out⟩
set_option maxHeartbeats 1000000 in
theorem wlistLV_any (w : World) (S T : Nat → Prop) (g : Nat) (l : List Nat) (m m1 : Nat) (A : Option Addr) (n c : Nat) (vs : List LV) (h0 : Blk w m 28 #[.slice A n c]) (h1 : Blk w m1 132 #[.func (.func 86) #[] #[]]) (hv : LVR w T A n vs) (hT : ∀ b, T b → ¬ S b) (hn : n ≤ 20001) (hc : ∀ x ∈ vs, True) (hl : l.length + 10 + n * 31 ≤ 1099511600000) (hw : Wr w S (some g) true l) :
  Calls Tryz.prog 119 #[ptr (some g), .pointer (some ⟨m, 0, none⟩), .pointer (some ⟨m1, 0, none⟩)] w (Done w S g l (encL encV vs)) := by
 have HC := Lib.hid (writeListLV_any w S T g l A n c vs hv hT hn hc hl hw)
 have y0 := h0.cell 0
 have z0 := h1.cell 0
 simp only [List.getElem?_toArray, List.getElem?_cons_zero] at y0 z0
 clear h0 h1 hv hT hc hw
 go_enter Tryz.func119, Tryz.ntmps119
 go_wp2_with fail
 with_reducible refine HC.out.mono ?_
 rintro e w1 ⟨rfl, hwd⟩
 have HW := Lib.hid hwd
 clear hwd
 go_wp2_with fail
 go_end0
 exact ⟨rfl, HW.out⟩
set_option maxHeartbeats 1000000 in
theorem wlistDV_any (w : World) (S T : Nat → Prop) (g : Nat) (l : List Nat) (m m1 : Nat) (A : Option Addr) (n c : Nat) (vs : List DV) (h0 : Blk w m 29 #[.slice A n c]) (h1 : Blk w m1 136 #[.func (.func 90) #[] #[]]) (hv : DVR w T A n vs) (hT : ∀ b, T b → ¬ S b) (hn : n ≤ 20001) (hc : ∀ x ∈ vs, True) (hl : l.length + 10 + n * 20 ≤ 1099511600000) (hw : Wr w S (some g) true l) :
  Calls Tryz.prog 123 #[ptr (some g), .pointer (some ⟨m, 0, none⟩), .pointer (some ⟨m1, 0, none⟩)] w (Done w S g l (encL encD vs)) := by
 have HC := Lib.hid (writeListDV_any w S T g l A n c vs hv hT hn hc hl hw)
 have y0 := h0.cell 0
 have z0 := h1.cell 0
 simp only [List.getElem?_toArray, List.getElem?_cons_zero] at y0 z0
 clear h0 h1 hv hT hc hw
 go_enter Tryz.func123, Tryz.ntmps123
 go_wp2_with fail
 with_reducible refine HC.out.mono ?_
 rintro e w1 ⟨rfl, hwd⟩
 have HW := Lib.hid hwd
 clear hwd
 go_wp2_with fail
 go_end0
 exact ⟨rfl, HW.out⟩
def fm (r : RV) : List (Bool × Bool × List Nat) := [(uT r.k, decide (r.t = 0), Cd.vi r.t), (uP r.k, decide (r.a = 0), Cd.vi r.a), (uU r.k, decide (r.b = 0), Cd.vi r.b), (uO r.k, decide (r.pg = 0), Cd.vi r.pg), (uO r.k, decide (r.rt = 0), Cd.vi r.rt),
 (uO r.k, noop r.o, encO r.o.k r.o.s r.o.t r.o.d), (uI r.k, decide (r.im = 0), encL encI r.il), (uC r.k, decide (r.lm = 0), encL encV r.ll), (uC r.k, decide (r.dm = 0), encL encD r.dl), (uC r.k, decide (r.nx = 0), Cd.vi r.nx)]
def KK (W0 : World) (S0 : Nat → Prop) : Nat → Prop := fun b => b < W0.heap.size ∧ ¬ S0 b
def WF (W0 : World) (S0 : Nat → Prop) (gw : Nat) (f : Nat) (caps : List Value) (k : List Nat) : Prop :=
 ∀ W l, WG W0 S0 (KK W0 S0) gw W l → l.length ≤ 1000000000 → Calls Tryz.prog f (ptr (some gw) :: caps).toArray W fun e w' => e = .returned (.tuple #[]) ∧ WG W0 S0 (KK W0 S0) gw w' (l ++ k)
theorem WF.of {W0 : World} {S0 : Nat → Prop} {gw f : Nat} {caps : List Value} {k : List Nat}
  (h : ∀ W S l, Fr W0 W S0 → (∀ b, KK W0 S0 b → ¬ S b) → l.length ≤ 1000000000 → Wr W S (some gw) true l → Calls Tryz.prog f (ptr (some gw) :: caps).toArray W (Done W S gw l k)) : WF W0 S0 gw f caps k := by
 intro W l hg hl
 obtain ⟨S', h1, h2, h3⟩ := hg.call
 exact (h W S' l hg.2.2 (fun b hb => (h2 b hb).2) hl h1).mono fun e w' hd => ⟨hd.1, (h3 _ _ hd.2).1⟩
structure FV where
 u : Bool
 z : Bool
 f : Nat
 cs : List Value
 g : Nat
 gs : List Value
def FV.cells (x : FV) : List Value := [.bool x.u, .bool x.z, .func (.func x.f) #[] x.cs.toArray, .func (.func x.g) #[] x.gs.toArray]
end Go.Proofs.YtdhgbkibbileiaaGreat
namespace Go.Proofs.YtdhgbkibbileiaaGreat
open Go.RowKit
theorem idx_cons {α : Type} {Q : Nat → α → Prop} {a : α} {l : List α} (h0 : Q 0 a) (h : ∀ i x, l[i]? = some x → Q (i + 1) x) : ∀ i x, (a :: l)[i]? = some x → Q i x := by
 intro i x hx
 cases i with
 | zero => simp at hx; subst hx; exact h0
 | succ i => exact h i x (by simpa using hx)
theorem idx_nil {α : Type} {Q : Nat → α → Prop} : ∀ i x, ([] : List α)[i]? = some x → Q i x := fun i x hx => by simp at hx
structure Brief (r : RV) : Prop where
 o : r.o.m ≤ 2000
 i : r.im ≤ 20001
 p : ∀ x ∈ r.il, Short x.p
 it : (r.il.flatMap encI).length ≤ 189000000
 l : r.lm ≤ 20001
 d : r.dm ≤ 20001
def FW (w : World) (S0 : Nat → Prop) (gw : Nat) (r : RV) (e : Ending) (w' : World) : Prop := ∃ (gf : Nat) (xs : List FV),
 e = .returned (.slice (some ⟨gf, 0, none⟩) 10 10) ∧ Below w.heap.size w w' ∧ w.heap.size ≤ gf ∧ Blk w' gf 87 (xs.flatMap FV.cells).toArray ∧ xs.length = 10 ∧
   (∀ x ∈ xs, (∃ b : Nat, x.cs = [.pointer (some ⟨b, 0, none⟩)] ∧ (x.f = 105 ∨ x.f = 77)) ∨ ∃ b b' : Nat, x.cs = [.pointer (some ⟨b, 0, none⟩), .pointer (some ⟨b', 0, none⟩)] ∧ (x.f = 111 ∨ x.f = 119 ∨ x.f = 123)) ∧
   ∀ (i : Nat) (x : FV), xs[i]? = some x → ∃ m : Bool × Bool × List Nat, (fm r)[i]? = some m ∧ x.u = m.1 ∧ x.z = m.2.1 ∧ WF w' S0 gw x.f x.cs m.2.2
set_option maxHeartbeats 4000000 in
theorem fieldsW (w : World) (S0 T : Nat → Prop) (gw gr : Nat) (r : RV) (hr : r.In w T) (hb : Blk w gr 31 (rcs r)) (hS0 : ∀ b, S0 b → b < w.heap.size) (hgr : ¬ S0 gr) (hT : ∀ b, T b → ¬ S0 b) (hc : Brief r) : Calls Tryz.prog 41 #[.pointer (some ⟨gr, 0, none⟩)] w (FW w S0 gw r) := by
 refine (fieldsOf_any w gr r T hr hb).mono ?_
 rintro e w' ⟨gf, br, n0, n1, n2, n3, n4, m6, m7, m8, n9, he, hbel, ⟨hgf, hbr⟩, hblk, hbb, b0, b1, b2, b3, b4, b6, b7, b8, b9⟩
 have hr2 := (hr.keep (Fr.of_below hbel No) fun _ _ hn => hn).mono (T' := fun b => T b ∧ b < w'.heap.size) fun b hlt hb => ⟨hb, hlt⟩
 have hb2 := hb.below hbel hb.lt
 have hT2 : ∀ (S : Nat → Prop), (∀ b, KK w' S0 b → ¬ S b) → ∀ b, (T b ∧ b < w'.heap.size) → ¬ S b := fun S hS b hb => hS b ⟨hb.2, hT b hb.1⟩
 have hn : ∀ n, w.heap.size ≤ n → ¬ S0 n := fun n h1 h2 => by have := hS0 n h2; omega
 have num : ∀ n x f, NB w w' br n x f → x < 18446744073709551616 → WF w' S0 gw 105 [.pointer (some ⟨n, 0, none⟩)] (Cd.vi x) := fun n x f h hx => WF.of fun W S l hfr _ hl hw => wnumber_any W S gw l n x (h.bx.keep hfr (hn n h.lo)) hx (by omega) hw
 refine ⟨gf, [⟨uT r.k, decide (r.t = 0), 105, [.pointer (some ⟨n0, 0, none⟩)], 107, [.pointer (some ⟨(n0 + 1), 0, none⟩)]⟩, ⟨uP r.k, decide (r.a = 0), 105, [.pointer (some ⟨n1, 0, none⟩)], 107, [.pointer (some ⟨(n1 + 1), 0, none⟩)]⟩, ⟨uU r.k, decide (r.b = 0), 105, [.pointer (some ⟨n2, 0, none⟩)], 107, [.pointer (some ⟨(n2 + 1), 0, none⟩)]⟩, ⟨uO r.k, decide (r.pg = 0), 105, [.pointer (some ⟨n3, 0, none⟩)], 107, [.pointer (some ⟨(n3 + 1), 0, none⟩)]⟩, ⟨uO r.k, decide (r.rt = 0), 105, [.pointer (some ⟨n4, 0, none⟩)], 107, [.pointer (some ⟨(n4 + 1), 0, none⟩)]⟩, ⟨uO r.k, noop r.o, 77, [.pointer (some ⟨br, 0, none⟩)], 79, [.pointer (some ⟨br, 0, none⟩)]⟩, ⟨uI r.k, decide (r.im = 0), 111, [.pointer (some ⟨m6, 0, none⟩), .pointer (some ⟨(m6 + 1), 0, none⟩)], 113, [.pointer (some ⟨(m6 + 3), 0, none⟩), .pointer (some ⟨(m6 + 2), 0, none⟩)]⟩, ⟨uC r.k, decide (r.lm = 0), 119, [.pointer (some ⟨m7, 0, none⟩), .pointer (some ⟨(m7 + 1), 0, none⟩)], 121, [.pointer (some ⟨(m7 + 3), 0, none⟩), .pointer (some ⟨(m7 + 2), 0, none⟩)]⟩, ⟨uC r.k, decide (r.dm = 0), 123, [.pointer (some ⟨m8, 0, none⟩), .pointer (some ⟨(m8 + 1), 0, none⟩)], 125, [.pointer (some ⟨(m8 + 3), 0, none⟩), .pointer (some ⟨(m8 + 2), 0, none⟩)]⟩, ⟨uC r.k, decide (r.nx = 0), 105, [.pointer (some ⟨n9, 0, none⟩)], 107, [.pointer (some ⟨(n9 + 1), 0, none⟩)]⟩], he, hbel, hgf, hblk, rfl, ?_, ?_⟩
 ·intro x hx
  simp only [List.mem_cons, List.not_mem_nil, or_false] at hx
  rcases hx with rfl | rfl | rfl | rfl | rfl | rfl | rfl | rfl | rfl | rfl
  all_goals first | exact Or.inl ⟨_, rfl, Or.inl rfl⟩ | exact Or.inl ⟨_, rfl, Or.inr rfl⟩ | exact Or.inr ⟨_, _, rfl, Or.inl rfl⟩ | exact Or.inr ⟨_, _, rfl, Or.inr (Or.inl rfl)⟩ | exact Or.inr ⟨_, _, rfl, Or.inr (Or.inr rfl)⟩
 ·refine idx_cons ⟨_, rfl, rfl, rfl, num _ _ _ b0 (by have := hr.t; omega)⟩ (idx_cons ⟨_, rfl, rfl, rfl, num _ _ _ b1 hr.a⟩ (idx_cons ⟨_, rfl, rfl, rfl, num _ _ _ b2 hr.b⟩ (idx_cons ⟨_, rfl, rfl, rfl, num _ _ _ b3 (by have := hr.pg; omega)⟩ (idx_cons ⟨_, rfl, rfl, rfl, num _ _ _ b4 (by have := hr.rt; omega)⟩ (idx_cons ⟨_, rfl, rfl, rfl, ?_⟩ (idx_cons ⟨_, rfl, rfl, rfl, ?_⟩ (idx_cons ⟨_, rfl, rfl, rfl, ?_⟩ (idx_cons ⟨_, rfl, rfl, rfl, ?_⟩ (idx_cons ⟨_, rfl, rfl, rfl, num _ _ _ b9 (by have := hr.nx; omega)⟩ idx_nil)))))))))
  ·exact WF.of fun W S l hfr hK hl hw => wop_any W S _ gw l br gr r (hbb.keep hfr (hn br hbr)) (hb2.keep hfr hgr) (hr2.o.keep hfr fun b hb => hT b hb.1) (hT2 S hK) hc.o (by omega) hw
  ·exact WF.of fun W S l hfr hK hl hw => wlistIV_any W S _ gw l m6 (m6 + 1) r.iA r.im r.ic r.il (b6.bi.keep hfr (hn _ b6.lo)) (b6.bw.keep hfr (hn _ (by have := b6.lo; omega))) (hr2.i.keep hfr fun b hb => hT b hb.1) (hT2 S hK) hc.i hc.p (Nat.le_trans hc.it (by decide)) (by omega) hw
  ·exact WF.of fun W S l hfr hK hl hw => wlistLV_any W S _ gw l m7 (m7 + 1) r.lA r.lm r.lc r.ll (b7.bi.keep hfr (hn _ b7.lo)) (b7.bw.keep hfr (hn _ (by have := b7.lo; omega))) (hr2.l.keep hfr fun b hb => hT b hb.1) (hT2 S hK) hc.l (fun _ _ => trivial) (by have := hc.l; omega) hw
  ·exact WF.of fun W S l hfr hK hl hw => wlistDV_any W S _ gw l m8 (m8 + 1) r.dA r.dm r.dc r.dl (b8.bi.keep hfr (hn _ b8.lo)) (b8.bw.keep hfr (hn _ (by have := b8.lo; omega))) (hr2.d.keep hfr fun b hb => hT b hb.1) (hT2 S hK) hc.d (fun _ _ => trivial) (by have := hc.d; omega) hw
end Go.Proofs.YtdhgbkibbileiaaGreat
namespace Go.Proofs.YtdhgbkibbileiaaGreat
open Go.RowKit
def okF (r : RV) : Bool := (fm r).all fun x => x.1 || x.2.1
def encX (x : Bool × Bool × List Nat) : List Nat := if x.1 then x.2.2 else []
def encF (r : RV) : List Nat := Cd.fixB 1 (kb r.k) ++ (fm r).flatMap encX
def bytesR (r : RV) : List Nat := if fitsB r && (okF r && decide ((encF r).length + 2 ≤ 16384)) then Cd.fixB 2 ((encF r).length + 2) ++ encF r else []
theorem fcs_at (xs : List FV) (h : ∀ x ∈ xs, x.cells.length = 4) (i : Nat) (x : FV) (hx : xs[i]? = some x) (j : Nat) (hj : j < 4) : (xs.flatMap FV.cells)[i * 4 + j]? = x.cells[j]? := by
 induction xs generalizing i with
 | nil => simp at hx
 | cons y r ih =>
   have hy := h y List.mem_cons_self
   rw [List.flatMap_cons]
   cases i with
   | zero =>
     simp at hx
     subst hx
     rw [List.getElem?_append_left (by omega)]
     congr 1
     omega
   | succ i =>
     rw [List.getElem?_append_right (by omega), hy]
     have := ih (fun x hx => h x (List.mem_cons_of_mem _ hx)) i (by simpa using hx)
     rw [← this]
     congr 1
     omega
theorem fv_cells {w : World} {gf : Nat} {xs : List FV} (hb : Blk w gf 87 (xs.flatMap FV.cells).toArray) {i : Nat} {x : FV} (hx : xs[i]? = some x) :
  w.cell? ⟨gf, i * 4, none⟩ = some (.bool x.u) ∧ w.cell? ⟨gf, i * 4 + 1, none⟩ = some (.bool x.z) ∧ w.cell? ⟨gf, i * 4 + 2, none⟩ = some (.func (.func x.f) #[] x.cs.toArray) ∧ w.cell? ⟨gf, i * 4 + 3, none⟩ = some (.func (.func x.g) #[] x.gs.toArray) := by
 have h4 : ∀ y ∈ xs, y.cells.length = 4 := fun y _ => rfl
 have k0 := fcs_at xs h4 i x hx 0 (by omega)
 have k1 := fcs_at xs h4 i x hx 1 (by omega)
 have k2 := fcs_at xs h4 i x hx 2 (by omega)
 have k3 := fcs_at xs h4 i x hx 3 (by omega)
 refine ⟨?_, ?_, ?_, ?_⟩
 ·rw [hb.cell]; simpa [FV.cells] using k0
 ·rw [hb.cell]; simpa [FV.cells] using k1
 ·rw [hb.cell]; simpa [FV.cells] using k2
 ·rw [hb.cell]; simpa [FV.cells] using k3
theorem fm_len (r : RV) : (fm r).length = 10 := rfl
theorem encX_le (r : RV) {w : World} {T : Nat → Prop} (h : r.In w T) (hc : Brief r) : ∀ x ∈ fm r, (encX x).length ≤ 190000000 := by
 have h1 := vi_len r.t (by have := h.t; omega)
 have h2 := vi_len r.a h.a
 have h3 := vi_len r.b h.b
 have h4 := vi_len r.pg (by have := h.pg; omega)
 have h5 := vi_len r.rt (by have := h.rt; omega)
 have h6 := vi_len r.nx (by have := h.nx; omega)
 have ho : (encO r.o.k r.o.s r.o.t r.o.d).length ≤ 3000 := by
  have a1 := vi_len (ub r.o.s) (ub_lt _)
  have a2 := vi_len r.o.t (by have := h.o.t; omega)
  have a3 := h.o.b.len
  have a4 := vi_len r.o.d.length (by have := hc.o; omega)
  have a5 := hc.o
  unfold encO Cd.tx
  rw [List.length_append, List.length_append, List.length_append, List.length_append, Cd.fixB_len]
  omega
 have hi : (encL encI r.il).length ≤ 190000000 := by
  have a1 := hc.it
  have a2 := h.i.1
  have a3 := hc.i
  have a4 := vi_len r.il.length (by omega)
  unfold encL
  rw [List.length_append]
  omega
 have hl : (encL encV r.ll).length ≤ 190000000 := by
  have a1 := flat_len encV 31 r.ll fun x hx => LV_enc_len x (h.l.2.1 x hx) trivial
  have a2 := h.l.1
  have a3 := hc.l
  have a4 := vi_len r.ll.length (by omega)
  unfold encL
  rw [List.length_append]
  omega
 have hd : (encL encD r.dl).length ≤ 190000000 := by
  have a1 := flat_len encD 20 r.dl fun x hx => DV_enc_len x (h.d.2.1 x hx) trivial
  have a2 := h.d.1
  have a3 := hc.d
  have a4 := vi_len r.dl.length (by omega)
  unfold encL
  rw [List.length_append]
  omega
 intro x hx
 unfold fm at hx
 simp only [List.mem_cons, List.not_mem_nil, or_false] at hx
 have key : ∀ (b z : Bool) (l : List Nat), l.length ≤ 190000000 → (encX (b, z, l)).length ≤ 190000000 := fun b z l hl => by
  unfold encX
  cases b
  ·simp
  ·exact hl
 rcases hx with rfl | rfl | rfl | rfl | rfl | rfl | rfl | rfl | rfl | rfl
 all_goals refine key _ _ _ ?_
 all_goals omega
theorem encF_le (r : RV) {w : World} {T : Nat → Prop} (h : r.In w T) (hc : Brief r) (q : Nat) (_ : q ≤ 10) : (Cd.fixB 1 (kb r.k) ++ ((fm r).take q).flatMap encX).length ≤ 1000000000 := by
 have h1 := vi_len r.t (by have := h.t; omega)
 have h2 := vi_len r.a h.a
 have h3 := vi_len r.b h.b
 have h4 := vi_len r.pg (by have := h.pg; omega)
 have h5 := vi_len r.rt (by have := h.rt; omega)
 have h6 := vi_len r.nx (by have := h.nx; omega)
 have hx := encX_le r h hc
 have hsum : ((fm r).flatMap encX).length ≤ 800000000 := by
  have e : (fm r).flatMap encX = encX (uT r.k, decide (r.t = 0), Cd.vi r.t) ++ (encX (uP r.k, decide (r.a = 0), Cd.vi r.a) ++ (encX (uU r.k, decide (r.b = 0), Cd.vi r.b) ++ (encX (uO r.k, decide (r.pg = 0), Cd.vi r.pg) ++ (encX (uO r.k, decide (r.rt = 0), Cd.vi r.rt) ++ (((fm r).drop 5).flatMap encX))))) := rfl
  have e2 : ((fm r).drop 5).flatMap encX = encX (uO r.k, noop r.o, encO r.o.k r.o.s r.o.t r.o.d) ++ (encX (uI r.k, decide (r.im = 0), encL encI r.il) ++ (encX (uC r.k, decide (r.lm = 0), encL encV r.ll) ++ (encX (uC r.k, decide (r.dm = 0), encL encD r.dl) ++ (encX (uC r.k, decide (r.nx = 0), Cd.vi r.nx) ++ [])))) := rfl
  have hs : ∀ (b z : Bool) (l : List Nat) (n : Nat), l.length ≤ n → (encX (b, z, l)).length ≤ n := fun b z l n hl => by
   unfold encX
   cases b
   ·simp
   ·exact hl
  have g1 := hs (uT r.k) (decide (r.t = 0)) _ 10 h1
  have g2 := hs (uP r.k) (decide (r.a = 0)) _ 10 h2
  have g3 := hs (uU r.k) (decide (r.b = 0)) _ 10 h3
  have g4 := hs (uO r.k) (decide (r.pg = 0)) _ 10 h4
  have g5 := hs (uO r.k) (decide (r.rt = 0)) _ 10 h5
  have g6 := hx (uO r.k, noop r.o, encO r.o.k r.o.s r.o.t r.o.d) (by simp [fm])
  have g7 := hx (uI r.k, decide (r.im = 0), encL encI r.il) (by simp [fm])
  have g8 := hx (uC r.k, decide (r.lm = 0), encL encV r.ll) (by simp [fm])
  have g9 := hx (uC r.k, decide (r.dm = 0), encL encD r.dl) (by simp [fm])
  have g10 := hs (uC r.k) (decide (r.nx = 0)) _ 10 h6
  rw [e, e2]
  simp only [List.length_append, List.length_nil]
  omega
 have htk : ((fm r).take q).flatMap encX ++ ((fm r).drop q).flatMap encX = (fm r).flatMap encX := by rw [← List.flatMap_append, List.take_append_drop]
 have hl := congrArg List.length htk
 rw [List.length_append] at hl
 rw [List.length_append, Cd.fixB_len]
 omega
end Go.Proofs.YtdhgbkibbileiaaGreat
