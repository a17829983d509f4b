/-
STAGE 8: Path.
-/
import Derived.Test.YtcajidlekfkjlaaNG
namespace Go.Proofs.Ytcajidlekfkjlaa
open Go.RowKit

def isE (x : List Nat) : Bool := decide (1 ≤ x.length) && decide (x.length ≤ 146)
def pathM (G : Option TV) (x : List Nat) (n : Nat) : Except Int (List Nat) := if n ≠ 0 ∧ isE x = true then (wayM G x 8 n).map nos else .error 1
/-- childFor of a text that lies anywhere -/
def ChildAll (w : World) (G : Option TV) (x : List Nat) : Prop := ∀ (W : World) (A : Option Addr) (c : Nat), Below w.heap.size w W → RB W All A x.length x → ChildOk W G A x.length c x
set_option maxRecDepth 100000 in
theorem ChildAll.below {w w' : World} {G : Option TV} {x : List Nat} (h : ChildAll w G x) (hb : Below w.heap.size w w') : ChildAll w' G x := fun W A c hW => h W A c (hb.trans (hW.mono hb.size))
set_option maxRecDepth 100000 in
theorem ChildAll.leaf {w : World} {G : Option TV} (h : ∀ q p, askM G q = .ok p → p.k = 2) (x : List Nat) : ChildAll w G x := fun _ A c _ _ => ChildOk.leaf h A _ c x
/-- numbers, or an error that came up -/
def NumR (w : World) (R : Except Int (List Nat)) (e : Ending) (w' : World) : Prop := match R with
  | .ok l => NewN w l e w'
  | .error c => e = Flt c ∧ Below w.heap.size w w'
set_option maxRecDepth 100000 in
theorem NewN.up {a w w' : World} {l : List Nat} {e : Ending} (hb : Below a.heap.size a w) (h : NewN w l e w') : NewN a l e w' := by
  obtain ⟨v, he, ho, hw⟩ := h
  exact ⟨v, he, ho.mono fun b _ hk => Nat.le_trans hb.size hk, hb.trans (hw.mono hb.size)⟩
set_option maxRecDepth 100000 in
theorem wayM_len {G : Option TV} {x : List Nat} : ∀ (f n : Nat) (l : List IV), wayM G x f n = .ok l → l.length ≤ f ∧ 1 ≤ l.length
  | 0, _, _, h => by cases h
  | f + 1, n, l, h => by
    unfold wayM at h
    split at h
    · cases h
    · rename_i p hp
      split at h
      · injection h with h; subst h; simp
      · cases hw : wayM G x f (childM p x) with
        | error c => rw [hw] at h; cases h
        | ok l' =>
          rw [hw] at h
          simp only [Except.map] at h
          injection h with h
          subst h
          have := wayM_len f _ l' hw
          simp
          omega
set_option maxHeartbeats 4000000 in
set_option maxRecDepth 100000 in
theorem path1_any (G : Option TV) (n : Nat) (x : List Nat) (hx : ∀ y ∈ x, y < 256) (hn : n < 4294967296) (w : World) (S : Nat → Prop) (h : GIn w S G) (hch : ChildAll w G x) (bg bn be : Nat) (hbg : Blk w bg 59 #[gV G]) (hbn : Blk w bn 23 #[.int .u32 (n : Int)]) (hbe : Blk w be 9 #[.string (strOf x)]) :
    Calls Try.prog 22 #[.pointer (some ⟨bn, 0, none⟩), .pointer (some ⟨be, 0, none⟩), .pointer (some ⟨bg, 0, none⟩)] w (NumR w (pathM G x n)) := by
  obtain ⟨R, hR⟩ : ∃ R, R = pathM G x n := ⟨_, rfl⟩
  rw [← hR]
  have HR := Lib.hid hR
  have x0 := hbn.cell 0
  have x1 := hbe.cell 0
  have x2 := hbg.cell 0
  have HBG := Lib.hid hbg
  have HBN := Lib.hid hbn
  have HBE := Lib.hid hbe
  have HWD := Lib.hid (fun (W : World) (A : Option Addr) (m c : Nat) (hW : Below w.heap.size w W) (hc : ChildOk W G A m c x) => wayDown_any G n A m c x W S hn (h.below hW) hc)
  have HCH := Lib.hid hch
  have HXX := Lib.hid hx
  obtain ⟨g, hg⟩ : ∃ g, g = gV G := ⟨_, rfl⟩
  rw [← hg] at x2 HWD HBG
  have HM1 := Lib.hid (fun W => must_no 1 W)
  have HY1 := Lib.hid (fun W => must_yes 1 W)
  unfold Flt at HM1
  clear hR hbg hbn hbe hch hg h
  by_cases h0 : n = 0
  · have d1 : ((n : Int) != 0) = false := by rw [h0]; rfl
    have HE : Hid (R = .error 1) := by rw [HR.out, pathM, if_neg (by rw [h0]; simp)]; exact Lib.hid rfl
    clear hn h0
    go_enter Try.func22, Try.ntmps22
    go_wp2_with fail
    refine (HM1.out _).mono ?_
    rintro e w1 ⟨rfl, rfl⟩
    go_wp2_with fail
    refine ⟨rfl, ?_⟩
    rw [HE.out]
    exact ⟨rfl, Below.refl _ _⟩
  · have d1 : ((n : Int) != 0) = true := bne_iff_ne.2 (by omega)
    obtain ⟨A1, c1, W1, hcv, hc1, _, hrb1, hbw1⟩ := run_cvn w x hx
    have HIE := Lib.hid (fun W => isEntry_any A1 x.length c1 W)
    obtain ⟨ie, hie⟩ : ∃ ie, ie = isE x := ⟨_, rfl⟩
    have HBW1 := Lib.hid hbw1
    unfold isE at hie
    rw [← hie] at HIE
    cases ie with
    | false =>
      have HE : Hid (R = .error 1) := by rw [HR.out, pathM, if_neg (by unfold isE; rw [← hie]; simp)]; exact Lib.hid rfl
      clear hn h0 hie hrb1 hbw1 hc1 hx
      go_enter Try.func22, Try.ntmps22
      go_wp2_with fail
      refine (HIE.out _).mono ?_
      rintro e w1 ⟨rfl, rfl⟩
      go_wp2_with fail
      refine (HM1.out _).mono ?_
      rintro e w1 ⟨rfl, rfl⟩
      go_wp2_with fail
      refine ⟨rfl, ?_⟩
      rw [HE.out]
      exact ⟨rfl, HBW1.out⟩
    | true =>
      have HE : Hid (R = (wayM G x 8 n).map nos) := by rw [HR.out, pathM, if_pos ⟨h0, by unfold isE; rw [← hie]⟩]; exact Lib.hid rfl
      have y0 := (HBN.out.below hbw1 HBN.out.lt).cell 0
      have y1 := (HBE.out.below hbw1 HBE.out.lt).cell 0
      have y2 := (HBG.out.below hbw1 HBG.out.lt).cell 0
      obtain ⟨A2, c2, W2, hcv2, hc2, _, hrb2, hbw2⟩ := run_cvn W1 x hx
      have hbw : Below w.heap.size w W2 := hbw1.trans (hbw2.mono hbw1.size)
      have HBW := Lib.hid hbw
      have HWD2 := Lib.hid (HWD.out W2 A2 x.length c2 hbw (HCH.out W2 A2 c2 hbw (hrb2.mono fun _ _ _ => trivial)))
      clear hn h0 hie hrb1 hrb2 hbw1 hbw2 hc1 hc2 hbw hx
      go_enter Try.func22, Try.ntmps22
      go_wp2_with fail
      refine (HIE.out _).mono ?_
      rintro e w1 ⟨rfl, rfl⟩
      go_wp2_with fail
      refine (HY1.out _).mono ?_
      rintro e w1 ⟨rfl, rfl⟩
      go_wp2_with fail
      cases hwy : wayM G x 8 n with
      | error c =>
        have HE2 : Hid (R = .error c) := by rw [HE.out, hwy]; exact Lib.hid rfl
        rw [hwy] at HWD2
        refine HWD2.out.mono ?_
        rintro e w3 ⟨rfl, hb3⟩
        have HB3 := Lib.hid (HBW.out.trans (hb3.mono HBW.out.size))
        clear hb3
        unfold Flt
        go_wp2_with fail
        refine ⟨rfl, ?_⟩
        rw [HE2.out]
        exact ⟨rfl, HB3.out⟩
      | ok l =>
        have HE2 : Hid (R = .ok (nos l)) := by rw [HE.out, hwy]; exact Lib.hid rfl
        rw [hwy] at HWD2
        have hlen := wayM_len 8 n l hwy
        refine HWD2.out.mono ?_
        rintro e w3 ⟨v, rfl, hov, hb3⟩
        obtain ⟨A3, c3, rfl, _, _, _, hri⟩ := hov.reads (by omega)
        have HB3 := Lib.hid (HBW.out.trans (hb3.mono HBW.out.size))
        have HNU := Lib.hid (numbers_any A3 l.length c3 l w3 _ hri (by omega))
        obtain ⟨nl, hnl⟩ : ∃ nl, nl = l.length := ⟨_, rfl⟩
        rw [← hnl] at HNU ⊢
        clear hb3 hov hri hlen hwy hnl
        go_wp2_with fail
        refine HNU.out.mono ?_
        intro e w4 hn4
        obtain ⟨v4, rfl, ho4, hb4⟩ := hn4
        obtain ⟨A4, c4, rfl, _⟩ := ho4.reads
        have HN4 := Lib.hid (NewN.up HB3.out ⟨_, rfl, ho4, hb4⟩)
        clear ho4 hb4
        go_wp2_with fail
        go_ret
        rw [HE2.out]
        exact HN4.out
def lstR {α : Type} : Except Int (List α) → List α
  | .ok l => l
  | .error _ => []
def codeR {α : Type} : Except Int α → Int
  | .ok _ => 0
  | .error c => c
/-- numbers, and an error's number -/
def PathP (w : World) (R : Except Int (List Nat)) (e : Ending) (w' : World) : Prop :=
  ∃ v, e = .returned (.tuple #[v, .int .i64 (codeR R)]) ∧ OwN w' (fun b => w.heap.size ≤ b) v (lstR R).length (lstR R) ∧ Below w.heap.size w w'
set_option maxRecDepth 100000 in
theorem gV_cases (G : Option TV) : gV G = .nilFunc ∨ ∃ tv, gV G = .func (.func 9) #[tv] #[] := by
  cases G with
  | none => exact Or.inl rfl
  | some t => exact Or.inr ⟨t.agg, rfl⟩
set_option maxHeartbeats 2000000 in
set_option maxRecDepth 100000 in
theorem path_any (G : Option TV) (n : Nat) (x : List Nat) (hx : ∀ y ∈ x, y < 256) (hn : n < 4294967296) (w : World) (S : Nat → Prop) (h : GIn w S G) (hch : ChildAll w G x) :
    Calls Try.prog 8 #[gV G, .int .u32 (n : Int), .string (strOf x)] w (PathP w (pathM G x n)) := by
  obtain ⟨R, hR⟩ : ∃ R, R = pathM G x n := ⟨_, rfl⟩
  obtain ⟨g, hg⟩ : ∃ g, g = gV G := ⟨_, rfl⟩
  have hgc := gV_cases G
  rw [← hR, ← hg]
  rw [← hg] at hgc
  obtain ⟨W, hW⟩ : ∃ W, W = ((w.alloc (.cells #[g] 59)).alloc (.cells #[.int .u32 (n : Int)] 23)).alloc (.cells #[.string (strOf x)] 9) := ⟨_, rfl⟩
  have hb : Below w.heap.size w W := by rw [hW]; exact (((Below.refl _ _).alloc (Nat.le_refl _) _).alloc (by simp) _).alloc (by simp; omega) _
  have hs : W.heap.size = w.heap.size + 3 := by rw [hW]; simp
  have bg : Blk W w.heap.size 59 #[g] := by rw [hW]; exact ((Blk.new w 59 _).alloc _).alloc _
  have bn : Blk W (w.heap.size + 1) 23 #[.int .u32 (n : Int)] := by rw [hW]; have := (Blk.new (w.alloc (.cells #[g] 59)) 23 #[.int .u32 (n : Int)]).alloc (.cells #[.string (strOf x)] 9); rwa [World.size_alloc] at this
  have be : Blk W (w.heap.size + 1 + 1) 9 #[.string (strOf x)] := by rw [hW]; have := Blk.new ((w.alloc (.cells #[g] 59)).alloc (.cells #[.int .u32 (n : Int)] 23)) 9 #[.string (strOf x)]; simpa using this
  have ha := ansW_below W (.slice none 0 0) 30
  have hp := path1_any G n x hx hn (ansW W (.slice none 0 0) 30) S ((h.below hb).below ha) ((hch.below hb).below ha) w.heap.size (w.heap.size + 1) (w.heap.size + 1 + 1) (by rw [← hg]; exact bg.below ha bg.lt) (bn.below ha bn.lt) (be.below ha be.lt)
  rw [← hR] at hp
  have HB := Lib.hid hb
  have HS := Lib.hid hs
  have hmf := hmf_
  cases R with
  | error c =>
    have HA := Lib.hid (answer50_57_no _ _ _ c W (hp.mono fun e w' h => h))
    clear hR hg hb hs bg bn be ha hp hx hn h hch
    rcases hgc with rfl | ⟨tv, rfl⟩
    all_goals
      rw [hW] at HA
      have HW := Lib.hid hW
      clear hW
      go_enter Try.func8, Try.ntmps8
      go_wp2_with fail
      refine HA.out.mono ?_
      rintro e w1 ⟨rfl, hb1⟩
      have HB1 : Hid (Below w.heap.size w w1) := by rw [← HW.out] at hb1; exact Lib.hid (HB.out.trans (hb1.mono HB.out.size))
      clear hb1
      go_wp2_with fail
      go_ret2
      exact ⟨_, rfl, OwN.nil_ _ _, HB1.out⟩
  | ok l =>
    have HA := Lib.hid (answer50_57_yes _ _ _ (fun v W' => OwN W' (fun b => (ansW W (.slice none 0 0) 30).heap.size ≤ b) v l.length l) W (hp.mono fun e w' h => by
      obtain ⟨v, he, ho, hb'⟩ := h
      obtain ⟨A, c, rfl, _⟩ := ho.reads
      exact ⟨A, l.length, c, he, ho, hb'⟩))
    clear hR hg hb hs bg bn be ha hp hx hn h hch
    rcases hgc with rfl | ⟨tv, rfl⟩
    all_goals
      rw [hW] at HA
      have HW := Lib.hid hW
      clear hW
      go_enter Try.func8, Try.ntmps8
      go_wp2_with fail
      refine HA.out.mono ?_
      intro e w1 hq
      rw [← HW.out] at hq
      obtain ⟨v, rfl, hb1, W2, ho, hsz, hf⟩ := hq
      have ho2 := ho.keep hf fun b hb1 hb2 => by rw [ansW_size] at hb1; rcases hb2 with h | h <;> omega
      have HO := Lib.hid (ho2.mono (T := fun b => w.heap.size ≤ b) fun b _ hb => by rw [ansW_size] at hb; have := HS.out; omega)
      have HB1 : Hid (Below w.heap.size w w1) := Lib.hid (HB.out.trans (hb1.mono HB.out.size))
      obtain ⟨A, c, rfl, _⟩ := ho2.reads
      clear hb1 ho ho2 hf hsz
      go_wp2_with fail
      go_ret2
      exact ⟨_, rfl, HO.out, HB1.out⟩
end Go.Proofs.Ytcajidlekfkjlaa
