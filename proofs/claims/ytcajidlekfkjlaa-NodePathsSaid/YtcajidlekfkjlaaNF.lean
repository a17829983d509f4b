/-
STAGE 8: wayDown.
-/
import Derived.Test.YtcajidlekfkjlaaNE
namespace Go.Proofs.Ytcajidlekfkjlaa
open Go.RowKit

/-- does a text lie not below the one, and below the other (no bytes there: no end)? -/
def lies (f t x : List Nat) : Bool := !ltb x f && (decide (t.length = 0) || ltb x t)
def childN (d : List Nat) : Nat := (d.drop (d.length - 4)).foldl (fun a x => a * 256 + x) 0
/-- the child in which a text would lie: of those from the one with the number n on, whose entries begin at f -/
def childL (x : List Nat) : Nat → List Nat → List CE → Nat
  | n, _, [] => n
  | n, f, c :: r => if lies f (ent 4 c.d) x then n else childL x (childN c.d) (ent 4 c.d) r
def childM (p : PV) (x : List Nat) : Nat := childL x p.x [] p.es
/-- the way down -/
def wayM (G : Option TV) (x : List Nat) : Nat → Nat → Except Int (List IV)
  | 0, _ => .error 5
  | f + 1, n => match askM G n with
    | .error c => .error c
    | .ok p => if p.k = 2 then .ok [⟨n, p⟩] else (wayM G x f (childM p x)).map (⟨n, p⟩ :: ·)
/-- a new row of images is answered, of pages that were there -/
def NewIV (w : World) (l : List IV) (e : Ending) (w' : World) : Prop :=
  ∃ v, e = .returned v ∧ OwIV w' (fun b => w.heap.size ≤ b) (fun b => b < w.heap.size) v l.length l ∧ Below w.heap.size w w'
def WayR (w : World) (R : Except Int (List IV)) (e : Ending) (w' : World) : Prop := match R with
  | .ok l => NewIV w l e w'
  | .error c => e = Flt c ∧ Below w.heap.size w w'
set_option maxRecDepth 100000 in
theorem map_cons_app (d : List IV) (x : IV) (R : Except Int (List IV)) : (R.map (x :: ·)).map (d ++ ·) = R.map ((d ++ [x]) ++ ·) := by
  cases R with
  | error c => rfl
  | ok l => simp [Except.map]
set_option maxRecDepth 100000 in
theorem fold_lt : ∀ (l : List Nat) (a n : Nat), (∀ x ∈ l, x < 256) → a < 256 ^ n → l.foldl (fun a x => a * 256 + x) a < 256 ^ (n + l.length)
  | [], a, n, _, h => by simpa using h
  | x :: r, a, n, hx, h => by
    have h1 : x < 256 := hx x (by simp)
    have := fold_lt r (a * 256 + x) (n + 1) (fun y hy => hx y (by simp [hy])) (by rw [Nat.pow_succ]; omega)
    simpa [Nat.add_assoc, Nat.add_comm 1] using this
set_option maxRecDepth 100000 in
theorem childN_lt (d : List Nat) (hd : ∀ x ∈ d, x < 256) : childN d < 4294967296 := by
  have h := fold_lt (d.drop (d.length - 4)) 0 0 (fun x hx => hd x (List.mem_of_mem_drop hx)) (by decide)
  have hl : 0 + (d.drop (d.length - 4)).length ≤ 4 := by simp; omega
  exact Nat.lt_of_lt_of_le h (Nat.pow_le_pow_right (by decide) hl)
set_option maxRecDepth 100000 in
theorem childL_lt (x : List Nat) : ∀ (es : List CE) (n : Nat) (f : List Nat), n < 4294967296 → (∀ c ∈ es, ∀ y ∈ c.d, y < 256) → childL x n f es < 4294967296
  | [], _, _, hn, _ => hn
  | c :: r, n, f, hn, h => by
    unfold childL
    split
    · exact hn
    · exact childL_lt x r _ _ (childN_lt _ (h c (by simp))) fun c' hc' => h c' (by simp [hc'])
set_option maxRecDepth 100000 in
theorem childM_lt {p : PV} {w : World} {S T : Nat → Prop} (h : p.In w S T) (x : List Nat) : childM p x < 4294967296 := by
  refine childL_lt x _ _ _ h.x fun c hc y hy => ?_
  unfold PV.es at hc
  rw [List.mem_map] at hc
  obtain ⟨v, hv, rfl⟩ := hc
  exact (h.r.2.1 v hv).b.lt y hy
def lenV : Value → Nat
  | .slice _ n _ => n
  | _ => 0
/-- what childFor does with the pages that are told -/
def ChildOk (S0 : World) (G : Option TV) (A : Option Addr) (m c : Nat) (x : List Nat) : Prop :=
  ∀ (p : PV) (W : World), Below S0.heap.size S0 W → (∃ q, askM G q = .ok p) → p.k ≠ 2 → Calls Try.prog 48 #[p.agg, .slice A m c] W fun e w' => e = .returned (.int .u32 (childM p x : Int)) ∧ Below W.heap.size W w'
set_option maxRecDepth 100000 in
theorem ChildOk.below {w w' : World} {G : Option TV} {A : Option Addr} {m c : Nat} {x : List Nat} (h : ChildOk w G A m c x) (hb : Below w.heap.size w w') : ChildOk w' G A m c x := fun p W hW => h p W (hb.trans (hW.mono hb.size))
set_option maxRecDepth 100000 in
theorem ChildOk.leaf {w : World} {G : Option TV} (h : ∀ q p, askM G q = .ok p → p.k = 2) (A : Option Addr) (m c : Nat) (x : List Nat) : ChildOk w G A m c x := fun p _ _ ⟨q, hq⟩ hk => absurd (h q p hq) hk
set_option maxHeartbeats 4000000 in
set_option maxRecDepth 100000 in
theorem wayDown_any (G : Option TV) (n : Nat) (A : Option Addr) (m c : Nat) (x : List Nat) (w : World) (S : Nat → Prop) (hn : n < 4294967296) (h : GIn w S G) (hch : ChildOk w G A m c x) :
    Calls Try.prog 26 #[gV G, .int .u32 (n : Int), .slice A m c] w (WayR w (wayM G x 8 n)) := by
  obtain ⟨g, hg⟩ : ∃ g, g = gV G := ⟨_, rfl⟩
  obtain ⟨R, hR⟩ : ∃ R, R = wayM G x 8 n := ⟨_, rfl⟩
  rw [← hg, ← hR]
  have HOK := Lib.hid (fun (W : World) (hW : Below w.heap.size w W) (q : Nat) (p : PV) (hp : askM G q = .ok p) => hg ▸ ask_ok (h.below hW) hp)
  have HNO := Lib.hid (fun (W : World) (hW : Below w.heap.size w W) (q : Nat) (c : Int) (hp : askM G q = .error c) => hg ▸ ask_no (h.below hW) hp)
  have HIN := Lib.hid (fun (q : Nat) (p : PV) (hp : askM G q = .ok p) => ask_in h hp)
  have HCH := Lib.hid hch
  have HR := Lib.hid hR
  clear hR hg hch h
  go_enter Try.func26, Try.ntmps26
  go_wp2_with fail
  go_loopw [7, 8] (fun v q wr => ∃ (d : List IV) (nd k : Nat), q = .int .u32 (k : Int) ∧ k < 4294967296 ∧ nd ≤ 8 ∧ OwIV wr (fun b => w.heap.size ≤ b) (fun b => b < w.heap.size) v nd d ∧ Below w.heap.size w wr ∧ R = (wayM G x (8 - nd) k).map (d ++ ·)) (fun v _ _ => 8 - lenV v)
  case atStart =>
    exact ⟨[], 0, n, rfl, hn, by decide, OwIV.nil_ _ _ _, Below.refl _ _, by rw [HR.out]; cases wayM G x 8 n <;> rfl⟩
  case round =>
    obtain ⟨d, nd, k, rfl, hk, hd, how, hb, hRk⟩ := hrel
    obtain ⟨vA, vc, rfl, hvc, hvm, hvz, hri⟩ := how.reads (by omega)
    have HOW := Lib.hid how
    have HB := Lib.hid hb
    have HRK := Lib.hid hRk
    have HLEN := Lib.hid how.len
    clear how hb hRk hri hvz hvm hvc HR
    by_cases h8 : nd < 8
    · have d8 : decide ((nd : Int) < 8) = true := decide_eq_true (by omega)
      have HD8 := Lib.hid h8
      have HMY := must_yes 5 wr
      cases hA : askM G k with
      | error c =>
        have HE : Hid (R = .error c) := by
          obtain ⟨f, hf⟩ : ∃ f, 8 - nd = f + 1 := ⟨7 - nd, by omega⟩
          have := HRK.out
          rw [hf] at this
          rw [this]
          simp only [wayM, hA]
          exact Lib.hid rfl
        have HAN := HNO.out wr HB.out k c hA
        unfold Flt at HAN
        clear hA h8
        go_wp2_with fail
        refine HMY.mono ?_
        rintro e w1 ⟨rfl, rfl⟩
        go_wp2_with fail
        refine HAN.mono ?_
        rintro e w1 ⟨rfl, hb1⟩
        have HB1 := Lib.hid (HB.out.trans (hb1.mono HB.out.size))
        clear hb1
        go_wp2_with fail
        refine ⟨rfl, ?_⟩
        rw [HE.out]
        exact ⟨rfl, HB1.out⟩
      | ok p =>
        have hin := HIN.out k p hA
        have hcl := childM_lt hin.1 x
        have hint : p.In w (fun b => b < w.heap.size) (fun b => b < w.heap.size) := hin.1.mono (fun b hb _ => hb) (fun b hb _ => hb)
        have HAK := HOK.out wr HB.out k p hA
        have HE : Hid (∀ f, 8 - nd = f + 1 → R = (if p.k = 2 then (.ok [⟨k, p⟩]) else (wayM G x f (childM p x)).map (⟨k, p⟩ :: ·)).map (d ++ ·)) := by
          refine Lib.hid fun f hf => ?_
          have := HRK.out
          rw [hf] at this
          rw [this]
          simp only [wayM, hA]
        have HCP := fun W (hW : Below w.heap.size w W) => HCH.out p W hW ⟨k, hA⟩
        obtain ⟨cm, hcm⟩ : ∃ cm, cm = childM p x := ⟨_, rfl⟩
        rw [← hcm] at hcl HE HCP
        have HINT := Lib.hid hint
        have HCL := Lib.hid hcl
        have HK := Lib.hid hk
        have HCPH := Lib.hid HCP
        obtain ⟨pk, ps, px, pA, pn, pc, pl⟩ := p
        unfold PV.agg at HAK HCPH
        clear hA h8 hin hcl hint hcm hk HCP
        go_wp2_with fail
        refine HMY.mono ?_
        rintro e w1 ⟨rfl, rfl⟩
        go_wp2_with fail
        refine HAK.mono ?_
        rintro e w1 ⟨rfl, hb1⟩
        obtain ⟨C2, hC2⟩ : ∃ C, C = Obj.cells #[.int .i64 pk, .int .u64 (ps : Int), .int .u32 (px : Int), .slice pA pn pc] 51 := ⟨_, rfl⟩
        obtain ⟨C3, hC3⟩ : ∃ C, C = Obj.cells #[.int .u32 (k : Int), .int .i64 pk, .int .u64 (ps : Int), .int .u32 (px : Int), .slice pA pn pc] 54 := ⟨_, rfl⟩
        have hb3 : Below wr.heap.size wr ((w1.alloc C2).alloc C3) := (hb1.alloc hb1.size C2).alloc (by simp; have := hb1.size; omega) C3
        have hbw : Below w.heap.size w ((w1.alloc C2).alloc C3) := HB.out.trans (hb3.mono HB.out.size)
        have how3 := HOW.out.keep (Fr.of_below hb3 No) (fun _ _ hn => hn) fun _ _ hn => hn
        have blk3 : Blk ((w1.alloc C2).alloc C3) (w1.heap.size + 1) 54 #[.int .u32 (k : Int), .int .i64 pk, .int .u64 (ps : Int), .int .u32 (px : Int), .slice pA pn pc] := by
          rw [hC3]; have := Blk.new (w1.alloc C2) 54 #[.int .u32 (k : Int), .int .i64 pk, .int .u64 (ps : Int), .int .u32 (px : Int), .slice pA pn pc]; rwa [World.size_alloc] at this
        have blk2 : Blk ((w1.alloc C2).alloc C3) w1.heap.size 51 #[.int .i64 pk, .int .u64 (ps : Int), .int .u32 (px : Int), .slice pA pn pc] := by
          rw [hC2]; exact (Blk.new w1 51 _).alloc _
        have hy3 : (⟨k, ⟨pk, ps, px, pA, pn, pc, pl⟩⟩ : IV).In ((w1.alloc C2).alloc C3) (fun b => b < w.heap.size) := ⟨HK.out, HINT.out.below hbw⟩
        have hsz : w.heap.size ≤ w1.heap.size := by have := HB.out.size; have := hb1.size; omega
        have hs3 : ((w1.alloc C2).alloc C3).heap.size = w1.heap.size + 2 := by simp
        rw [hC2, hC3] at how3 blk3 blk2 hy3 hbw hs3
        have HOW3 := Lib.hid how3
        have HBLK3 := Lib.hid blk3
        have HBLK2 := Lib.hid blk2
        have HY3 := Lib.hid hy3
        have HBW := Lib.hid hbw
        have HSZ := Lib.hid hsz
        have HS3 := Lib.hid hs3
        have HNB : Hid ((nd + 1) * 56 ≤ 140737488355328) := Lib.hid (by omega)
        clear how3 blk3 blk2 hy3 hbw hsz hs3 hb3 hb1 hC2 hC3
        by_cases hk2 : pk = 2
        · have d2 : (pk == 2) = true := by rw [hk2]; rfl
          have HK2 := Lib.hid hk2
          clear hk2
          go_wp2_with (at_builtin; go_must (refine wpList_appIV rfl (.tmp 18) (.tmp 22) rfl _ nd d rfl HOW3.out (w1.heap.size + 1) 1 ⟨k, ⟨pk, ps, px, pA, pn, pc, pl⟩⟩ rfl HBLK3.out HY3.out HNB.out ?_); intro v' w4 hown hgrow; have hb4 := HBLK2.out.grown hgrow (HBLK2.out.own_ne HOW3.out.1 (by decide)); have e0 := hb4.cell 0; have e1 := hb4.cell 1; have e2 := hb4.cell 2; have e3 := hb4.cell 3; have HO4 := Lib.hid (hown.mono (S' := fun b => w.heap.size ≤ b) (T' := fun b => b < w.heap.size) (fun b _ hb => hb.elim id fun hb => by have := HSZ.out; have := HS3.out; omega) (fun b _ hb => hb.1) (fun q hq hlt => by have := hown.2.2.1 q hq; have := HSZ.out; have := HS3.out; omega)); have HB4 := Lib.hid (HBW.out.grown hgrow HBW.out.size fun q hq => HOW3.out.2.2.1 q hq); clear hown hgrow hb4)
          go_ret
          have hE := HE.out (7 - nd) (by have := HD8.out; omega)
          rw [if_pos HK2.out] at hE
          rw [hE]
          have hl : (d ++ [(⟨k, ⟨pk, ps, px, pA, pn, pc, pl⟩⟩ : IV)]).length = nd + 1 := by rw [List.length_append, HLEN.out]; rfl
          exact ⟨_, rfl, by rw [hl]; exact HO4.out, HB4.out⟩
        · have d2 : (pk == 2) = false := beq_false_of_ne hk2
          have HK2 := Lib.hid hk2
          clear hk2
          go_wp2_with (at_builtin; go_must (refine wpList_appIV rfl (.tmp 18) (.tmp 22) rfl _ nd d rfl HOW3.out (w1.heap.size + 1) 1 ⟨k, ⟨pk, ps, px, pA, pn, pc, pl⟩⟩ rfl HBLK3.out HY3.out HNB.out ?_); intro v' w4 hown hgrow; have hb4 := HBLK2.out.grown hgrow (HBLK2.out.own_ne HOW3.out.1 (by decide)); have e0 := hb4.cell 0; have e1 := hb4.cell 1; have e2 := hb4.cell 2; have e3 := hb4.cell 3; have HO4 := Lib.hid (hown.mono (S' := fun b => w.heap.size ≤ b) (T' := fun b => b < w.heap.size) (fun b _ hb => hb.elim id fun hb => by have := HSZ.out; have := HS3.out; omega) (fun b _ hb => hb.1) (fun q hq hlt => by have := hown.2.2.1 q hq; have := HSZ.out; have := HS3.out; omega)); have HB4 := Lib.hid (HBW.out.grown hgrow HBW.out.size fun q hq => HOW3.out.2.2.1 q hq); clear hown hgrow hb4)
          refine (HCPH.out w4 HB4.out HK2.out).mono ?_
          rintro e w5 ⟨rfl, hb5⟩
          have HO5 := Lib.hid (HO4.out.keep (Fr.of_below hb5 No) (fun _ _ hn => hn) fun _ _ hn => hn)
          have HB5 := Lib.hid (HB4.out.trans (hb5.mono HB4.out.size))
          obtain ⟨vA', vc', hv', _, _, _, _⟩ := HO4.out.reads (by omega)
          subst hv'
          clear hb5
          go_wp2_with fail
          go_roundw
          case rel =>
            refine ⟨_, nd + 1, cm, rfl, HCL.out, by have := HD8.out; omega, HO5.out, HB5.out, ?_⟩
            rw [HE.out (8 - (nd + 1)) (by have := HD8.out; omega), if_neg HK2.out, map_cons_app]
          case measure => simp [lenV]; have := HD8.out; omega
    · obtain rfl : nd = 8 := by omega
      have HMN := must_no 5 wr
      unfold Flt at HMN
      have hE := HRK.out
      go_wp2_with fail
      refine HMN.mono ?_
      rintro e w1 ⟨rfl, rfl⟩
      go_wp2_with fail
      refine ⟨rfl, ?_⟩
      rw [HRK.out]
      exact ⟨rfl, HB.out⟩
end Go.Proofs.Ytcajidlekfkjlaa
