import Derived.Test.YtkhlhokolfaieaaGreatDoorI3
import Derived.Test.YtkhlhokolfaieaaGreatDoorH1
/-
  What alive's two requests do.
-/
namespace Go.Proofs.YtkhlhokolfaieaaGreatDoor
open Go.RowKit Go.MapKept

def eatsB : Xs → List UInt8 → Bool
  | _, [] => true
  | x, b :: l => (x.cx.kind != 2) && decide (x.cx.out.length < 250) && eatsB (x.read b) l
theorem eats_of : ∀ (l : List UInt8) (x : Xs), eatsB x l = true → x.Eats l
  | [], _, _ => fun k hk => by simp at hk
  | b :: l, x, h => by
    simp only [eatsB, Bool.and_eq_true, bne_iff_ne, decide_eq_true_eq] at h
    intro k hk
    match k with
    | 0 => exact h.1
    | k + 1 => exact eats_of l (x.read b) h.2 k (by simpa using hk)

def putL1 : List UInt8 := [80, 85, 84, 32, 47, 97, 32, 72, 84, 84, 80, 47, 49, 46, 49, 13, 10, 67, 111, 110, 116, 101, 110, 116, 45, 76, 101, 110, 103, 116, 104, 58, 32, 50, 13, 10, 13, 10, 104, 105]
def getL1 : List UInt8 := [71, 69, 84, 32, 47, 97, 32, 72, 84, 84, 80, 47, 49, 46, 49, 13, 10, 13, 10]
def x00 : Xs := ⟨⟨0, RS.start, [], []⟩, [], 0, true⟩

set_option maxRecDepth 100000 in
theorem eats1 : eatsB x00 putL1 = true := by kernel_rfl
set_option maxRecDepth 100000 in
theorem kind1 : (x00.reads putL1).cx.kind = 0 := by kernel_rfl
set_option maxRecDepth 100000 in
theorem out1 : (x00.reads putL1).cx.out = wr201 := by kernel_rfl
set_option maxRecDepth 100000 in
theorem eats2 : eatsB (x00.reads putL1).took getL1 = true := by kernel_rfl
set_option maxRecDepth 100000 in
theorem out2 : ((x00.reads putL1).took.reads getL1).cx.out = wr200 := by kernel_rfl

end Go.Proofs.YtkhlhokolfaieaaGreatDoor

/-
  alive.
-/
namespace Go.Proofs.YtkhlhokolfaieaaGreatDoor
open Go.RowKit Go.MapKept

/-- The server, in blocks that were not there at w0. -/
def At (N : Nat) (w0 w : World) (S : Nat) (p : Ps) (x : Xs) : Prop := ∃ F Fc dv uv ov, Sv N F Fc w S p dv uv ov x ∧ Below w0.heap.size w0 w ∧ ∀ k, F k → w0.heap.size ≤ k
theorem At.step {N : Nat} {w0 w w' : World} {S : Nat} {p : Ps} {x : Xs} {F : Nat → Prop} (hb : Below w0.heap.size w0 w) (hF : ∀ k, F k → w0.heap.size ≤ k) (h : SvX N F w w' S p x) : At N w0 w' S p x := by
  obtain ⟨F', Fc, dv, uv, ov, h1, h2, h3⟩ := h
  have := hb.size
  refine ⟨F', Fc, dv, uv, ov, h1, hb.trans (h2.below hb.size (fun k hk e => by have := hF k e; omega)), fun k hk => ?_⟩
  rcases h3 k hk with h4 | h4
  · exact hF k h4
  · omega
theorem At.same {N : Nat} {w0 w w' : World} {S : Nat} {p : Ps} {x : Xs} (h : At N w0 w S p x) (hN : N ≤ w0.heap.size) (hu : Same w w') : At N w0 w' S p x := by
  obtain ⟨F', Fc, dv, uv, ov, h1, h2, h3⟩ := h
  have := h2.size
  exact ⟨F', Fc, dv, uv, ov, h1.keep hu (fun _ _ h => h) (fun _ h => h.elim) (by omega), h2.trans (hu.below h2.size (fun _ _ h => h)), h3⟩

theorem At.data {N : Nat} {w0 w : World} {S : Nat} {p : Ps} {x : Xs} (h : At N w0 w S p x) (hop : x.op = true) (l : List UInt8) (hl : l.length ≤ 2000000) (he : x.Eats l) (hun : x.cx.unread = []) :
    Calls Tryz.prog 14 #[.pointer (some ⟨S, 0, none⟩), .int .i64 0, .string ⟨l.toArray⟩] w fun e w' => e = .returned (.int .i64 l.length) ∧ At N w0 w' S p (x.reads l) := by
  obtain ⟨F', Fc, dv, uv, ov, h1, h2, h3⟩ := h
  have hsz : (⟨l.toArray⟩ : ByteArray).size = l.length := by show l.toArray.size = _; simp
  refine (data_any (hid h1) hop ⟨l.toArray⟩ (by rw [hsz]; exact hl) (hid he) hun).mono ?_
  rintro e w' ⟨rfl, hs⟩
  exact ⟨by rw [hsz], At.step h2 h3 hs⟩
theorem At.take {N : Nat} {w0 w : World} {S : Nat} {p : Ps} {x : Xs} (h : At N w0 w S p x) (hop : x.op = true) (hun : x.cx.unread = []) (most : Nat) (h1 : 1 ≤ most) (hm : x.cx.out.length ≤ most) (hm2 : most ≤ 1073741824) :
    Calls Tryz.prog 16 #[.pointer (some ⟨S, 0, none⟩), .int .i64 0, .int .i64 most] w fun e w' => e = .returned (.string ⟨x.cx.out.toArray⟩) ∧ At N w0 w' S p x.took := by
  obtain ⟨F', Fc, dv, uv, ov, h1', h2, h3⟩ := h
  refine (Take_open (hid h1') hop hun most h1 hm hm2).mono ?_
  rintro e w' ⟨rfl, hs⟩
  exact ⟨rfl, At.step h2 h3 hs⟩

/-- The two requests, step by step. -/
structure Two (X0 X1 X2 X3 X4 : Xs) : Prop where
  op0 : X0.op = true ∧ X0.cx.unread = []
  eat0 : X0.Eats putL1
  r1 : X0.reads putL1 = X1
  op1 : X1.op = true ∧ X1.cx.unread = [] ∧ X1.cx.out = wr201
  r2 : X1.took = X2
  op2 : X2.op = true ∧ X2.cx.unread = []
  eat2 : X2.Eats getL1
  r3 : X2.reads getL1 = X3
  op3 : X3.op = true ∧ X3.cx.unread = [] ∧ X3.cx.out = wr200
  r4 : X3.took = X4

theorem took_unread (x : Xs) : x.took.cx.unread = x.cx.unread := rfl
theorem took_op (x : Xs) (h : x.cx.kind = 0) : x.took.op = true := by unfold Xs.took; rw [h]; rfl
theorem x00_unread : x00.cx.unread = [] := rfl
theorem x00_op : x00.op = true := rfl

theorem two_of (X1 X3 : Xs) (h1 : x00.reads putL1 = X1) (h3 : X1.took.reads getL1 = X3) (k1 : X1.cx.kind = 0) (o1 : X1.cx.out = wr201) (e0 : eatsB x00 putL1 = true) (e1 : eatsB X1.took getL1 = true) (o3 : X3.cx.out = wr200) : Two x00 X1 X1.took X3 X3.took := by
  have a1 : X1.op = true := by rw [← h1, reads_op, x00_op]
  have a2 : X1.cx.unread = [] := by rw [← h1, reads_unread, x00_unread]
  have b1 : X1.took.op = true := took_op X1 k1
  have b2 : X1.took.cx.unread = [] := by rw [took_unread, a2]
  have c1 : X3.op = true := by rw [← h3, reads_op, b1]
  have c2 : X3.cx.unread = [] := by rw [← h3, reads_unread, b2]
  exact ⟨⟨x00_op, x00_unread⟩, eats_of _ _ e0, h1, ⟨a1, a2, o1⟩, rfl, ⟨b1, b2⟩, eats_of _ _ e1, h3, ⟨c1, c2, o3⟩, rfl⟩

theorem At.put1 {N : Nat} {w0 w : World} {S : Nat} {p : Ps} {X0 X1 X2 X3 X4 : Xs} (h : At N w0 w S p X0) (H : Two X0 X1 X2 X3 X4) :
    Calls Tryz.prog 14 #[.pointer (some ⟨S, 0, none⟩), .int .i64 0, .string ⟨#[80, 85, 84, 32, 47, 97, 32, 72, 84, 84, 80, 47, 49, 46, 49, 13, 10, 67, 111, 110, 116, 101, 110, 116, 45, 76, 101, 110, 103, 116, 104, 58, 32, 50, 13, 10, 13, 10, 104, 105]⟩] w fun e w' => e = .returned (.int .i64 40) ∧ At N w0 w' S p X1 := by
  have := h.data H.op0.1 putL1 (by decide) H.eat0 H.op0.2
  rw [H.r1] at this
  exact this
theorem At.take1 {N : Nat} {w0 w : World} {S : Nat} {p : Ps} {X0 X1 X2 X3 X4 : Xs} (h : At N w0 w S p X1) (H : Two X0 X1 X2 X3 X4) :
    Calls Tryz.prog 16 #[.pointer (some ⟨S, 0, none⟩), .int .i64 0, .int .i64 1000] w fun e w' => e = .returned (.string ⟨wr201.toArray⟩) ∧ At N w0 w' S p X2 := by
  have := h.take H.op1.1 H.op1.2.1 1000 (by decide) (by rw [H.op1.2.2]; decide) (by decide)
  rw [H.r2, H.op1.2.2] at this
  exact this
theorem At.get1 {N : Nat} {w0 w : World} {S : Nat} {p : Ps} {X0 X1 X2 X3 X4 : Xs} (h : At N w0 w S p X2) (H : Two X0 X1 X2 X3 X4) :
    Calls Tryz.prog 14 #[.pointer (some ⟨S, 0, none⟩), .int .i64 0, .string ⟨#[71, 69, 84, 32, 47, 97, 32, 72, 84, 84, 80, 47, 49, 46, 49, 13, 10, 13, 10]⟩] w fun e w' => e = .returned (.int .i64 19) ∧ At N w0 w' S p X3 := by
  have := h.data H.op2.1 getL1 (by decide) H.eat2 H.op2.2
  rw [H.r3] at this
  exact this
theorem At.take2 {N : Nat} {w0 w : World} {S : Nat} {p : Ps} {X0 X1 X2 X3 X4 : Xs} (h : At N w0 w S p X3) (H : Two X0 X1 X2 X3 X4) :
    Calls Tryz.prog 16 #[.pointer (some ⟨S, 0, none⟩), .int .i64 0, .int .i64 1000] w fun e w' => e = .returned (.string ⟨wr200.toArray⟩) ∧ At N w0 w' S p X4 := by
  have := h.take H.op3.1 H.op3.2.1 1000 (by decide) (by rw [H.op3.2.2]; decide) (by decide)
  rw [H.r4, H.op3.2.2] at this
  exact this

set_option maxHeartbeats 1600000 in
set_option maxRecDepth 100000 in
theorem alive_two (N : Nat) (w : World) (hT : Hid (Tb N w)) (hN : N ≤ w.heap.size) (X1 X2 X3 X4 : Xs) (H : Hid (Two x00 X1 X2 X3 X4)) :
    Calls Tryz.prog 7 #[] w fun e w' => e = .returned (.bool true) ∧ Below w.heap.size w w' := by
  go_enter Tryz.func7, Tryz.ntmps7
  go_wp2_with fail
  refine (new_any N w hT hN).mono ?_
  rintro e w1 ⟨S, s, m, cm, rfl, hf1, hu1⟩
  have HF1 := hid hf1
  have HU1 := hid hu1
  clear hf1 hu1
  go_wp2_with fail
  refine (connect_any HF1).mono ?_
  rintro e w2 ⟨rfl, c, hs2⟩
  have HA : Hid (At N w w2 S ⟨s, m, cm, c⟩ x00) := At.step (HU1.out.below (Nat.le_refl _) (fun _ _ h => h)) (fun k hk => hk.1) hs2
  generalize (⟨s, m, cm, c⟩ : Ps) = p at HA
  clear hs2 HF1 HU1
  go_wp2_with fail
  refine (HA.out.put1 H.out).mono ?_
  rintro e w3 ⟨rfl, ha⟩
  have HA3 := hid ha
  clear ha HA
  go_wp2_with fail
  refine (HA3.out.take1 H.out).mono ?_
  rintro e w4 ⟨rfl, ha⟩
  have HA4 := hid ha
  clear ha HA3
  go_wp2_with fail
  refine (HA4.out.get1 H.out).mono ?_
  rintro e w5 ⟨rfl, ha⟩
  have HA5 := hid ha
  clear ha HA4
  go_wp2_with fail
  refine (HA5.out.take2 H.out).mono ?_
  rintro e w6 ⟨rfl, ha⟩
  have HB : Hid (Below w.heap.size w w6) := by obtain ⟨F', Fc, dv, uv, ov, h1, h2, h3⟩ := ha; exact h2
  clear ha HA5 H
  have q1 : (wr201 == wr201) = true := by decide
  have q2 : (wr200 == wr200) = true := by decide
  go_wp2_with fail
  refine (written201 _).mono ?_
  rintro e w7 ⟨rfl, hu7⟩
  have HB7 := hid (HB.out.trans (hu7.below HB.out.size (fun _ _ h => h)))
  clear hu7
  go_wp2_with fail
  refine (written200 _).mono ?_
  rintro e w8 ⟨rfl, hu8⟩
  have HB8 := hid (HB7.out.trans (hu8.below HB7.out.size (fun _ _ h => h)))
  clear hu8
  go_wp2
  go_ret
  exact ⟨rfl, HB8.out⟩

theorem alive_any (N : Nat) (w : World) (hT : Hid (Tb N w)) (hN : N ≤ w.heap.size) :
    Calls Tryz.prog 7 #[] w fun e w' => e = .returned (.bool true) ∧ Below w.heap.size w w' :=
  alive_two N w hT hN _ _ _ _ (hid (two_of _ _ rfl rfl kind1 out1 eats1 eats2 out2))

end Go.Proofs.YtkhlhokolfaieaaGreatDoor
