import Derived.Test.YtohoddhegkjehaaGreatDoorK5
import Derived.Test.YtohoddhegkjehaaGreatDoorI5
/-
  Two servers.
-/
namespace Go.Proofs.YtohoddhegkjehaaGreatDoor
open Go.RowKit Go.MapKept

/-- Two servers, in blocks that were not there at w0, apart from each other. -/
structure Two (N : Nat) (w0 wr : World) (Sa : Nat) (pa : Ps) (xa : Xs) (Sb : Nat) (pb : Ps) (xb : Xs) : Prop where
  st : ∃ Fa Fsa Fb Fsb, Sv N Fa Fsa wr Sa pa xa ∧ Sv N Fb Fsb wr Sb pb xb ∧ (∀ k, Fa k → ¬ Fb k) ∧ (∀ k, Fa k → w0.heap.size ≤ k) ∧ (∀ k, Fb k → w0.heap.size ≤ k)
  below : Below w0.heap.size w0 wr

section
variable {N : Nat} {w0 wr : World} {Sa Sb : Nat} {pa pb : Ps} {xa xb : Xs}

theorem Two.swap (h : Two N w0 wr Sa pa xa Sb pb xb) : Two N w0 wr Sb pb xb Sa pa xa := by
  obtain ⟨Fa, Fsa, Fb, Fsb, h1, h2, h3, h4, h5⟩ := h.st
  exact ⟨⟨Fb, Fsb, Fa, Fsa, h2, h1, fun k a b => h3 k b a, h5, h4⟩, h.below⟩

/-- A call on the first. -/
theorem Two.call (h : Two N w0 wr Sa pa xa Sb pb xb) {f : Nat} {vs : Array Value} {y : Xs} {R : Ending → Prop} (hc : ∀ F Fs, Sv N F Fs wr Sa pa xa → Calls Tryz.prog f vs wr fun e w' => R e ∧ SvX N F wr w' Sa pa y) :
    Calls Tryz.prog f vs wr fun e w' => R e ∧ Two N w0 w' Sa pa y Sb pb xb := by
  obtain ⟨Fa, Fsa, Fb, Fsb, h1, h2, h3, h4, h5⟩ := h.st
  refine (hc Fa Fsa h1).mono ?_
  rintro e w' ⟨hR, F', Fs', k1, k2, k3⟩
  have hsz := h.below.size
  refine ⟨hR, ⟨F', Fs', Fb, Fsb, k1, h2.keep k2 (fun k a b => h3 k b a) (fun k hk => (h1.low k hk).1), fun k a b => ?_, fun k hk => ?_, h5⟩, h.below.trans (k2.below hsz (fun k hk e => by have := h4 k e; omega))⟩
  · rcases k3 k a with q | q
    · exact h3 k q b
    · have := (h2.low k b).2; omega
  · rcases k3 k hk with q | q
    · exact h4 k q
    · omega
theorem Two.same (h : Two N w0 wr Sa pa xa Sb pb xb) {f : Nat} {vs : Array Value} {R : Ending → Prop} (hc : ∀ F Fs, Sv N F Fs wr Sa pa xa → Calls Tryz.prog f vs wr fun e w' => R e ∧ Same wr w') :
    Calls Tryz.prog f vs wr fun e w' => R e ∧ Two N w0 w' Sa pa xa Sb pb xb :=
  h.call (fun F Fs hv => (hc F Fs hv).mono (by rintro e w' ⟨h1, h2⟩; exact ⟨h1, hv.svx h2⟩))

theorem Two.connect (h : Two N w0 wr Sa pa xNew Sb pb xb) :
    Calls Tryz.prog 9 #[.pointer (some ⟨Sa, 0, none⟩)] wr fun e w' => e = .returned (.tuple #[.int .i64 0, .bool true]) ∧ ∃ c, Two N w0 w' Sa pa (xNew.joined c) Sb pb xb := by
  refine (h.call (y := xNew.joined wr.heap.size) (R := fun e => e = .returned (.tuple #[.int .i64 0, .bool true])) (fun F Fs hv => connect_any (hid hv) rfl (by decide) (by decide))).mono ?_
  rintro e w' ⟨h1, h2⟩
  exact ⟨h1, _, h2⟩

/-- What comes of all bytes over a new connection. -/
def allOf (l : List UInt8) : Cs × List UInt8 := csNew.run false l
theorem Two.all {c : Nat} (h : Two N w0 wr Sa pa (xNew.joined c) Sb pb xb) (bs : ByteArray) (hb : bs.size ≤ 2000000) (v : Value) (zs : List Int) (hz : IntsAt N w0 v zs) (hN : N ≤ w0.heap.size) (hzl : zs.length ≤ 1000000000) :
    Calls Tryz.prog 10 #[.pointer (some ⟨Sa, 0, none⟩), .int .i64 0, .string bs, v] wr fun e w' => (∃ at_ : Int, e = .returned (.tuple #[.string ⟨(allOf bs.data.toList).2.toArray⟩, .int .i64 at_]) ∧ ((allOf bs.data.toList).1.cx.kind ≠ 2 → at_ = bs.size)) ∧ Two N w0 w' Sa pa ((xNew.joined c).taken 0 (allOf bs.data.toList).1.core) Sb pb xb := by
  refine h.call (fun F Fs hv => ?_)
  refine (all_any (hid hv) (hid (aget_joined c)) (hid ⟨by decide, rfl, rfl⟩) bs hb v zs (hid (hz.keep (h.below.mono hN))) hzl).mono ?_
  rintro e w' ⟨at_, h1, h2, h3⟩
  exact ⟨⟨at_, h1, h3⟩, h2⟩

/-- Is it open, behind all bytes? -/
def opOf (l : List UInt8) : Bool := decide ((allOf l).1.cx.kind ≠ 2)
theorem core_out (z : Cs) : z.core.cx.out = [] := rfl
theorem open_taken (c : Nat) (l : List UInt8) : (aget ((xNew.joined c).taken 0 (allOf l).1.core).K 0).isSome = opOf l := by
  rw [aget_taken (nd_joined c) (aget_joined c)]
  unfold opOf
  have e : (allOf l).1.core.cx.kind = (allOf l).1.cx.kind := rfl
  rw [e]
  by_cases h : (allOf l).1.cx.kind = 2
  · rw [if_pos ⟨h, rfl⟩]; simp [h]
  · rw [if_neg (fun q => h q.1)]; simp [h]
def usedOf (l : List UInt8) : Int := (allOf l).1.u + (if (allOf l).1.cx.kind = 2 then 0 else ((allOf l).1.core.cx.kept : Int))
theorem used_taken (c : Nat) (l : List UInt8) : ((xNew.joined c).taken 0 (allOf l).1.core).u + keptSum ((xNew.joined c).taken 0 (allOf l).1.core).K = usedOf l := by
  unfold usedOf Xs.taken
  have e : (allOf l).1.core.cx.kind = (allOf l).1.cx.kind := rfl
  rw [e]
  by_cases h : (allOf l).1.cx.kind = 2
  · rw [if_pos ⟨h, rfl⟩, if_pos h]; rfl
  · rw [if_neg (fun q => h q.1), if_neg h]
    show (allOf l).1.u + ((((allOf l).1.core.cx.kept : Int)) + 0) = _
    rw [Int.add_zero]

theorem Two.opened {c : Nat} {l : List UInt8} (h : Two N w0 wr Sa pa ((xNew.joined c).taken 0 (allOf l).1.core) Sb pb xb) :
    Calls Tryz.prog 11 #[.pointer (some ⟨Sa, 0, none⟩), .int .i64 0] wr fun e w' => e = .returned (.bool (opOf l)) ∧ Two N w0 w' Sa pa ((xNew.joined c).taken 0 (allOf l).1.core) Sb pb xb := by
  refine h.same (R := fun e => e = .returned (.bool (opOf l))) (fun F Fs hv => ?_)
  have := open_any (hid hv) 0
  rw [open_taken] at this
  exact this
theorem Two.used {c : Nat} {l : List UInt8} (h : Two N w0 wr Sa pa ((xNew.joined c).taken 0 (allOf l).1.core) Sb pb xb) :
    Calls Tryz.prog 12 #[.pointer (some ⟨Sa, 0, none⟩)] wr fun e w' => e = .returned (.int .i64 (usedOf l)) ∧ Two N w0 w' Sa pa ((xNew.joined c).taken 0 (allOf l).1.core) Sb pb xb := by
  refine h.same (R := fun e => e = .returned (.int .i64 (usedOf l))) (fun F Fs hv => ?_)
  have := used_any (hid hv)
  rw [used_taken] at this
  exact this
end

/-- Two new ones. -/
theorem Two.news {N : Nat} {w0 w1 w2 w3 : World} {Sa Sb : Nat} {pa pb : Ps} (hb : Below w0.heap.size w0 w1) (ha : Sv N (fun k => w1.heap.size ≤ k ∧ k < w2.heap.size) (fun _ _ => False) w2 Sa pa xNew) (hu : Same w1 w2) (hb' : Sv N (fun k => w2.heap.size ≤ k ∧ k < w3.heap.size) (fun _ _ => False) w3 Sb pb xNew) (hu' : Same w2 w3) : Two N w0 w3 Sa pa xNew Sb pb xNew := by
  have s1 := hb.size
  have s2 := hu.size
  refine ⟨⟨_, _, _, _, ha.same hu', hb', fun k a b => ?_, fun k hk => ?_, fun k hk => ?_⟩, (hb.trans (hu.below s1 (fun _ _ h => h))).trans (hu'.below (by omega) (fun _ _ h => h))⟩
  · have := a.2; have := b.1; omega
  · have := hk.1; omega
  · have := hk.1; omega

set_option maxHeartbeats 1600000 in
set_option maxRecDepth 100000 in
theorem cut_any (N : Nat) (w : World) (hT : Hid (Tb N w)) (hN : N ≤ w.heap.size) (s : ByteArray) (hs : s.size ≤ 2000000) (v : Value) (zs : List Int) (hz : Hid (IntsAt N w v zs)) (hzl : zs.length ≤ 1000000000) :
    Calls Tryz.prog 3 #[.string s, v] w fun e w' => e = .returned (.bool true) ∧ Below w.heap.size w w' := by
  go_enter Tryz.func3, Tryz.ntmps3
  go_wp2_with fail
  refine (alive_any N w hT hN).mono ?_
  rintro e w1 ⟨rfl, hb1⟩
  have HB1 := hid hb1
  have HT1 := hid (hT.out.keep (hb1.mono hN))
  have hN1 : N ≤ w1.heap.size := Nat.le_trans hN hb1.size
  clear hb1
  go_wp2_with fail
  refine (new_any N w1 HT1 hN1).mono ?_
  rintro e w2 ⟨Sa, pa, rfl, ha, hu2⟩
  have HA := hid ha
  have HU2 := hid hu2
  have HT2 := hid (HT1.out.keep (hu2.below hN1 (fun _ _ h => h)))
  have hN2 : N ≤ w2.heap.size := Nat.le_trans hN1 hu2.size
  clear ha hu2
  go_wp2_with fail
  refine (new_any N w2 HT2 hN2).mono ?_
  rintro e w3 ⟨Sb, pb, rfl, hb, hu3⟩
  have H3 := hid (Two.news HB1.out HA.out HU2.out hb hu3)
  clear hb hu3 HA HU2 HB1
  go_wp2_with fail
  refine H3.out.connect.mono ?_
  rintro e w4 ⟨rfl, ca, h4⟩
  have H4 := hid h4.swap
  clear h4 H3
  go_wp2_with fail
  refine H4.out.connect.mono ?_
  rintro e w5 ⟨rfl, cb, h5⟩
  have H5 := hid h5.swap
  clear h5 H4
  go_wp2_with fail
  refine (H5.out.all s hs (.slice none 0 0) [] .none hN (by decide)).mono ?_
  rintro e w6 ⟨⟨n1, rfl, hn1⟩, h6⟩
  have H6 := hid h6.swap
  have HN1 := hid hn1
  clear h6 H5 hn1
  go_wp2_with fail
  refine (H6.out.all s hs v zs hz.out hN hzl).mono ?_
  rintro e w7 ⟨⟨n2, rfl, hn2⟩, h7⟩
  have H7 := hid h7.swap
  have HN2 := hid hn2
  clear h7 H6 hn2
  go_wp2_with fail
  refine H7.out.opened.mono ?_
  rintro e w8 ⟨rfl, h8⟩
  have H8 := hid h8.swap
  clear h8 H7
  go_wp2_with fail
  refine H8.out.opened.mono ?_
  rintro e w9 ⟨rfl, h9⟩
  have H9 := hid h9.swap
  clear h9 H8
  have HCase : Hid (n1 = n2 ∨ (n1 ≠ n2 ∧ opOf s.data.toList = false)) := by
    show _ ∨ _
    by_cases hn : n1 = n2
    · exact Or.inl hn
    · refine Or.inr ⟨hn, ?_⟩
      unfold opOf
      refine decide_eq_false (fun hk => hn ?_)
      rw [HN1.out hk, HN2.out hk]
  clear HN1 HN2
  rcases HCase.out with hn | ⟨hn, hop⟩
  · subst hn
    clear HCase
    go_wp2_with fail
    refine H9.out.used.mono ?_
    rintro e w10 ⟨rfl, h10⟩
    have H10 := hid h10.swap
    clear h10 H9
    go_wp2_with fail
    refine H10.out.used.mono ?_
    rintro e w11 ⟨rfl, h11⟩
    have HB := hid h11.below
    clear h11 H10
    go_wp2
    go_ret
    exact ⟨by first | rfl | exact ret_bool (by simp), HB.out⟩
  · clear HCase
    simp only [hop]
    go_wp2_with fail
    refine H9.out.used.mono ?_
    rintro e w10 ⟨rfl, h10⟩
    have H10 := hid h10.swap
    clear h10 H9
    go_wp2_with fail
    refine H10.out.used.mono ?_
    rintro e w11 ⟨rfl, h11⟩
    have HB := hid h11.below
    clear h11 H10
    go_wp2
    go_ret
    exact ⟨by first | rfl | exact ret_bool (by simp), HB.out⟩

end Go.Proofs.YtohoddhegkjehaaGreatDoor
