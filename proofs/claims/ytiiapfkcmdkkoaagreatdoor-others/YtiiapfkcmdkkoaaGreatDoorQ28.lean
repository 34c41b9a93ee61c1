import Derived.Test.YtiiapfkcmdkkoaaGreatDoorQ06
import Derived.Test.YtiiapfkcmdkkoaaGreatDoorQ27
import Derived.Test.YtiiapfkcmdkkoaaGreatDoorQ26
/-
  What an answer looks like, by the verifier's own package: the two answers that 'alive' asks for.
-/
namespace Go.Proofs.YtiiapfkcmdkkoaaGreatDoor
open Go.RowKit

/-- 'string([]byte{d})'. -/
theorem byte_string (w : World) (d : UInt8) : (convert 70 9 (.slice (some ⟨w.heap.size, 0, none⟩) 1 1)).run Tryz.prog (w.alloc (.cells #[.int .u8 d.toNat] 5)) = .ok (.string ⟨#[d]⟩) (w.alloc (.cells #[.int .u8 d.toNat] 5)) := by
  refine row_string (bs := [d]) ⟨by simp, Or.inr ⟨w.heap.size, 1, #[.int .u8 d.toNat], rfl, Nat.zero_le _, heap_alloc_new w _, Nat.le_refl _, by decide, rfl, rfl⟩⟩

set_option maxHeartbeats 800000 in
set_option maxRecDepth 100000 in
theorem decimal0 (w : World) : Calls Tryz.prog 62 #[.int .i64 0] w fun e w' => e = .returned (.string ⟨#[48]⟩) ∧ Upd (fun _ => False) w w' := by
  have hb := byte_string w 48
  have e48 : ((48 : UInt8).toNat : Int) = 48 := rfl
  rw [e48] at hb
  go_enter Tryz.func62, Tryz.ntmps62
  go_wp2
  go_ret
  exact ⟨rfl, (Upd.refl _ w).alloc _⟩
set_option maxHeartbeats 800000 in
set_option maxRecDepth 100000 in
theorem decimal2 (w : World) : Calls Tryz.prog 62 #[.int .i64 2] w fun e w' => e = .returned (.string ⟨#[50]⟩) ∧ Upd (fun _ => False) w w' := by
  have hb := byte_string w 50
  have e48 : ((50 : UInt8).toNat : Int) = 50 := rfl
  rw [e48] at hb
  go_enter Tryz.func62, Tryz.ntmps62
  go_wp2
  go_ret
  exact ⟨rfl, (Upd.refl _ w).alloc _⟩

set_option maxHeartbeats 800000 in
set_option maxRecDepth 100000 in
theorem status201 (w : World) : Calls Tryz.prog 61 #[.int .i64 201] w fun e w' => e = .returned (.string ⟨#[50, 48, 49, 32, 67, 114, 101, 97, 116, 101, 100]⟩) ∧ w' = w := by
  go_enter Tryz.func61, Tryz.ntmps61
  go_wp2
  go_ret
  exact ⟨rfl, rfl⟩
set_option maxHeartbeats 800000 in
set_option maxRecDepth 100000 in
theorem status200 (w : World) : Calls Tryz.prog 61 #[.int .i64 200] w fun e w' => e = .returned (.string ⟨#[50, 48, 48, 32, 79, 75]⟩) ∧ w' = w := by
  go_enter Tryz.func61, Tryz.ntmps61
  go_wp2
  go_ret
  exact ⟨rfl, rfl⟩

/-- The two answers. -/
def wr201 : List UInt8 := [72, 84, 84, 80, 47, 49, 46, 49, 32, 50, 48, 49, 32, 67, 114, 101, 97, 116, 101, 100, 13, 10, 67, 111, 110, 116, 101, 110, 116, 45, 76, 101, 110, 103, 116, 104, 58, 32, 48, 13, 10, 13, 10]
def wr200 : List UInt8 := [72, 84, 84, 80, 47, 49, 46, 49, 32, 50, 48, 48, 32, 79, 75, 13, 10, 67, 111, 110, 116, 101, 110, 116, 45, 76, 101, 110, 103, 116, 104, 58, 32, 50, 13, 10, 13, 10, 104, 105]

set_option maxHeartbeats 800000 in
set_option maxRecDepth 100000 in
theorem written201 (w : World) : Calls Tryz.prog 37 #[.int .i64 201, .string ⟨#[]⟩, .bool false, .bool false] w fun e w' => e = .returned (.string ⟨wr201.toArray⟩) ∧ Upd (fun _ => False) w w' := by
  go_enter Tryz.func37, Tryz.ntmps37
  go_wp2_with fail
  refine (status201 w).mono ?_
  rintro e w1 ⟨rfl, rfl⟩
  go_wp2_with fail
  refine (decimal0 _).mono ?_
  rintro e w2 ⟨rfl, hu⟩
  have HU := hid hu
  clear hu
  go_wp2_with fail
  go_ret
  exact ⟨rfl, HU.out⟩
set_option maxHeartbeats 800000 in
set_option maxRecDepth 100000 in
theorem written200 (w : World) : Calls Tryz.prog 37 #[.int .i64 200, .string ⟨#[104, 105]⟩, .bool false, .bool false] w fun e w' => e = .returned (.string ⟨wr200.toArray⟩) ∧ Upd (fun _ => False) w w' := by
  go_enter Tryz.func37, Tryz.ntmps37
  go_wp2_with fail
  refine (status200 w).mono ?_
  rintro e w1 ⟨rfl, rfl⟩
  go_wp2_with fail
  refine (decimal2 _).mono ?_
  rintro e w2 ⟨rfl, hu⟩
  have HU := hid hu
  clear hu
  go_wp2_with fail
  go_ret
  exact ⟨rfl, HU.out⟩

end Go.Proofs.YtiiapfkcmdkkoaaGreatDoor

/-
  alive.
-/
namespace Go.Proofs.YtiiapfkcmdkkoaaGreatDoor
open Go.RowKit Go.MapKept

def putL1 : List UInt8 := [80, 85, 84, 32, 47, 97, 32, 72, 84, 84, 80, 47, 49, 46, 49, 13, 10, 67, 111, 110, 116, 101, 110, 116, 45, 76, 101, 110, 103, 116, 104, 58, 32, 50, 13, 10, 13, 10, 104, 105]
def getL1 : List UInt8 := [71, 69, 84, 32, 47, 97, 32, 72, 84, 84, 80, 47, 49, 46, 49, 13, 10, 13, 10]
def csNew : Cs := ⟨cxNew, [], 0⟩
def csPut : Cs := csNew.got false putL1
def csTook : Cs := csPut.take false 1000
def csGet : Cs := csTook.got false getL1

set_option maxRecDepth 100000 in
theorem gets1 : csNew.gets false putL1 = 40 := by kernel_rfl
set_option maxRecDepth 100000 in
theorem out1 : csPut.cx.out = wr201 := by kernel_rfl
set_option maxRecDepth 100000 in
theorem kind1 : csTook.cx.kind = 0 := by kernel_rfl
set_option maxRecDepth 100000 in
theorem gets2 : csTook.gets false getL1 = 19 := by kernel_rfl
set_option maxRecDepth 100000 in
theorem out2 : csGet.cx.out = wr200 := by kernel_rfl

section
variable {N : Nat} {F : Nat → Prop} {w wr : World} {S : Nat} {p : Ps} {x : Xs} {c : Nat}

theorem aget_joined (c : Nat) : aget (xNew.joined c).K 0 = some (c, cxNew) := rfl
theorem nd_joined (c : Nat) : ((xNew.joined c).K.map (·.1)).Nodup := by show ([0] : List Int).Nodup; simp

theorem alive_put (h : SvX N F w wr S p (xNew.joined c)) :
    Calls Tryz.prog 19 #[.pointer (some ⟨S, 0, none⟩), .int .i64 0, .string ⟨#[80, 85, 84, 32, 47, 97, 32, 72, 84, 84, 80, 47, 49, 46, 49, 13, 10, 67, 111, 110, 116, 101, 110, 116, 45, 76, 101, 110, 103, 116, 104, 58, 32, 50, 13, 10, 13, 10, 104, 105]⟩] wr fun e w' => e = .returned (.int .i64 40) ∧ SvX N F w w' S p ((xNew.joined c).after 0 csPut) := by
  refine h.call (fun F' Fs' hv => ?_)
  refine (data_any (hid hv) (hid (aget_joined c)) ⟨putL1.toArray⟩ (by decide)).mono ?_
  rintro e w' ⟨rfl, hs⟩
  refine ⟨_, hs, fun hs' => ⟨?_, hs'⟩⟩
  have : Cs.gets (xNew.joined c).dr ⟨cxNew, (xNew.joined c).L, (xNew.joined c).u⟩ putL1 = 40 := gets1
  exact congrArg (fun n : Nat => Ending.returned (.int .i64 (n : Int))) this
theorem alive_take1 (h : SvX N F w wr S p ((xNew.joined c).after 0 csPut)) :
    Calls Tryz.prog 22 #[.pointer (some ⟨S, 0, none⟩), .int .i64 0, .int .i64 1000] wr fun e w' => e = .returned (.string ⟨wr201.toArray⟩) ∧ SvX N F w w' S p ((xNew.joined c).after 0 csTook) := by
  refine h.call (fun F' Fs' hv => ?_)
  refine (Take_open (hid hv) (hid (aget_after (aget_joined c) csPut)) 1000 (by decide)).mono ?_
  rintro e w' ⟨rfl, hs⟩
  rw [after_taken] at hs
  have e1 : Cs.take ((xNew.joined c).after 0 csPut).dr ⟨csPut.cx, ((xNew.joined c).after 0 csPut).L, ((xNew.joined c).after 0 csPut).u⟩ 1000 = csTook := rfl
  rw [e1, taken_open _ _ _ (by rw [kind1]; decide)] at hs
  refine ⟨_, hs, fun hs' => ⟨?_, hs'⟩⟩
  rw [out1]; rfl
theorem alive_get (h : SvX N F w wr S p ((xNew.joined c).after 0 csTook)) :
    Calls Tryz.prog 19 #[.pointer (some ⟨S, 0, none⟩), .int .i64 0, .string ⟨#[71, 69, 84, 32, 47, 97, 32, 72, 84, 84, 80, 47, 49, 46, 49, 13, 10, 13, 10]⟩] wr fun e w' => e = .returned (.int .i64 19) ∧ SvX N F w w' S p ((xNew.joined c).after 0 csGet) := by
  refine h.call (fun F' Fs' hv => ?_)
  refine (data_any (hid hv) (hid (aget_after (aget_joined c) csTook)) ⟨getL1.toArray⟩ (by decide)).mono ?_
  rintro e w' ⟨rfl, hs⟩
  rw [after_after] at hs
  refine ⟨_, hs, fun hs' => ⟨?_, hs'⟩⟩
  have : Cs.gets ((xNew.joined c).after 0 csTook).dr ⟨csTook.cx, ((xNew.joined c).after 0 csTook).L, ((xNew.joined c).after 0 csTook).u⟩ getL1 = 19 := gets2
  exact congrArg (fun n : Nat => Ending.returned (.int .i64 (n : Int))) this
theorem alive_take2 (h : SvX N F w wr S p ((xNew.joined c).after 0 csGet)) :
    Calls Tryz.prog 22 #[.pointer (some ⟨S, 0, none⟩), .int .i64 0, .int .i64 1000] wr fun e w' => e = .returned (.string ⟨wr200.toArray⟩) ∧ Upd F w w' := by
  refine h.call (fun F' Fs' hv => ?_)
  refine (Take_open (hid hv) (hid (aget_after (aget_joined c) csGet)) 1000 (by decide)).mono ?_
  rintro e w' ⟨rfl, hs⟩
  refine ⟨_, hs, fun hs' => ⟨?_, ?_⟩⟩
  · rw [out2]; rfl
  · obtain ⟨F1, Fs1, h1, h2, h3⟩ := hs'
    exact h2
end

set_option maxHeartbeats 1600000 in
set_option maxRecDepth 100000 in
theorem alive_any (N : Nat) (w : World) (hT : Hid (Tb N w)) (hN : N ≤ w.heap.size) :
    Calls Tryz.prog 14 #[] w fun e w' => e = .returned (.bool true) ∧ Below w.heap.size w w' := by
  go_enter Tryz.func14, Tryz.ntmps14
  go_wp2_with fail
  refine (new_any N w hT hN).mono ?_
  rintro e w1 ⟨S, p, rfl, hf1, hu1⟩
  have HF1 := hid hf1
  have HU1 := hid hu1
  clear hf1 hu1
  go_wp2_with fail
  refine (connect_any HF1 rfl (by decide) (by decide)).mono ?_
  rintro e w2 ⟨rfl, hs2⟩
  have HA := hid hs2
  have hz : ((xNew.made : Nat) : Int) = 0 := rfl
  rw [hz]
  generalize w1.heap.size = c at HA
  clear hs2 HF1 hz
  go_wp2_with fail
  refine (alive_put HA.out).mono ?_
  rintro e w3 ⟨rfl, ha⟩
  have HA3 := hid ha
  clear ha HA
  go_wp2_with fail
  refine (alive_take1 HA3.out).mono ?_
  rintro e w4 ⟨rfl, ha⟩
  have HA4 := hid ha
  clear ha HA3
  go_wp2_with fail
  refine (alive_get HA4.out).mono ?_
  rintro e w5 ⟨rfl, ha⟩
  have HA5 := hid ha
  clear ha HA4
  go_wp2_with fail
  refine (alive_take2 HA5.out).mono ?_
  rintro e w6 ⟨rfl, ha⟩
  have HB : Hid (Below w.heap.size w w6) := (HU1.out.below (Nat.le_refl _) (fun _ _ h => h)).trans (ha.below HU1.out.size (fun k hk e => by have := e.1; omega))
  clear ha HA5
  have q1 : (wr201 == wr201) = true := by decide
  have q2 : (wr200 == wr200) = true := by decide
  go_wp2_with fail
  refine (written201 _).mono ?_
  rintro e w7 ⟨rfl, hu7⟩
  have HB7 := hid (HB.out.trans (hu7.below HB.out.size (fun _ _ h => h)))
  clear hu7
  go_wp2_with fail
  refine (written200 _).mono ?_
  rintro e w8 ⟨rfl, hu8⟩
  have HB8 := hid (HB7.out.trans (hu8.below HB7.out.size (fun _ _ h => h)))
  clear hu8
  go_wp2
  go_ret
  exact ⟨rfl, HB8.out⟩

end Go.Proofs.YtiiapfkcmdkkoaaGreatDoor

/-
  Two servers.
-/
namespace Go.Proofs.YtiiapfkcmdkkoaaGreatDoor
open Go.RowKit Go.MapKept

/-- Two servers, in blocks that were not there at w0, apart from each other. -/
structure Two (N : Nat) (w0 wr : World) (Sa : Nat) (pa : Ps) (xa : Xs) (Sb : Nat) (pb : Ps) (xb : Xs) : Prop where
  st : ∃ Fa Fsa Fb Fsb, Sv N Fa Fsa wr Sa pa xa ∧ Sv N Fb Fsb wr Sb pb xb ∧ (∀ k, Fa k → ¬ Fb k) ∧ (∀ k, Fa k → w0.heap.size ≤ k) ∧ (∀ k, Fb k → w0.heap.size ≤ k)
  below : Below w0.heap.size w0 wr

section
variable {N : Nat} {w0 wr : World} {Sa Sb : Nat} {pa pb : Ps} {xa xb : Xs}

theorem Two.swap (h : Two N w0 wr Sa pa xa Sb pb xb) : Two N w0 wr Sb pb xb Sa pa xa := by
  obtain ⟨Fa, Fsa, Fb, Fsb, h1, h2, h3, h4, h5⟩ := h.st
  exact ⟨⟨Fb, Fsb, Fa, Fsa, h2, h1, fun k a b => h3 k b a, h5, h4⟩, h.below⟩

/-- A call on the first. -/
theorem Two.call (h : Two N w0 wr Sa pa xa Sb pb xb) {f : Nat} {vs : Array Value} {y : Xs} {R : Ending → Prop} (hc : ∀ F Fs, Sv N F Fs wr Sa pa xa → Calls Tryz.prog f vs wr fun e w' => R e ∧ SvX N F wr w' Sa pa y) :
    Calls Tryz.prog f vs wr fun e w' => R e ∧ Two N w0 w' Sa pa y Sb pb xb := by
  obtain ⟨Fa, Fsa, Fb, Fsb, h1, h2, h3, h4, h5⟩ := h.st
  refine (hc Fa Fsa h1).mono ?_
  rintro e w' ⟨hR, F', Fs', k1, k2, k3⟩
  have hsz := h.below.size
  refine ⟨hR, ⟨F', Fs', Fb, Fsb, k1, h2.keep k2 (fun k a b => h3 k b a) (fun k hk => (h1.low k hk).1), fun k a b => ?_, fun k hk => ?_, h5⟩, h.below.trans (k2.below hsz (fun k hk e => by have := h4 k e; omega))⟩
  · rcases k3 k a with q | q
    · exact h3 k q b
    · have := (h2.low k b).2; omega
  · rcases k3 k hk with q | q
    · exact h4 k q
    · omega
theorem Two.same (h : Two N w0 wr Sa pa xa Sb pb xb) {f : Nat} {vs : Array Value} {R : Ending → Prop} (hc : ∀ F Fs, Sv N F Fs wr Sa pa xa → Calls Tryz.prog f vs wr fun e w' => R e ∧ Same wr w') :
    Calls Tryz.prog f vs wr fun e w' => R e ∧ Two N w0 w' Sa pa xa Sb pb xb :=
  h.call (fun F Fs hv => (hc F Fs hv).mono (by rintro e w' ⟨h1, h2⟩; exact ⟨h1, hv.svx h2⟩))

theorem Two.connect (h : Two N w0 wr Sa pa xNew Sb pb xb) :
    Calls Tryz.prog 10 #[.pointer (some ⟨Sa, 0, none⟩)] wr fun e w' => e = .returned (.tuple #[.int .i64 0, .bool true]) ∧ ∃ c, Two N w0 w' Sa pa (xNew.joined c) Sb pb xb := by
  refine (h.call (y := xNew.joined wr.heap.size) (R := fun e => e = .returned (.tuple #[.int .i64 0, .bool true])) (fun F Fs hv => connect_any (hid hv) rfl (by decide) (by decide))).mono ?_
  rintro e w' ⟨h1, h2⟩
  exact ⟨h1, _, h2⟩

/-- What comes of all bytes over a new connection. -/
def allOf (l : List UInt8) : Cs × List UInt8 := csNew.run false l
theorem Two.all {c : Nat} (h : Two N w0 wr Sa pa (xNew.joined c) Sb pb xb) (bs : ByteArray) (hb : bs.size ≤ 140737488355328) (v : Value) (zs : List Int) (hz : IntsAt N w0 v zs) (hN : N ≤ w0.heap.size) (hzl : zs.length ≤ 140737488355328) :
    Calls Tryz.prog 15 #[.pointer (some ⟨Sa, 0, none⟩), .int .i64 0, .string bs, v] wr fun e w' => (∃ at_ : Int, e = .returned (.tuple #[.string ⟨(allOf bs.data.toList).2.toArray⟩, .int .i64 at_]) ∧ ((allOf bs.data.toList).1.cx.kind ≠ 2 → at_ = bs.size)) ∧ Two N w0 w' Sa pa ((xNew.joined c).taken 0 (allOf bs.data.toList).1.core) Sb pb xb := by
  refine h.call (fun F Fs hv => ?_)
  refine (all_any (hid hv) (hid (aget_joined c)) (hid ⟨by decide, rfl, rfl⟩) bs hb v zs (hid (hz.keep (h.below.mono hN))) hzl).mono ?_
  rintro e w' ⟨at_, h1, h2, h3⟩
  exact ⟨⟨at_, h1, h3⟩, h2⟩

/-- Is it open, behind all bytes? -/
def opOf (l : List UInt8) : Bool := decide ((allOf l).1.cx.kind ≠ 2)
theorem core_out (z : Cs) : z.core.cx.out = [] := rfl
theorem open_taken (c : Nat) (l : List UInt8) : (aget ((xNew.joined c).taken 0 (allOf l).1.core).K 0).isSome = opOf l := by
  rw [aget_taken (nd_joined c) (aget_joined c)]
  unfold opOf
  have e : (allOf l).1.core.cx.kind = (allOf l).1.cx.kind := rfl
  rw [e]
  by_cases h : (allOf l).1.cx.kind = 2
  · rw [if_pos ⟨h, rfl⟩]; simp [h]
  · rw [if_neg (fun q => h q.1)]; simp [h]
def usedOf (l : List UInt8) : Int := (allOf l).1.u + (if (allOf l).1.cx.kind = 2 then 0 else ((allOf l).1.core.cx.kept : Int))
theorem used_taken (c : Nat) (l : List UInt8) : ((xNew.joined c).taken 0 (allOf l).1.core).u + keptSum ((xNew.joined c).taken 0 (allOf l).1.core).K = usedOf l := by
  unfold usedOf Xs.taken
  have e : (allOf l).1.core.cx.kind = (allOf l).1.cx.kind := rfl
  rw [e]
  by_cases h : (allOf l).1.cx.kind = 2
  · rw [if_pos ⟨h, rfl⟩, if_pos h]; rfl
  · rw [if_neg (fun q => h q.1), if_neg h]
    show (allOf l).1.u + ((((allOf l).1.core.cx.kept : Int)) + 0) = _
    rw [Int.add_zero]

theorem Two.opened {c : Nat} {l : List UInt8} (h : Two N w0 wr Sa pa ((xNew.joined c).taken 0 (allOf l).1.core) Sb pb xb) :
    Calls Tryz.prog 16 #[.pointer (some ⟨Sa, 0, none⟩), .int .i64 0] wr fun e w' => e = .returned (.bool (opOf l)) ∧ Two N w0 w' Sa pa ((xNew.joined c).taken 0 (allOf l).1.core) Sb pb xb := by
  refine h.same (R := fun e => e = .returned (.bool (opOf l))) (fun F Fs hv => ?_)
  have := open_any (hid hv) 0
  rw [open_taken] at this
  exact this
theorem Two.used {c : Nat} {l : List UInt8} (h : Two N w0 wr Sa pa ((xNew.joined c).taken 0 (allOf l).1.core) Sb pb xb) :
    Calls Tryz.prog 17 #[.pointer (some ⟨Sa, 0, none⟩)] wr fun e w' => e = .returned (.int .i64 (usedOf l)) ∧ Two N w0 w' Sa pa ((xNew.joined c).taken 0 (allOf l).1.core) Sb pb xb := by
  refine h.same (R := fun e => e = .returned (.int .i64 (usedOf l))) (fun F Fs hv => ?_)
  have := used_any (hid hv)
  rw [used_taken] at this
  exact this
end

/-- Two new ones. -/
theorem Two.news {N : Nat} {w0 w1 w2 w3 : World} {Sa Sb : Nat} {pa pb : Ps} (hb : Below w0.heap.size w0 w1) (ha : Sv N (fun k => w1.heap.size ≤ k ∧ k < w2.heap.size) (fun _ _ => False) w2 Sa pa xNew) (hu : Same w1 w2) (hb' : Sv N (fun k => w2.heap.size ≤ k ∧ k < w3.heap.size) (fun _ _ => False) w3 Sb pb xNew) (hu' : Same w2 w3) : Two N w0 w3 Sa pa xNew Sb pb xNew := by
  have s1 := hb.size
  have s2 := hu.size
  refine ⟨⟨_, _, _, _, ha.same hu', hb', fun k a b => ?_, fun k hk => ?_, fun k hk => ?_⟩, (hb.trans (hu.below s1 (fun _ _ h => h))).trans (hu'.below (by omega) (fun _ _ h => h))⟩
  · have := a.2; have := b.1; omega
  · have := hk.1; omega
  · have := hk.1; omega

set_option maxHeartbeats 1600000 in
set_option maxRecDepth 100000 in
theorem cut_any (N : Nat) (w : World) (hT : Hid (Tb N w)) (hN : N ≤ w.heap.size) (s : ByteArray) (hs : s.size ≤ 140737488355328) (v : Value) (zs : List Int) (hz : Hid (IntsAt N w v zs)) (hzl : zs.length ≤ 140737488355328) :
    Calls Tryz.prog 4 #[.string s, v] w fun e w' => e = .returned (.bool true) ∧ Below w.heap.size w w' := by
  go_enter Tryz.func4, Tryz.ntmps4
  go_wp2_with fail
  refine (alive_any N w hT hN).mono ?_
  rintro e w1 ⟨rfl, hb1⟩
  have HB1 := hid hb1
  have HT1 := hid (hT.out.keep (hb1.mono hN))
  have hN1 : N ≤ w1.heap.size := Nat.le_trans hN hb1.size
  clear hb1
  go_wp2_with fail
  refine (new_any N w1 HT1 hN1).mono ?_
  rintro e w2 ⟨Sa, pa, rfl, ha, hu2⟩
  have HA := hid ha
  have HU2 := hid hu2
  have HT2 := hid (HT1.out.keep (hu2.below hN1 (fun _ _ h => h)))
  have hN2 : N ≤ w2.heap.size := Nat.le_trans hN1 hu2.size
  clear ha hu2
  go_wp2_with fail
  refine (new_any N w2 HT2 hN2).mono ?_
  rintro e w3 ⟨Sb, pb, rfl, hb, hu3⟩
  have H3 := hid (Two.news HB1.out HA.out HU2.out hb hu3)
  clear hb hu3 HA HU2 HB1
  go_wp2_with fail
  refine H3.out.connect.mono ?_
  rintro e w4 ⟨rfl, ca, h4⟩
  have H4 := hid h4.swap
  clear h4 H3
  go_wp2_with fail
  refine H4.out.connect.mono ?_
  rintro e w5 ⟨rfl, cb, h5⟩
  have H5 := hid h5.swap
  clear h5 H4
  go_wp2_with fail
  refine (H5.out.all s hs (.slice none 0 0) [] .none hN (by decide)).mono ?_
  rintro e w6 ⟨⟨n1, rfl, hn1⟩, h6⟩
  have H6 := hid h6.swap
  have HN1 := hid hn1
  clear h6 H5 hn1
  go_wp2_with fail
  refine (H6.out.all s hs v zs hz.out hN hzl).mono ?_
  rintro e w7 ⟨⟨n2, rfl, hn2⟩, h7⟩
  have H7 := hid h7.swap
  have HN2 := hid hn2
  clear h7 H6 hn2
  go_wp2_with fail
  refine H7.out.opened.mono ?_
  rintro e w8 ⟨rfl, h8⟩
  have H8 := hid h8.swap
  clear h8 H7
  go_wp2_with fail
  refine H8.out.opened.mono ?_
  rintro e w9 ⟨rfl, h9⟩
  have H9 := hid h9.swap
  clear h9 H8
  have HCase : Hid (n1 = n2 ∨ (n1 ≠ n2 ∧ opOf s.data.toList = false)) := by
    show _ ∨ _
    by_cases hn : n1 = n2
    · exact Or.inl hn
    · refine Or.inr ⟨hn, ?_⟩
      unfold opOf
      refine decide_eq_false (fun hk => hn ?_)
      rw [HN1.out hk, HN2.out hk]
  clear HN1 HN2
  rcases HCase.out with hn | ⟨hn, hop⟩
  · subst hn
    clear HCase
    go_wp2_with fail
    refine H9.out.used.mono ?_
    rintro e w10 ⟨rfl, h10⟩
    have H10 := hid h10.swap
    clear h10 H9
    go_wp2_with fail
    refine H10.out.used.mono ?_
    rintro e w11 ⟨rfl, h11⟩
    have HB := hid h11.below
    clear h11 H10
    go_wp2
    go_ret
    exact ⟨by first | rfl | exact ret_bool (by simp), HB.out⟩
  · clear HCase
    simp only [hop]
    go_wp2_with fail
    refine H9.out.used.mono ?_
    rintro e w10 ⟨rfl, h10⟩
    have H10 := hid h10.swap
    clear h10 H9
    go_wp2_with fail
    refine H10.out.used.mono ?_
    rintro e w11 ⟨rfl, h11⟩
    have HB := hid h11.below
    clear h11 H10
    go_wp2
    go_ret
    exact ⟨by first | rfl | exact ret_bool (by simp), HB.out⟩

end Go.Proofs.YtiiapfkcmdkkoaaGreatDoor
