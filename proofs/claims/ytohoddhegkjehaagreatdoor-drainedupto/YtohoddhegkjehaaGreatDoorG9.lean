import Derived.Test.YtohoddhegkjehaaGreatDoorG7
import Derived.LoopN
/-
  Data, Open, close, Shut.
-/
namespace Go.Proofs.YtohoddhegkjehaaGreatDoor
open Go.RowKit Go.MapKept

def Xs.after (x : Xs) (id : Int) (z : Cs) : Xs := { x with K := kset x.K id z.cx, L := z.L, u := z.u }
def Xs.gone (x : Xs) (id : Int) : Xs := { x with K := adel x.K id }
/-- The connection c of the server. -/
def Xs.cs (x : Xs) (cx : CX) : Cs := ⟨cx, x.L, x.u⟩

theorem ate_none (dr : Bool) (x : Cs) (l : List UInt8) (h : ¬ x.goes) : x.ate dr l = 0 := by
  cases l with
  | nil => rfl
  | cons b l => unfold Cs.ate; rw [if_neg h]

theorem Cs.fits_of {x : CX} (h : KInv x) (L : Texts) (u : Int) : Cs.Fits ⟨x, L, u⟩ := ⟨h.un, h.fit⟩
theorem KInv.csi {x : CX} (h : KInv x) {L : Texts} {u : Int} (ht : TInv L u) : CsI ⟨x, L, u⟩ := ⟨h.ci, ht, h.out⟩
theorem kinv_of {z : Cs} (h : CsI z) (hf : z.Fits) : KInv z.cx := ⟨h.ci, hf.1, hf.2, h.out⟩
theorem fits_got' (dr : Bool) (x : Cs) (l : List UInt8) (hf : x.Fits) : (x.got dr l).Fits := by
  by_cases hu : x.cx.unread = []
  · exact fits_got dr x l hu
  · have hk := hf.2 hu
    have h0 : x.ate dr l = 0 := ate_none dr x l (fun hg => by have := hg.2; omega)
    unfold Cs.got
    rw [h0]
    show (x.admit (l.drop 0)).Fits
    unfold Cs.admit
    rw [if_neg hk.1]
    refine ⟨?_, fun _ => hk⟩
    have := hf.1
    show (x.cx.unread ++ (l.drop 0).take (300 - x.cx.unread.length)).length ≤ 300
    simp
    omega
theorem KInv.got {x : CX} (h : KInv x) {L : Texts} {u : Int} (ht : TInv L u) (dr : Bool) (l : List UInt8) : KInv (Cs.got dr ⟨x, L, u⟩ l).cx ∧ TInv (Cs.got dr ⟨x, L, u⟩ l).L (Cs.got dr ⟨x, L, u⟩ l).u := by
  have hc := (h.csi ht).got dr l
  exact ⟨kinv_of hc (fits_got' dr _ l (Cs.fits_of h L u)), hc.ti⟩
theorem KInv.take {x : CX} (h : KInv x) {L : Texts} {u : Int} (ht : TInv L u) (dr : Bool) (n : Nat) : KInv (Cs.take dr ⟨x, L, u⟩ n).cx ∧ TInv (Cs.take dr ⟨x, L, u⟩ n).L (Cs.take dr ⟨x, L, u⟩ n).u := by
  have hc := (h.csi ht).take dr n
  exact ⟨kinv_of hc (fits_take dr _ n), hc.ti⟩

set_option maxHeartbeats 800000 in
set_option maxRecDepth 100000 in
theorem data_any {N : Nat} {F : Nat → Prop} {Fs : Int → Nat → Prop} {w : World} {S : Nat} {p : Ps} {x : Xs} (h : Hid (Sv N F Fs w S p x)) {id : Int} {c : Nat} {cx : CX} (hg : Hid (aget x.K id = some (c, cx))) (bs : ByteArray) (hb : bs.size ≤ 4000000) :
    Calls Tryz.prog 14 #[.pointer (some ⟨S, 0, none⟩), .int .i64 id, .string bs] w fun e w' => e = .returned (.int .i64 (Cs.gets x.dr ⟨cx, x.L, x.u⟩ bs.data.toList : Nat)) ∧ SvX N F w w' S p (x.after id (Cs.got x.dr ⟨cx, x.L, x.u⟩ bs.data.toList)) := by
  have c0 : w.cell? ⟨S, 0, none⟩ = some (.map (some p.cm)) := cell_of_heap h.out.srv.blk 0
  have hlook := h.out.cms.look id
  rw [aget_kmap, hg.out] at hlook
  simp only [Option.map_some, Option.getD_some, Option.isSome_some] at hlook
  unfold ptrV at hlook
  have he := aget_mem hg.out
  obtain ⟨dv, uv, ov, hc⟩ := h.out.cn _ he
  have hk := h.out.ki _ he
  have HR := receive_any (hid hc) (hid h.out.srv) (hid (h.out.lies he)) (hid (hk.csi h.out.ti)) hk.un bs hb
  have HE : Hid (Calls Tryz.prog 31 #[.pointer (some ⟨S, 0, none⟩), .pointer (some ⟨c, 0, none⟩), .string bs] w fun e w' => e = .returned (.int .i64 (Cs.gets x.dr ⟨cx, x.L, x.u⟩ bs.data.toList : Nat)) ∧ SvX N F w w' S p (x.after id (Cs.got x.dr ⟨cx, x.L, x.u⟩ bs.data.toList))) := by
    refine HR.mono ?_
    rintro e w' ⟨rfl, hr⟩
    have hq := hk.got h.out.ti x.dr bs.data.toList
    exact ⟨rfl, h.out.upd hg.out hr hq.1 hq.2⟩
  clear HR hc hk he
  go_enter Tryz.func14, Tryz.ntmps14
  go_wp2_with fail
  refine HE.out.mono ?_
  rintro e w1 ⟨rfl, hs⟩
  have HS := hid hs
  clear hs hlook
  go_wp2
  go_ret
  exact ⟨rfl, HS.out⟩

set_option maxHeartbeats 800000 in
set_option maxRecDepth 100000 in
theorem data_none {N : Nat} {F : Nat → Prop} {Fs : Int → Nat → Prop} {w : World} {S : Nat} {p : Ps} {x : Xs} (h : Hid (Sv N F Fs w S p x)) {id : Int} (hg : Hid (aget x.K id = none)) (bs : ByteArray) :
    Calls Tryz.prog 14 #[.pointer (some ⟨S, 0, none⟩), .int .i64 id, .string bs] w fun e w' => e = .returned (.int .i64 0) ∧ Same w w' := by
  have c0 : w.cell? ⟨S, 0, none⟩ = some (.map (some p.cm)) := cell_of_heap h.out.srv.blk 0
  have hlook := h.out.cms.look id
  rw [aget_kmap, hg.out] at hlook
  simp only [Option.map_none, Option.getD_none, Option.isSome_none] at hlook
  go_enter Tryz.func14, Tryz.ntmps14
  go_wp2
  go_ret
  exact ⟨rfl, Upd.refl _ _⟩

set_option maxHeartbeats 800000 in
set_option maxRecDepth 100000 in
theorem open_any {N : Nat} {F : Nat → Prop} {Fs : Int → Nat → Prop} {w : World} {S : Nat} {p : Ps} {x : Xs} (h : Hid (Sv N F Fs w S p x)) (id : Int) :
    Calls Tryz.prog 11 #[.pointer (some ⟨S, 0, none⟩), .int .i64 id] w fun e w' => e = .returned (.bool (aget x.K id).isSome) ∧ Same w w' := by
  have c0 : w.cell? ⟨S, 0, none⟩ = some (.map (some p.cm)) := cell_of_heap h.out.srv.blk 0
  have hlook := h.out.cms.look id
  rw [aget_kmap] at hlook
  cases hg : aget x.K id with
  | none =>
    rw [hg] at hlook
    simp only [Option.map_none, Option.getD_none, Option.isSome_none] at hlook
    clear hg
    go_enter Tryz.func11, Tryz.ntmps11
    go_wp2
    go_ret
    exact ⟨rfl, Upd.refl _ _⟩
  | some q =>
    rw [hg] at hlook
    simp only [Option.map_some, Option.getD_some, Option.isSome_some] at hlook
    unfold ptrV at hlook
    clear hg
    go_enter Tryz.func11, Tryz.ntmps11
    go_wp2
    go_ret
    exact ⟨rfl, Upd.refl _ _⟩

theorem Cm.erase {w : World} {cm : Nat} {K : List (Int × Nat)} (h : Cm w cm K) (id : Int) (ty : TypeId) : ∃ W, (Builtin.delete_ #[46, 3] ty #[.map (some cm), .int .i64 id]).run Tryz.prog w = .ok (.tuple #[]) W ∧ Cm W cm (adel K id) ∧ Upd (fun k => k = cm) w W := by
  obtain ⟨es, clock, h3, h4, h4b⟩ := h
  obtain ⟨es', h5, h6⟩ := run_delete_born (P := Tryz.prog) (w := w) ty Tryz.und46 Tryz.und3' int_key int_inj h3 h4 h4b id
  exact ⟨_, h5, ⟨es', clock, (MapKept.heap_set h3).1, h6⟩, Upd.setObj _⟩

theorem Sv.closed {N : Nat} {F : Nat → Prop} {Fs : Int → Nat → Prop} {w w' : World} {S : Nat} {p : Ps} {x : Xs} (h : Sv N F Fs w S p x) (id : Int) (hu : Upd (fun k => k = p.cm) w w') (hc : Cm w' p.cm (adel (kmap x.K) id)) : SvX N F w w' S p (x.gone id) := by
  have hsz := hu.size
  have hne := h.nes
  have hS := h.low S h.own.1
  have hsub : ∀ e ∈ adel x.K id, e ∈ x.K := fun e he => adel_sub he
  refine ⟨F, Fs, ⟨h.srv.keep hu (fun e => hne.2 e.symm) (fun e => hne.1 e.symm) (fun e => h.ne e.symm), ?_, ?_, ?_, fun e he => h.sub e (hsub e he), fun e he f hf => h.dis e (hsub e he) f (hsub f hf), h.own, fun e he => h.off e (hsub e he), h.ne, fun k hk => ⟨(h.low k hk).1, Nat.lt_of_lt_of_le (h.low k hk).2 hu.size⟩, ?_, fun e he => h.ki e (hsub e he), h.ti, fun e he => h.ids e (hsub e he), ?_⟩, hu.mono (by rintro k _ rfl; exact h.own.2.2.2), fun k hk => Or.inl hk⟩
  · show Cm w' p.cm (kmap (adel x.K id))
    rw [← adel_kmap]; exact hc
  · have hs : List.Sublist ((adel x.K id).map (·.1)) (x.K.map (·.1)) := (List.eraseIdx_sublist _ _).map _
    exact hs.nodup h.nd
  · intro e he
    obtain ⟨dv, uv, ov, hq⟩ := h.cn e (hsub e he)
    exact ⟨dv, uv, ov, hq.keep hu (by rintro k hk rfl; exact (h.off e (hsub e he)).2.2.2 hk)⟩
  · exact h.tb.keep (hu.below (by omega) (fun k hk e => by have := h.low _ h.own.2.2.2; omega))
  · have : (adel x.K id).length ≤ x.K.length := (List.eraseIdx_sublist _ _).length_le
    have := h.few
    show (adel x.K id).length ≤ 4
    omega

set_option maxHeartbeats 800000 in
set_option maxRecDepth 100000 in
theorem close_any {N : Nat} {F : Nat → Prop} {Fs : Int → Nat → Prop} {w : World} {S : Nat} {p : Ps} {x : Xs} (h : Hid (Sv N F Fs w S p x)) (id : Int) :
    Calls Tryz.prog 36 #[.pointer (some ⟨S, 0, none⟩), .int .i64 id] w fun e w' => e = .returned (.tuple #[]) ∧ SvX N F w w' S p (x.gone id) := by
  have c0 : w.cell? ⟨S, 0, none⟩ = some (.map (some p.cm)) := cell_of_heap h.out.srv.blk 0
  obtain ⟨W, hW, hc, hu⟩ := h.out.cms.erase id 0
  have HE := hid (h.out.closed id hu hc)
  clear hc hu
  go_enter Tryz.func36, Tryz.ntmps36
  go_wp2
  exact bodyPost_end (v := .tuple #[]) (by simp [results, Tryz.results36, go_sem]) rfl ⟨rfl, HE.out⟩

set_option maxHeartbeats 800000 in
set_option maxRecDepth 100000 in
theorem shut_any {N : Nat} {F : Nat → Prop} {Fs : Int → Nat → Prop} {w : World} {S : Nat} {p : Ps} {x : Xs} (h : Hid (Sv N F Fs w S p x)) (id : Int) :
    Calls Tryz.prog 32 #[.pointer (some ⟨S, 0, none⟩), .int .i64 id] w fun e w' => e = .returned (.tuple #[]) ∧ SvX N F w w' S p (x.gone id) := by
  go_enter Tryz.func32, Tryz.ntmps32
  go_wp2_with fail
  refine (close_any h id).mono ?_
  rintro e w1 ⟨rfl, hs⟩
  have HS := hid hs
  clear hs
  go_wp2
  exact bodyPost_end (v := .tuple #[]) (by simp [results, Tryz.results32, go_sem]) rfl ⟨rfl, HS.out⟩

end Go.Proofs.YtohoddhegkjehaaGreatDoor

/-
  Take.
-/
namespace Go.Proofs.YtohoddhegkjehaaGreatDoor
open Go.RowKit Go.MapKept

theorem ent34 : Ent 34 := enters_of Tryz.func34 (by kernel_rfl) rfl
theorem ent31 : Ent 31 := enters_of Tryz.func31 (by kernel_rfl) rfl

/-- What a Take leaves. -/
def Xs.taken (x : Xs) (id : Int) (z : Cs) : Xs := if z.cx.kind = 2 ∧ z.cx.out = [] then (x.after id z).gone id else x.after id z

/-- out.drop, unread.drop, receive: on a connection. -/
theorem drop_out {F : Nat → Prop} {w : World} {c : Nat} {x : CX} {dv uv ov : Value} (h : Cn F w c x dv uv ov) (most : Nat) :
    Calls Tryz.prog 34 #[.pointer (some ⟨c, 2, none⟩), .int .i64 most] w fun e w' => e = .returned (.string ⟨(x.out.take most).toArray⟩) ∧ ConnX F w w' c { x with out := x.out.drop most } := by
  refine (qdrop_any (hid h.quOut) most).mono ?_
  rintro e w' ⟨rfl, hq⟩
  exact ⟨rfl, out_at h hq⟩
theorem drop_unread {F : Nat → Prop} {w : World} {c : Nat} {x : CX} {dv uv ov : Value} (h : Cn F w c x dv uv ov) (hl : x.unread.length ≤ 300) :
    Calls Tryz.prog 34 #[.pointer (some ⟨c, 1, none⟩), .int .i64 300] w fun e w' => e = .returned (.string ⟨x.unread.toArray⟩) ∧ ConnX F w w' c { x with unread := [] } := by
  refine (qdrop_any (hid h.quUn) 300).mono ?_
  rw [List.take_of_length_le hl, List.drop_eq_nil_of_le hl]
  rintro e w' ⟨rfl, hq⟩
  exact ⟨rfl, unread_at h hq⟩

set_option maxHeartbeats 1600000 in
set_option maxRecDepth 100000 in
theorem Take_open {N : Nat} {F : Nat → Prop} {Fs : Int → Nat → Prop} {w : World} {S : Nat} {p : Ps} {x : Xs} (h : Hid (Sv N F Fs w S p x)) {id : Int} {c : Nat} {cx : CX} (hg : Hid (aget x.K id = some (c, cx))) (most : Nat) (h1 : 1 ≤ most) :
    Calls Tryz.prog 16 #[.pointer (some ⟨S, 0, none⟩), .int .i64 id, .int .i64 most] w fun e w' => e = .returned (.string ⟨(cx.out.take most).toArray⟩) ∧ SvX N F w w' S p (x.taken id (Cs.take x.dr ⟨cx, x.L, x.u⟩ most)) := by
  have c0 : w.cell? ⟨S, 0, none⟩ = some (.map (some p.cm)) := cell_of_heap h.out.srv.blk 0
  have hlook := h.out.cms.look id
  rw [aget_kmap, hg.out] at hlook
  simp only [Option.map_some, Option.getD_some, Option.isSome_some] at hlook
  unfold ptrV at hlook
  have he := aget_mem hg.out
  obtain ⟨dv, uv, ov, hc⟩ := h.out.cn _ he
  have HK := hid (h.out.ki _ he)
  have HD := hid (drop_out hc most)
  have HL := hid (h.out.lies he)
  clear hc he
  go_enter Tryz.func16, Tryz.ntmps16
  go_wp2_with fail
  refine HD.out.mono ?_
  rintro e w1 ⟨rfl, F1, dv1, uv1, ov1, k1, k2, k3⟩
  have HC1 := hid k1
  have HU1 := hid k2
  have HF1 := hid k3
  clear k1 k2 k3 hlook c0 HD
  go_wp2_with fail
  have HS1 := hid (h.out.srv.keep HU1.out HL.out.dS HL.out.ds HL.out.dm)
  have HL1 := hid (HL.out.step (HU1.out.mono (fun _ _ h => Or.inl h)) HF1.out)
  refine (drop_unread HC1.out HK.out.un).mono ?_
  rintro e w2 ⟨rfl, F2, dv2, uv2, ov2, k1, k2, k3⟩
  have HC2 := hid k1
  have HU2 := hid k2
  have HF2 := hid k3
  have HS2 := hid (HS1.out.keep k2 HL1.out.dS HL1.out.ds HL1.out.dm)
  have HL2 := hid (HL1.out.step (k2.mono (fun _ _ h => Or.inl h)) k3)
  clear k1 k2 k3
  have HI : Hid (CsI ⟨{ cx with out := cx.out.drop most, unread := [] }, x.L, x.u⟩) := ⟨⟨HK.out.ci.rd, HK.out.ci.tag, HK.out.ci.kind⟩, h.out.ti, by have := HK.out.out; show (cx.out.drop most).length ≤ 449; simp; omega⟩
  have hbz : (⟨cx.unread.toArray⟩ : ByteArray).size ≤ 4000000 := by
    have := HK.out.un
    show cx.unread.toArray.size ≤ _
    simp
    omega
  have HR := receive_any HC2 HS2 HL2 HI (Nat.zero_le _) ⟨cx.unread.toArray⟩ hbz
  have e0 : (⟨cx.unread.toArray⟩ : ByteArray).data.toList = cx.unread := rfl
  rw [e0] at HR
  have e1 : Cs.got x.dr ⟨{ cx with out := cx.out.drop most, unread := [] }, x.L, x.u⟩ cx.unread = Cs.take x.dr ⟨cx, x.L, x.u⟩ most := rfl
  have HR' := hid HR
  clear HR e0 hbz
  go_wp2_with fail
  refine HR'.out.mono ?_
  rintro e w3 ⟨rfl, hr3⟩
  have hr3' : ReadX (Fs id) w w3 c S p.s p.m p.cm x.made x.dr (Cs.take x.dr ⟨cx, x.L, x.u⟩ most).cx (Cs.take x.dr ⟨cx, x.L, x.u⟩ most).L (Cs.take x.dr ⟨cx, x.L, x.u⟩ most).u :=
    ReadX.trans (HU1.out.mono (fun _ _ h => Or.inl h)) HF1.out (ReadX.trans (HU2.out.mono (fun _ _ h => Or.inl h)) HF2.out hr3)
  have hq := HK.out.take h.out.ti x.dr most
  have hsv := h.out.upd hg.out hr3' hq.1 hq.2
  have HQ := hid hq
  have HSV : Hid (SvX N F w w3 S p (x.after id (Cs.take x.dr ⟨cx, x.L, x.u⟩ most))) := hsv
  obtain ⟨F3, dv3, uv3, ov3, k1, _, _, _⟩ := hr3'
  have HD := hid (isDone_any (hid k1))
  clear k1 hr3 hq hsv e1
  generalize hZ : Cs.take x.dr ⟨cx, x.L, x.u⟩ most = z at *
  have HZ := hid hZ
  clear hZ HR' HI
  go_wp2_with fail
  refine HD.out.mono ?_
  rintro e w4 ⟨rfl, hu4⟩
  have HU4 := hid hu4
  clear hu4 HD
  by_cases hdone : z.cx.kind = 2 ∧ z.cx.out = []
  · have ed : decide (z.cx.kind = 2 ∧ z.cx.out = []) = true := decide_eq_true hdone
    simp only [ed]
    obtain ⟨F5, Fs5, s1, s2, s3⟩ := HSV.out
    have HC := hid (close_any (hid (s1.same HU4.out)) id)
    have HX : Hid (∀ w5, SvX N F5 w4 w5 S p ((x.after id z).gone id) → SvX N F w w5 S p (x.taken id z)) := by
      intro w5 hs
      unfold Xs.taken
      rw [if_pos hdone]
      exact SvX.trans s2 s3 (SvX.trans (HU4.out.mono (fun _ _ h => h.elim)) (fun _ hk => Or.inl hk) hs)
    clear s1 s2 s3 hdone ed
    go_wp2_with fail
    refine HC.out.mono ?_
    rintro e w5 ⟨rfl, hs5⟩
    have HE := hid (HX.out w5 hs5)
    clear hs5
    go_wp2
    go_ret
    obtain rfl := HZ.out
    exact ⟨rfl, HE.out⟩
  · have ed : decide (z.cx.kind = 2 ∧ z.cx.out = []) = false := decide_eq_false hdone
    simp only [ed]
    obtain ⟨F5, Fs5, s1, s2, s3⟩ := HSV.out
    have HE : Hid (SvX N F w w4 S p (x.taken id z)) := by
      show SvX _ _ _ _ _ _ _
      unfold Xs.taken
      rw [if_neg hdone]
      exact SvX.trans s2 s3 (s1.svx HU4.out)
    clear s1 s2 s3 hdone ed
    go_wp2
    go_ret
    obtain rfl := HZ.out
    exact ⟨rfl, HE.out⟩

set_option maxHeartbeats 800000 in
set_option maxRecDepth 100000 in
theorem Take_none {N : Nat} {F : Nat → Prop} {Fs : Int → Nat → Prop} {w : World} {S : Nat} {p : Ps} {x : Xs} (h : Hid (Sv N F Fs w S p x)) {id : Int} (hg : Hid (aget x.K id = none)) (most : Int) :
    Calls Tryz.prog 16 #[.pointer (some ⟨S, 0, none⟩), .int .i64 id, .int .i64 most] w fun e w' => e = .returned (.string ⟨#[]⟩) ∧ Same w w' := by
  have c0 : w.cell? ⟨S, 0, none⟩ = some (.map (some p.cm)) := cell_of_heap h.out.srv.blk 0
  have hlook := h.out.cms.look id
  rw [aget_kmap, hg.out] at hlook
  simp only [Option.map_none, Option.getD_none, Option.isSome_none] at hlook
  go_enter Tryz.func16, Tryz.ntmps16
  go_wp2
  go_ret
  exact ⟨rfl, Upd.refl _ _⟩

set_option maxHeartbeats 800000 in
set_option maxRecDepth 100000 in
theorem Take_less {N : Nat} {F : Nat → Prop} {Fs : Int → Nat → Prop} {w : World} {S : Nat} {p : Ps} {x : Xs} (h : Hid (Sv N F Fs w S p x)) {id : Int} {c : Nat} {cx : CX} (hg : Hid (aget x.K id = some (c, cx))) (most : Int) (h1 : most < 1) :
    Calls Tryz.prog 16 #[.pointer (some ⟨S, 0, none⟩), .int .i64 id, .int .i64 most] w fun e w' => e = .returned (.string ⟨#[]⟩) ∧ Same w w' := by
  have c0 : w.cell? ⟨S, 0, none⟩ = some (.map (some p.cm)) := cell_of_heap h.out.srv.blk 0
  have hlook := h.out.cms.look id
  rw [aget_kmap, hg.out] at hlook
  simp only [Option.map_some, Option.getD_some, Option.isSome_some] at hlook
  unfold ptrV at hlook
  go_enter Tryz.func16, Tryz.ntmps16
  go_wp2
  go_ret
  exact ⟨rfl, Upd.refl _ _⟩

end Go.Proofs.YtohoddhegkjehaaGreatDoor
