import Derived.Test.YtkhlhokolfaieaaGreatDoorG8
import Derived.LoopN
import Derived.Deep.DeepCutAuto
/-
  Data, where every byte is read at once.
-/
namespace Go.Proofs.YtkhlhokolfaieaaGreatDoor
open Go.RowKit Go.MapKept

/-- Every byte of the list can be read at once. -/
def Xs.Eats (x : Xs) (l : List UInt8) : Prop := ∀ k, k < l.length → (x.reads (l.take k)).cx.kind ≠ 2 ∧ (x.reads (l.take k)).cx.out.length < 250

theorem reads_succ (x : Xs) (s : ByteArray) (k : Nat) (h : k < s.size) : x.reads (s.data.toList.take (k + 1)) = (x.reads (s.data.toList.take k)).read s[k] := by
  have hk : k < s.data.toList.length := by rw [Array.length_toList]; exact h
  unfold Xs.reads
  rw [List.take_succ_eq_append_getElem hk, List.foldl_append]
  rfl
theorem read_op (x : Xs) (b : UInt8) : (x.read b).op = x.op := rfl
theorem reads_op : ∀ (l : List UInt8) (x : Xs), (x.reads l).op = x.op
  | [], _ => rfl
  | b :: l, x => reads_op l (x.read b)
theorem reads_unread : ∀ (l : List UInt8) (x : Xs), (x.reads l).cx.unread = x.cx.unread
  | [], _ => rfl
  | b :: l, x => (reads_unread l (x.read b)).trans (next_unread _ _ _ _)

set_option maxHeartbeats 1600000 in
set_option maxRecDepth 100000 in
theorem data_any {N : Nat} {F Fc : Nat → Prop} {w : World} {S : Nat} {p : Ps} {dv uv ov : Value} {x : Xs} (h : Hid (Sv N F Fc w S p dv uv ov x)) (hop : x.op = true) (bs : ByteArray) (hb : bs.size ≤ 2000000) (he : Hid (x.Eats bs.data.toList)) (hun : x.cx.unread = []) :
    Calls Tryz.prog 14 #[.pointer (some ⟨S, 0, none⟩), .int .i64 0, .string bs] w fun e w' => e = .returned (.int .i64 bs.size) ∧ SvX N F w w' S p (x.reads bs.data.toList) := by
  have HL : Hid (bs.data.toList.length = bs.size) := by show _ = _; rw [Array.length_toList]; rfl
  have c0 : w.cell? ⟨S, 0, none⟩ = some (.map (some p.cm)) := cell_of_heap h.out.srv.blk 0
  have hlook := h.out.cms.look 0
  rw [hop] at hlook
  have e1 : aget [((0 : Int), p.c)] 0 = some p.c := rfl
  simp only [if_true, e1, Option.map_some, Option.getD_some, Option.isSome_some] at hlook
  unfold ptrV at hlook
  go_enter Tryz.func14, Tryz.ntmps14
  go_wp2_with fail
  go_loopw [9] (fun i wr => ∃ k : Nat, i = .int .i64 k ∧ k ≤ bs.size ∧ Hid (SvX N F w wr S p (x.reads (bs.data.toList.take k)))) (fun i _ => bs.size - (intOf i).toNat)
  case atStart => exact ⟨0, rfl, Nat.zero_le _, F, Fc, dv, uv, ov, h.out, Upd.refl _ _, fun k hk => Or.inl hk⟩
  case round =>
    obtain ⟨k, rfl, hk, hat⟩ := hrel
    obtain ⟨F1, Fc1, dv1, uv1, ov1, h1, h2, h3⟩ := hat.out
    clear hat
    have H1 := hid h1
    have H2 := hid h2
    have H3 := hid h3
    clear h1 h2 h3 hlook c0
    by_cases hlt : k < bs.size
    · have hE := he.out k (by rw [HL.out]; exact hlt)
      have HN : Hid (x.reads (bs.data.toList.take (k + 1)) = (x.reads (bs.data.toList.take k)).read bs[k]) := reads_succ x bs k hlt
      have HR := hid (reads_any (hid H1.out.cn) (by omega))
      have HD : Hid (decide ((x.reads (bs.data.toList.take k)).cx.kind ≠ 2 ∧ (x.reads (bs.data.toList.take k)).cx.out.length < 250) = true) := decide_eq_true hE
      rw [HD.out] at HR
      go_wp2_with fail
      refine HR.out.mono ?_
      rintro e w1 ⟨rfl, hu1⟩
      have HS1 := hid (H1.out.keep hu1 (fun _ _ h => h) (fun _ h => h.elim) (by have := H1.out.low S H1.out.own.1; omega))
      have HU1 := hid hu1
      clear hu1
      go_wp2_with fail
      refine (svread_any HS1 hE.1 (by omega) bs[k]).mono ?_
      rintro e w2 ⟨rfl, hr2⟩
      have HE : Hid (SvX N F w w2 S p (x.reads (bs.data.toList.take (k + 1)))) := by
        show SvX _ _ _ _ _ _ _
        rw [HN.out]
        exact SvX.trans H2.out H3.out (SvX.trans (HU1.out.mono (fun _ _ h => h.elim)) (fun k hk => Or.inl hk) hr2)
      clear hr2
      go_wp2
      exact ⟨⟨k + 1, by go_num, by omega, HE⟩, by simp [intOf]; omega⟩
    · obtain rfl : k = bs.size := by omega
      have HX : ByteArray.empty = ⟨#[]⟩ := rfl
      have HT : Hid (bs.data.toList.take bs.size = bs.data.toList) := by show _ = _; rw [← HL.out, List.take_length]
      have hu0 : (x.reads (bs.data.toList.take bs.size)).cx.unread.length ≤ 300 := by rw [reads_unread, hun]; simp
      have HP := hid (putAside_none (hid H1.out.cn) hu0)
      go_wp2_with fail
      refine HP.out.mono ?_
      rintro e w1 ⟨rfl, hc⟩
      have HE : Hid (SvX N F w w1 S p (x.reads bs.data.toList)) := by
        have := SvX.trans H2.out H3.out (H1.out.conn hc H1.out.ci)
        rw [HT.out] at this
        exact this
      clear hc
      go_wp2
      go_ret
      exact ⟨by first | rfl | exact ret_int (by simp), HE.out⟩

end Go.Proofs.YtkhlhokolfaieaaGreatDoor
