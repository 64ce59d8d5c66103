import Derived.Test.YtjjjlilflbddoaaGreatDoorPut
import Derived.Test.YtjjjlilflbddoaaGreatDoorRun
import Derived.Test.YtjjjlilflbddoaaGreatDoorQDist
namespace Go.Proofs.YtjjjlilflbddoaaGreatDoor
open Go.RowKit

/-- The reader at work: K holds the blocks that stay as they are (the data's among them). -/
structure Live (sp : Nat → Addr) (B rb db : Nat) (K : List Nat) (d out : List UInt8) (w : World) (s : RS) : Prop where
  env : Env sp w
  rd : Rd w rb s
  dat : Dat w db s.dv d
  row : w.ownsRow B 5 1 s.ov out.length (out.map bv)
  apart : ∀ k, s.ov.ownBlock = some k → k ≠ rb ∧ k ∉ K
  b13 : 16 ≤ B
  bsz : B ≤ w.heap.size
  brb : B ≤ rb
  dbK : db ∈ K
  rbK : rb ∉ K
  klt : ∀ k, k ∈ K → k < w.heap.size
  lim : s.lim ≤ 6000
  len : out.length ≤ s.lim
  dlen : d.length ≤ 4000

section
variable {sp : Nat → Addr} {B rb db : Nat} {K : List Nat} {d out : List UInt8} {w w' : World} {s s' : RS}
theorem Live.ne (h : Live sp B rb db K d out w s) {k : Nat} (hk : k ∈ K) : k ≠ rb := fun e => h.rbK (e ▸ hk)
theorem Live.one (h : Live sp B rb db K d out w s) : ∀ {w'}, Fr (One rb) w w' → Fr (Own B K) w w' := fun f => f.mono (fun k _ e => by have e' : k = rb := e; subst e'; exact ⟨h.brb, h.rbK⟩)
theorem Live.r13 (h : Live sp B rb db K d out w s) : 16 ≤ rb := Nat.le_trans h.b13 h.brb
theorem Live.of (h : Live sp B rb db K d out w s) (f : Fr (One rb) w w') (hr : Rd w' rb s') (h1 : s'.dv = s.dv) (h2 : s'.ov = s.ov) (h3 : s'.lim = s.lim) : Live sp B rb db K d out w' s' := by
  have h13 := h.r13
  refine ⟨h.env.fr f (fun k hk => one_ne (by omega)), hr, h1 ▸ h.dat.fr f (one_ne (h.ne h.dbK)), ?_, h2 ▸ h.apart, h.b13, Nat.le_trans h.bsz f.size, h.brb, h.dbK, h.rbK, fun k hk => Nat.lt_of_lt_of_le (h.klt k hk) f.size, h3 ▸ h.lim, h3 ▸ h.len, h.dlen⟩
  rw [h2]
  exact ownsRow_fr h.row f (fun g hg => one_ne (h.apart g hg).1)
theorem Live.form (h : Live sp B rb db K d out w s) : ∃ ao cap, s.ov = .slice ao out.length cap := by
  rcases h.row.2 with ⟨h, h0⟩ | ⟨g, cap, cur, h, _⟩
  · exact ⟨none, 0, by rw [h, h0]⟩
  · exact ⟨_, _, h⟩
/-- A byte that was put out. -/
theorem Live.byte (h : Live sp B rb db K d out w s) {i : Nat} (hi : i < out.length) : ∃ g cap, s.ov = .slice (some ⟨g, 0, none⟩) out.length cap ∧ w.cell? ⟨g, i, none⟩ = some (.int .u8 (out.getD i 0).toNat) := by
  rcases h.row.2 with ⟨_, h0⟩ | ⟨g, cap, cur, hv, _, hh, _, _, _, ht⟩
  · omega
  · refine ⟨g, cap, hv, ?_⟩
    rw [cell_of hh]
    have e1 : (cur.toList.take (out.length * 1))[i]? = (out.map bv)[i]? := by rw [ht]
    rw [List.getElem?_take_of_lt (by omega)] at e1
    rw [← Array.getElem?_toList, e1]
    simp [bv, List.getD, hi]
theorem Live.put (h : Live sp B rb db K d out w s) (hl : out.length < s.lim) (c : UInt8) :
    Calls Tryz.prog 112 #[.pointer (some ⟨rb, 0, none⟩), .int .u8 c.toNat] w fun e w' => e = .returned .nilIface ∧ (∃ ov', Live sp B rb db K d (out ++ [c]) w' { s with ov := ov' }) ∧ Fr (Own B K) w w' := by
  refine (put_ok B rb s out c w h.bsz h.rd h.row (fun e => (h.apart _ e).1 rfl) hl h.lim).mono ?_
  rintro e w' ⟨rfl, g, cap, hr, ho, hg, hf⟩
  have h13 := h.r13
  have hgB : B ≤ g := by
    rcases ho.2 with ⟨hh, _⟩ | ⟨g', _, _, hv, hb, _⟩
    · cases hh
    · injection hv with e1; injection e1 with e2; injection e2 with e3; omega
  have hf2 : Fr (Own B K) w w' := hf.mono (fun k hk e => by
    rcases e with e | e
    · subst e; exact ⟨h.brb, h.rbK⟩
    · refine ⟨?_, (h.apart k e).2⟩
      rcases h.row.2 with ⟨hh, _⟩ | ⟨g', _, _, hv, hb, _⟩
      · rw [hh] at e; cases e
      · rw [hv] at e; simp [Value.ownBlock] at e; omega)
  refine ⟨rfl, ⟨_, h.env.fr hf2 (fun k hk e => by have := e.1; have := h.b13; omega), hr, h.dat.fr hf2 (fun e => e.2 h.dbK), ho, fun k hk => ?_, h.b13, Nat.le_trans h.bsz hf.size, h.brb, h.dbK, h.rbK, fun k hk => Nat.lt_of_lt_of_le (h.klt k hk) hf.size, h.lim, by simp; omega, h.dlen⟩, hf2⟩
  have hkg : g = k := by simpa [Value.ownBlock] using hk
  subst hkg
  rcases hg with hg | hg
  · exact h.apart g hg
  · refine ⟨fun e => ?_, fun e => ?_⟩
    · have := h.rd.lt; omega
    · have := h.klt g e; omega
theorem Live.no (h : Live sp B rb db K d out w s) (hl : ¬ out.length < s.lim) (c : UInt8) :
    Calls Tryz.prog 112 #[.pointer (some ⟨rb, 0, none⟩), .int .u8 c.toNat] w fun e w' => e = .returned (.iface 248 (.pointer (some (sp 8)))) ∧ Fr No w w' := by
  obtain ⟨ao, cap, hov⟩ := h.form
  exact put_no sp rb s out.length cap ao c w h.env h.rd hov (by omega)
end

/-- The blocks of a table are none of bytes. -/
def Tagged (w : World) (tb s1 s2 : Nat) : Prop := (∃ c, w.heap[tb]? = some (.cells c 207 (0, 0))) ∧ (∃ c, w.heap[s1]? = some (.cells c 3 (0, 0))) ∧ ∃ c, w.heap[s2]? = some (.cells c 3 (0, 0))
theorem Tagged.fr {S : Nat → Prop} {w w' : World} {tb s1 s2 : Nat} (h : Tagged w tb s1 s2) (f : Fr S w w') (h0 : ¬ S tb) (h1 : ¬ S s1) (h2 : ¬ S s2) : Tagged w' tb s1 s2 := by
  obtain ⟨⟨a, ha⟩, ⟨b, hb⟩, c, hc⟩ := h
  exact ⟨⟨a, f.at ha h0⟩, ⟨b, f.at hb h1⟩, c, f.at hc h2⟩
/-- A table in memory. -/
structure TableAt (w : World) (K : List Nat) (tb s1 s2 : Nat) (t : Gz.Table) : Prop where
  syms : CodeAt w tb 0 s1 t.syms
  dists : CodeAt w tb 18 s2 t.dists
  g1 : Good t.syms
  g2 : Good t.dists
  k0 : tb ∈ K
  k1 : s1 ∈ K
  k2 : s2 ∈ K
  tg : Tagged w tb s1 s2
theorem TableAt.fr {B : Nat} {K : List Nat} {w w' : World} {tb s1 s2 : Nat} {t : Gz.Table} (h : TableAt w K tb s1 s2 t) (f : Fr (Own B K) w w') : TableAt w' K tb s1 s2 t :=
  ⟨h.syms.fr f (fun e => e.2 h.k0) (fun e => e.2 h.k1), h.dists.fr f (fun e => e.2 h.k0) (fun e => e.2 h.k2), h.g1, h.g2, h.k0, h.k1, h.k2, h.tg.fr f (fun e => e.2 h.k0) (fun e => e.2 h.k1) (fun e => e.2 h.k2)⟩

/-- How a part that puts out comes to its end. -/
def Ran2 {α : Type} (sp : Nat → Addr) (B rb : Nat) (K : List Nat) (w : World) (good : α → Nat → World → Prop) (r : Gz.Out α) (e : Ending) (w' : World) : Prop :=
  Fr (Own B K) w w' ∧ match r with
  | .ok (a, q) => e = .returned .nilIface ∧ good a q w'
  | .error k => (∃ s', Rd w' rb s') ∧ ((k = 2 ∧ ShortP w' e) ∨ (3 ≤ k ∧ k ≤ 8 ∧ ∃ v n, e = .returned v ∧ Err sp w' v k n))

/-- As Ran2, but what was put out (o) is known where a fault was met. -/
def Ran3 {α : Type} (sp : Nat → Addr) (B rb db : Nat) (K : List Nat) (d : List UInt8) (w : World) (s : RS) (good : α → Nat → World → Prop) (r : Gz.Out α) (o : List UInt8) (e : Ending) (w' : World) : Prop :=
  Fr (Own B K) w w' ∧ match r with
  | .ok (a, q) => e = .returned .nilIface ∧ good a q w'
  | .error k => (∃ q ov', Live sp B rb db K d o w' { s with pos := q, ov := ov' }) ∧ ((k = 2 ∧ ShortP w' e) ∨ (3 ≤ k ∧ k ≤ 8 ∧ ∃ v n, e = .returned v ∧ Err sp w' v k n))


end Go.Proofs.YtjjjlilflbddoaaGreatDoor
