/- CONTRACTS of what draws rows of cookies. -/
import Derived.Test.YtdgfiebehnfpgaaDrawP
namespace Go.Proofs.Ytdgfiebehnfpgaa
set_option linter.unusedVariables false
set_option maxRecDepth 4000
open Go.ChangeShapes Go.WideShapes Go.ChangeAt Go.RowKit
open Go.ChangeMaps (open_string shut_string)

namespace Ck

def ckKeys : List (List UInt8) := [[115, 115, 111], [97, 112, 112], [120, 95, 49]]

def ckVals : List (List UInt8) := [[], [118], [97, 61, 98], [116, 46, 117]]

def hostWords : List (List UInt8) := [[111, 110, 101, 46, 101, 120, 97, 109, 112, 108, 101], [97, 112, 112, 46, 111, 110, 101, 46, 101, 120, 97, 109, 112, 108, 101], [116, 119, 111, 46, 101, 120, 97, 109, 112, 108, 101], [111, 110, 101, 46, 101, 120, 97, 109, 112, 108, 101], [120, 111, 110, 101, 46, 101, 120, 97, 109, 112, 108, 101], [101, 120, 97, 109, 112, 108, 101], [97, 45, 49, 46, 98, 50]]

def matchPs : List (List UInt8) := [[47], [47, 97, 112, 112], [47, 97, 112, 112, 47, 120], [47, 97, 112, 112, 108, 105, 99, 97, 116, 105, 111, 110], [47, 97, 112, 112, 47], [120]]

def matchQs : List (List UInt8) := [[47], [47, 97, 112, 112], [47, 97, 112, 112, 47], [47, 97, 112, 112, 47, 120], []]

set_option maxRecDepth 100000 in
set_option maxHeartbeats 800000 in
theorem l06Host_call (B g : Nat) (av : Option Addr) (n c : Nat) (w : World) (hC : CurE w B g av n c) :
    Calls Try.prog 69 #[.pointer (some ⟨g, 0, none⟩)] w fun e w' => ∃ x : List UInt8, x ∈ hostWords ∧ e = .returned (.string (txt x)) ∧ CurE w' B g av n c ∧ w.grownBy w' (some g) := by
  go_enter Try.func69, Try.ntmps69
  go_wp2_with fail
  refine (pick_lit B g av n c hostWords _ _ rfl hC (by decide) (by decide)).mono ?_
  rintro e w2 ⟨x, hx, rfl, hC2, hg2⟩
  go_wp2
  go_ret
  exact ⟨x, hx, rfl, hC2, hg2⟩


end Ck
end Go.Proofs.Ytdgfiebehnfpgaa
