/- Join stands in the shelf. -/
import Derived.Test.YteejpceliodcfaaShelf
